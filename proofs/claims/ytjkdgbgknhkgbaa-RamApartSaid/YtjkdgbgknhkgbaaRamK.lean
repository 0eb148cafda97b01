/- What package ram answers of nobody, and the page's example. No conditions. -/
import Derived.Test.YtjkdgbgknhkgbaaRamA
namespace Go.Proofs.Ytjkdgbgknhkgbaa
open Go.RowKit

theorem no_place (x : Int) : ¬ (0 ≤ x ∧ x < (0 : Nat)) := by omega
theorem ramLoad_none {m : Value} {x : Int} {w : World} (h : Held m w (.slice none 0 0)) (hx : -2147483648 ≤ x ∧ x ≤ 2147483647) :
    Calls Try.prog 9 #[m, .int .i32 x] w fun e w' => e = .returned (.tuple #[.int .i32 0, .bool false]) ∧ Below w.heap.size w w' := ramLoad_out h hx (no_place x) (by decide)
theorem ramStore_none {m : Value} {x u : Int} {w : World} (h : Held m w (.slice none 0 0)) (hx : -2147483648 ≤ x ∧ x ≤ 2147483647) :
    Calls Try.prog 8 #[m, .int .i32 x, .int .i32 u] w fun e w' => e = .returned (.bool false) ∧ Below w.heap.size w w' := ramStore_out h hx (no_place x) (by decide)
theorem ramLen_none {m : Value} {w : World} (h : Held m w (.slice none 0 0)) :
    Calls Try.prog 11 #[m] w fun e w' => e = .returned (.int .i64 0) ∧ Below w.heap.size w w' :=
  (ramLen_held h).mono fun _ _ ⟨he, hw⟩ => ⟨he, hw ▸ Below.refl _ _⟩
theorem ramAll_none {m : Value} {w : World} (h : Held m w (.slice none 0 0)) :
    Calls Try.prog 13 #[m] w fun e w' => ∃ a c, e = .returned (.slice a 0 c) ∧ Below w.heap.size w w' := by
  refine (ramAll_held h (Ws.emp w) (by decide)).mono ?_
  rintro e w' ⟨v, rfl, ho, hb⟩
  obtain ⟨a, c, rfl, -⟩ := ho.ws
  exact ⟨a, c, rfl, hb⟩
theorem ramLoad_at {base b : Nat} {v : Value} {L : List Int} {w : World} {x y : Int} {k : Bool} (h : RamAt 43 21 w base b v L) (hL : L.length ≤ 1048576) (hx : -2147483648 ≤ x ∧ x ≤ 2147483647) (hy : ldV L x = y) (hk : ldB L x = k) :
    Calls Try.prog 9 #[.pointer (some ⟨b, 0, none⟩), .int .i32 x] w fun e w' => e = .returned (.tuple #[.int .i32 y, .bool k]) ∧ Below w.heap.size w w' := by
  subst hy hk
  exact (ramLoad_is x h hL hx).mono fun _ _ h => h
/-- One that New did not make. -/
theorem odd_at (w : World) : Held (.pointer (some ⟨w.heap.size, 0, none⟩)) (w.alloc (.cells #[.slice none 0 0, .pointer none] 43)) (.slice none 0 0) := held_odd (BlkAt.new w _ _)
/-- What was there first stays. -/
theorem on_below {W w w' : World} (h : Below W.heap.size W w) (k : Below w.heap.size w w') : Below W.heap.size W w' := h.trans (k.mono h.size)
theorem lit12 (w : World) : Ws (w.alloc (.cells #[.int .i32 1, .int .i32 2] 21)) (some ⟨w.heap.size, 0, none⟩) 2 2 [1, 2] := by
  obtain ⟨a, c, e, h⟩ := (OwnW.lit w 21 (Nat.le_refl _) [1, 2] (by unfold maxLen; simp) #[.int .i32 1, .int .i32 2] rfl).ws
  simp only [Value.slice.injEq] at e
  obtain ⟨rfl, -, rfl⟩ := e
  exact h

set_option maxHeartbeats 4000000 in
theorem ramAwake_is (w : World) : Calls Try.prog 5 #[] w fun e w' => e = .returned (.bool true) ∧ Below w.heap.size w w' := by
  have HL := Lib.hid (lit12 w)
  have HA := Lib.hid (fun o => (Below.refl w.heap.size w).alloc (Nat.le_refl _) o)
  go_enter Try.func5, Try.ntmps5
  go_wp2_with (first
    | (go_at_call 6; ((with_reducible refine (ramNew_is _ 2 2 [1, 2] _ HL.out (by decide)).mono ?_); rintro e w1 ⟨b, v, rfl, hr, hk⟩); have HR := Lib.hid hr; have HK := Lib.hid (on_below (HA.out _) hk); clear hr hk)
    | (go_at_call 9; ((with_reducible refine (ramLoad_at (x := 1) (y := 2) (k := true) HR.out (by simp) (by decide) rfl rfl).mono ?_); rintro e w2 ⟨rfl, hk⟩); have HR2 := Lib.hid (HR.out.keep hk); have HK2 := Lib.hid (on_below HK.out hk); clear hk)
    | (go_at_call 9; ((with_reducible refine (ramLoad_at (x := 2) (y := 0) (k := false) HR2.out (by simp) (by decide) rfl rfl).mono ?_); rintro e w3 ⟨rfl, hk⟩); have HK3 := Lib.hid (on_below HK2.out hk); clear hk)
    | (go_at_call 9; ((with_reducible refine (ramLoad_none (held_nil _) (by decide)).mono ?_); rintro e w4 ⟨rfl, hk⟩); have HO4 := Lib.hid ((odd_at _).keep hk); have HK4 := Lib.hid (on_below (HK3.out.alloc HK3.out.size _) hk); clear hk)
    | (go_at_call 9; ((with_reducible refine (ramLoad_none HO4.out (by decide)).mono ?_); rintro e w5 ⟨rfl, hk⟩); have HO5 := Lib.hid (HO4.out.keep hk); have HK5 := Lib.hid (on_below HK4.out hk); clear hk)
    | (go_at_call 8; ((with_reducible refine (ramStore_none (held_nil _) (by decide)).mono ?_); rintro e w6 ⟨rfl, hk⟩); have HO6 := Lib.hid (HO5.out.keep hk); have HK6 := Lib.hid (on_below HK5.out hk); clear hk)
    | (go_at_call 8; ((with_reducible refine (ramStore_none HO6.out (by decide)).mono ?_); rintro e w7 ⟨rfl, hk⟩); have HO7 := Lib.hid (HO6.out.keep hk); have HK7 := Lib.hid (on_below HK6.out hk); clear hk)
    | (go_at_call 11; ((with_reducible refine (ramLen_none (held_nil _)).mono ?_); rintro e w8 ⟨rfl, hk⟩); have HO8 := Lib.hid (HO7.out.keep hk); have HK8 := Lib.hid (on_below HK7.out hk); clear hk)
    | (go_at_call 11; ((with_reducible refine (ramLen_none HO8.out).mono ?_); rintro e w9 ⟨rfl, hk⟩); have HO9 := Lib.hid (HO8.out.keep hk); have HK9 := Lib.hid (on_below HK8.out hk); clear hk)
    | (go_at_call 13; ((with_reducible refine (ramAll_none (held_nil _)).mono ?_); rintro e w10 ⟨a1, c1, rfl, hk⟩); have HO10 := Lib.hid (HO9.out.keep hk); have HK10 := Lib.hid (on_below HK9.out hk); clear hk)
    | (go_at_call 13; ((with_reducible refine (ramAll_none HO10.out).mono ?_); rintro e w11 ⟨a2, c2, rfl, hk⟩); have HK11 := Lib.hid (on_below HK10.out hk); clear hk))
  go_ret
  exact ⟨rfl, HK11.out⟩
end Go.Proofs.Ytjkdgbgknhkgbaa
