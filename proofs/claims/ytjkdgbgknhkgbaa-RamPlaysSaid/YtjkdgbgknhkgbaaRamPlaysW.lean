/- The walk of the law RamPlays: it returns true and writes nothing that was there. -/
import Derived.Test.YtjkdgbgknhkgbaaRamK
import Derived.Test.YtjkdgbgknhkgbaaRamV
namespace Go.Proofs.Ytjkdgbgknhkgbaa
open Go.RowKit

namespace ramPlays
/-- How far the moves are: memory and list hold the same words. -/
def PlayAt (W : World) (b n : Nat) (v lw : Value) (wr : World) : Prop :=
  ∃ a c L, lw = .slice a n c ∧ RamAt 43 21 wr W.heap.size b v L ∧ Ws wr a n c L ∧ (0 < n → ∀ g off, a = some ⟨g, off, none⟩ → v.ownBlock ≠ some g) ∧ Below W.heap.size W wr
theorem refLoad_at {a : Option Addr} {n c : Nat} {L : List Int} {x y : Int} {k : Bool} {w : World} (h : Ws w a n c L) (hx : -2147483648 ≤ x ∧ x ≤ 2147483647) (hy : ldV L x = y) (hk : ldB L x = k) :
    Calls Try.prog 10 #[.slice a n c, .int .i32 x] w fun e w' => e = .returned (.tuple #[.int .i32 y, .bool k]) ∧ w = w' := by
  subst hy hk
  exact (refLoad_is a n c L x w h hx).mono fun _ _ h => h
/-- The list that the document keeps, behind a word put there. -/
theorem refStore_at {W : World} {b n c : Nat} {v : Value} {a : Option Addr} {L : List Int} {x : Int} (u : Int) {k : Bool} {w : World} (h : Ws w a n c L) (hx : -2147483648 ≤ x ∧ x ≤ 2147483647) (hn : n ≤ 1048576) (hk : ldB L x = k) (hR : RamAt 43 21 w W.heap.size b v L) (hoff : 0 < n → ∀ g off, a = some ⟨g, off, none⟩ → v.ownBlock ≠ some g) :
    Calls Try.prog 7 #[.slice a n c, .int .i32 x, .int .i32 u] w fun e w' => ∃ a' c', e = .returned (.tuple #[.slice a' n c', .bool k]) ∧ Ws w' a' n c' (stL L x u) ∧ RamAt 43 21 w' W.heap.size b v L ∧ (0 < n → ∀ g off, a' = some ⟨g, off, none⟩ → v.ownBlock ≠ some g) ∧ Below w.heap.size w w' := by
  subst hk
  refine (refStore_is a n c L x u w h hx hn).mono ?_
  rintro e w' ⟨a', c', rfl, hw, hb, hf⟩
  refine ⟨a', c', rfl, hw, hR.keep hb, fun h0 g off e hv => ?_, hb⟩
  rcases hf g off e with e2 | e2
  · exact hoff h0 g off (e2 ▸ e) hv
  · have := (hR.own.lt g hv).2
    omega
/-- A word put into the memory: the list beside it stays. -/
theorem store_at {W : World} {b n c : Nat} {v : Value} {a : Option Addr} {L : List Int} {x : Int} (u : Int) {k : Bool} {w : World} (hR : RamAt 43 21 w W.heap.size b v L) (hL : L.length ≤ 1048576) (hx : -2147483648 ≤ x ∧ x ≤ 2147483647) (hk : ldB L x = k) (h : Ws w a n c (stL L x u)) (hoff : 0 < n → ∀ g off, a = some ⟨g, off, none⟩ → v.ownBlock ≠ some g) (hb : Below W.heap.size W w) :
    Calls Try.prog 8 #[.pointer (some ⟨b, 0, none⟩), .int .i32 x, .int .i32 u] w fun e w' => e = .returned (.bool k) ∧ RamAt 43 21 w' W.heap.size b v (stL L x u) ∧ Ws w' a n c (stL L x u) ∧ Below W.heap.size W w' := by
  subst hk
  refine (ramStore_is x u hR hL hx).mono ?_
  rintro e w' ⟨rfl, hr, hg⟩
  refine ⟨rfl, hr, h.on fun h0 g off e hl => hg.block g hl (fun e2 => hoff h0 g off e e2.symm), hb.grown hg hb.size (fun q hq => (hR.own.lt q hq).1)⟩
set_option maxRecDepth 100000 in
set_option maxHeartbeats 4000000 in
theorem within (a : Option Addr) (n c : Nat) (l : List Int) (ma : Option Addr) (mn mc : Nat) (w : World) (h : Ws w a n c l) (hm : MovesAt w ma mn mc) (hn : n ≤ 2048) (hmn : mn ≤ 200) :
    Calls Try.prog 3 #[.slice a n c, .slice ma mn mc] w fun e w' => e = .returned (.bool true) ∧ Below w.heap.size w w' := by
  have HW := Lib.hid h
  have HM := Lib.hid hm
  have hcap := h.cap
  have hmcap := hm.cap
  have hbig := h.big
  have hmbig := hm.big
  unfold maxLen at hbig hmbig
  have hl := h.len
  have HLN := Lib.hid hl
  clear h hm hl
  go_enter Try.func3, Try.ntmps3
  go_wp2_with (first
    | (go_at_call 6; ((with_reducible refine (ramNew_is a n c l _ HW.out hn).mono ?_); rintro e w1 ⟨b, v, rfl, hr, hk⟩); have HP := Lib.hid (show PlayAt w b n v (.slice a n c) w1 from ⟨a, c, l, rfl, hr, HW.out.keep hk, (fun hn0 g off e hv => by
        have h1 := (hr.own.lt g hv).1
        obtain ⟨g', off', e', hc⟩ := HW.out.lie hn0
        have h2 := cell_lt (hc 0 hn0)
        rw [e] at e'
        simp only [Option.some.injEq, Addr.mk.injEq] at e'
        have h3 : g < w.heap.size := by rw [e'.1]; exact h2
        omega), hk⟩); clear hr hk))
  go_loopw [7, 8] (fun lw i wr => ∃ k : Nat, k ≤ mn ∧ i = .int .i64 k ∧ PlayAt w b n v lw wr) (fun _ i _ => mn - (intOf i).toNat)
  case atStart => exact ⟨0, by omega, rfl, HP.out⟩
  case round =>
    obtain ⟨k, hk, rfl, a1, c1, L, rfl, hR, hL, hoff, hb⟩ := hrel
    by_cases hlt : k < mn
    · obtain ⟨mb, mo, s, x, u, rfl, m0, m1, m2, hx0, hx1⟩ := ((HM.out.keep hb)).lie k hlt
      have hlt' : (k : Int) < mn := by omega
      have HC := Lib.hid (show mb < w.heap.size ∧ w.cell? ⟨mb, mo + k * 3 + 1, none⟩ = some (.int .i32 x) from by
        obtain ⟨b', o', s', x', u', e', c0, c1, -⟩ := HM.out.lie k hlt
        simp only [Option.some.injEq, Addr.mk.injEq, and_true] at e'
        obtain ⟨rfl, rfl⟩ := e'
        exact ⟨cell_lt c0, ((hb.cell (p := ⟨mb, _, none⟩) (cell_lt c1)).symm.trans m1)⟩)
      have HR := Lib.hid hR
      have HL := Lib.hid hL
      have HF := Lib.hid hoff
      have HB := Lib.hid hb
      clear hR hL hoff hb
      have hlenL : L.length = n := HL.out.len
      have HLL := Lib.hid (show L.length ≤ 1048576 by omega)
      have HX := Lib.hid (And.intro hx0 hx1)
      clear hlenL
      cases s
      · obtain ⟨y, hy⟩ : ∃ y, ldV L x = y := ⟨_, rfl⟩
        obtain ⟨ok, hok⟩ : ∃ y, ldB L x = y := ⟨_, rfl⟩
        have HY := Lib.hid hy
        have HK := Lib.hid hok
        have e1 : (y != y) = false := by simp
        have e2 : (ok != ok) = false := by simp
        clear hy hok
        go_wp2_with (first
          | (go_at_call 9; ((with_reducible refine (ramLoad_at HR.out HLL.out HX.out HY.out HK.out).mono ?_); rintro e w2 ⟨rfl, hk⟩); have HR2 := Lib.hid (HR.out.keep hk); have HL2 := Lib.hid (HL.out.keep hk); have HB2 := Lib.hid (on_below HB.out hk); have m3 := (hk.cell (p := ⟨mb, _, none⟩) (cell_lt m1)).trans m1; clear hk)
          | (go_at_call 10; ((with_reducible refine (refLoad_at HL2.out HX.out HY.out HK.out).mono ?_); rintro e w3 ⟨rfl, rfl⟩)))
        go_roundw
        case rel => exact ⟨k + 1, by omega, by go_num, _, _, L, rfl, HR2.out, HL2.out, HF.out, HB2.out⟩
        case measure => simp [intOf]; omega
      · obtain ⟨y, hy⟩ : ∃ y, ldV (stL L x u) x = y := ⟨_, rfl⟩
        obtain ⟨ok, hok⟩ : ∃ y, ldB L x = y := ⟨_, rfl⟩
        have HY := Lib.hid hy
        have HK := Lib.hid hok
        have HK2 := Lib.hid (show ldB (stL L x u) x = ok by rw [← hok]; unfold ldB; rw [stL_len])
        have HLM := Lib.hid (show (stL L x u).length ≤ 1048576 by rw [stL_len]; exact HLL.out)
        have e1 : (y != y) = false := by simp
        have e2 : (ok != ok) = false := by simp
        clear hy hok
        go_wp2_with fail
        go_region_law (go_simp; go_at_call 7; ((with_reducible refine (refStore_at u (HL.out.keep (Below.refl _ _).drew) HX.out (by omega) HK.out (HR.out.keep (Below.refl _ _).drew) HF.out).mono ?_); rintro e w2 ⟨a2, c2, rfl, hw2, hr2, hf2, hk⟩); have HL2 := Lib.hid hw2; have HR2 := Lib.hid hr2; have HF2 := Lib.hid hf2; have HB2 := Lib.hid (on_below HB.out.drew hk); clear hw2 hr2 hf2; have m3 := (hk.cell (p := ⟨mb, _, none⟩) (cell_lt m1)).trans m1; have m4 := (hk.cell (p := ⟨mb, _, none⟩) (cell_lt m2)).trans m2; clear hk)
        all_goals go_wp2_with fail
        all_goals go_region_law (go_simp; go_at_call 8; ((with_reducible refine (store_at u (HR2.out.keep (Below.refl _ _).drew) HLL.out HX.out HK.out (HL2.out.keep (Below.refl _ _).drew) HF2.out HB2.out.drew).mono ?_); rintro e w3 ⟨rfl, hr3, hw3, hb3⟩); have HL3 := Lib.hid hw3; have HR3 := Lib.hid hr3; have HB3 := Lib.hid hb3; clear hw3 hr3; have m5 := (hb3.cell (p := ⟨mb, _, none⟩) (HC.out.1)).trans HC.out.2; clear hb3)
        all_goals go_wp2_with (first
          | (go_at_call 9; ((with_reducible refine (ramLoad_at HR3.out HLM.out HX.out HY.out HK2.out).mono ?_); rintro e w4 ⟨rfl, hk⟩); have HR4 := Lib.hid (HR3.out.keep hk); have HL4 := Lib.hid (HL3.out.keep hk); have HB4 := Lib.hid (on_below HB3.out hk); have m6 := (hk.cell (p := ⟨mb, _, none⟩) (cell_lt m5)).trans m5; clear hk)
          | (go_at_call 10; ((with_reducible refine (refLoad_at HL4.out HX.out HY.out HK2.out).mono ?_); rintro e w5 ⟨rfl, rfl⟩)))
        all_goals go_roundw
        all_goals first
          | exact ⟨k + 1, by omega, by go_num, _, _, _, rfl, HR4.out, HL4.out, HF2.out, HB4.out⟩
          | (simp [intOf]; omega)
    · obtain rfl : k = mn := by omega
      have HR := Lib.hid hR
      have HL := Lib.hid hL
      have HB := Lib.hid hb
      have hlenL : L.length = n := hL.len
      have HLL := Lib.hid (show L.length ≤ 1048576 by omega)
      have HN := Lib.hid hlenL
      clear hR hL hoff hb
      go_wp2_with (first
        | (go_at_call 11; ((with_reducible refine (ramLen_is HR.out).mono ?_); rintro e w2 ⟨rfl, rfl⟩); rw [HN.out])
        | (go_at_call 13; ((with_reducible refine (ramAll_is HR.out HLL.out).mono ?_); rintro e w3 ⟨v3, rfl, ho, hk⟩); have hq := ho.ws; rw [HN.out] at hq; obtain ⟨a3, c3, rfl, hw3⟩ := hq; have HW3 := Lib.hid hw3; have HL3 := Lib.hid (HL.out.keep hk); have HB3 := Lib.hid (on_below HB.out hk); clear ho hw3 hk)
        | (go_at_call 12; ((with_reducible refine (refSameW_is a3 a1 n c3 c1 L _ HW3.out HL3.out).mono ?_); rintro e w4 ⟨rfl, hk⟩); have HB4 := Lib.hid (on_below HB3.out hk); clear hk)
        | (go_at_call 5; ((with_reducible refine (ramAwake_is _).mono ?_); rintro e w5 ⟨rfl, hk⟩); have HB5 := Lib.hid (on_below HB4.out hk); clear hk))
      go_ret
      exact ⟨rfl, HB5.out⟩
set_option maxHeartbeats 1000000 in
theorem walk (a0 : Option Addr) (len0 cap0 : Nat) (z0 : List Int) (a1 : Option Addr) (len1 cap1 : Nat) (w : World) (h0 : IsRow .i32 w a0 len0 cap0 z0) (h1 : MovesAt w a1 len1 cap1) :
    Calls Try.prog 3 #[.slice a0 len0 cap0, .slice a1 len1 cap1] w fun e w' => e = .returned (.bool true) ∧ Below w.heap.size w w' := by
  have h := Ws.of_row h0
  have hcap := h.cap
  have hbig := h.big
  have hmcap := h1.cap
  have hmbig := h1.big
  unfold maxLen at hbig hmbig
  by_cases hm : len1 ≤ 200
  · by_cases hn : len0 ≤ 2048
    · exact within _ _ _ _ _ _ _ w h h1 hn hm
    · have hn' : (2048 : Int) < len0 := by omega
      have hnn : 2048 < len0 := by omega
      have hm' : (len1 : Int) ≤ 200 := by omega
      by_cases h3 : len0 ≤ 3000
      · have h3' : (len0 : Int) ≤ 3000 := by omega
        clear h h0 h1 hn h3
        go_enter Try.func3, Try.ntmps3
        go_wp2_with (first
          | (go_at_call 6; ((with_reducible refine (ramNew_long a0 len0 cap0 _ hnn).mono ?_); rintro e w1 ⟨rfl, hk⟩); have HB := Lib.hid hk; clear hk)
          | (go_at_call 5; ((with_reducible refine (ramAwake_is _).mono ?_); rintro e w5 ⟨rfl, hk⟩); have HB5 := Lib.hid (on_below HB.out hk); clear hk))
        go_ret
        exact ⟨rfl, HB5.out⟩
      · have h3' : (3000 : Int) < len0 := by omega
        clear h h0 h1 hn h3
        go_enter Try.func3, Try.ntmps3
        go_wp2_with (go_at_call 5; ((with_reducible refine (ramAwake_is _).mono ?_); rintro e w5 ⟨rfl, hk⟩))
        go_ret
        exact ⟨rfl, hk⟩
  · have hm' : (200 : Int) < len1 := by omega
    clear h h0 h1 hm
    go_enter Try.func3, Try.ntmps3
    go_wp2_with (go_at_call 5; ((with_reducible refine (ramAwake_is _).mono ?_); rintro e w5 ⟨rfl, hk⟩))
    go_ret
    exact ⟨rfl, hk⟩
end ramPlays
end Go.Proofs.Ytjkdgbgknhkgbaa
