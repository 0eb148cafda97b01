/- Layer 17's laws: what their calls answer, in a caller's words; the page's example. Conditions: as each says. -/
import Derived.Test.YthmojdmdhabogaaTraF
import Derived.Test.YthmojdmdhabogaaTraI
import Derived.Test.YthmojdmdhabogaaTraJ
namespace Go.Proofs.Ythmojdmdhabogaa
open Go.RowKit Go.IntWalk

/-- Numbers that a call answers. -/
def RetN (w : World) (F : List Int) (m : Nat) (r : Ending) (w' : World) : Prop := ∃ a c, r = .returned (.slice a m c) ∧ IntAt w' a m c F ∧ Below w.heap.size w w'
theorem RetN.of {w w' : World} {base : Nat} {F : List Int} {m : Nat} {e : TypeId} {v : Value} (hm : F.length = m) (h : OwnEl intK w' base e v F) (hb : Below w.heap.size w w') : RetN w F m (.returned v) w' := by
  obtain ⟨a, c, rfl, hat⟩ := OwnEl.at h
  rw [hm] at hat ⊢
  exact ⟨a, c, rfl, hat, hb⟩
section
variable {a : Option Addr} {n c m : Nat} {l : List Mk} {w : World} {F : List Int}
theorem traFolds_to (h : MkAt w a n c l) (hn : n ≤ 1048576) (hF : tFolds l = F) (hm : F.length = m) : Calls Try.prog 17 #[.slice a n c] w fun r w' => RetN w F m r w' := by
  subst hF
  refine (traFolds_is a n c l w h hn).mono ?_
  rintro r w' hr
  obtain ⟨v, rfl, o, b⟩ := RetI.int hr
  exact RetN.of hm o b
theorem refTrFolds_to (h : MkAt w a n c l) (hn : n ≤ 1048576) (h64 : Mk64 l) (hF : tFolds l = F) (hm : F.length = m) : Calls Try.prog 18 #[.slice a n c] w fun r w' => RetN w F m r w' := by
  subst hF
  refine (refTrFolds_is a n c l w h hn h64).mono ?_
  rintro r w' ⟨v, rfl, o, b⟩
  exact RetN.of hm o b
theorem traAddrs_to (h : MkAt w a n c l) (hn : n ≤ 1048576) (hF : tAddrs l = F) (hm : F.length = m) : Calls Try.prog 15 #[.slice a n c] w fun r w' => RetN w F m r w' := by
  subst hF
  refine (traAddrs_is a n c l w h hn).mono ?_
  rintro r w' ⟨v, rfl, o, b⟩
  exact RetN.of hm o b
theorem refTrAddrs_to (h : MkAt w a n c l) (hn : n ≤ 524288) (hF : tAddrs l = F) (hm : F.length = m) : Calls Try.prog 16 #[.slice a n c] w fun r w' => RetN w F m r w' := by
  subst hF
  refine (refTrAddrs_is a n c l w h hn).mono ?_
  rintro r w' ⟨v, rfl, o, b⟩
  exact RetN.of hm o b
theorem traCost_v {x : Int} (h : MkAt w a n c l) (hx : tCost l = x) : Calls Try.prog 8 #[.slice a n c] w fun e w' => e = .returned (.int .i64 x) ∧ Below w.heap.size w w' := by
  subst hx; exact traCost_is a n c l w h
theorem refTrCost_v {x : Int} (h : MkAt w a n c l) (hx : tCost l = x) : Calls Try.prog 9 #[.slice a n c] w fun e w' => e = .returned (.int .i64 x) ∧ w = w' := by
  subst hx; exact refTrCost_is a n c l w h
theorem traCount_v {x p : Int} (h : MkAt w a n c l) (hx : ((nAt l p : Nat) : Int) = x) : Calls Try.prog 10 #[.slice a n c, .int .i64 p] w fun e w' => e = .returned (.int .i64 x) ∧ Below w.heap.size w w' := by
  subst hx; exact traCount_is a n c p l w h
theorem refTrCount_v {x p : Int} (h : MkAt w a n c l) (hx : ((nAt l p : Nat) : Int) = x) : Calls Try.prog 11 #[.slice a n c, .int .i64 p] w fun e w' => e = .returned (.int .i64 x) ∧ w = w' := by
  subst hx; exact refTrCount_is a n c p l w h
variable {a' : Option Addr} {n' c' : Nat} {l' : List Mk}
theorem traFirst_v {x : Int} (h : MkAt w a n c l) (h' : MkAt w a' n' c' l') (hx : tFirst l l' = x) : Calls Try.prog 12 #[.slice a n c, .slice a' n' c'] w fun e w' => e = .returned (.int .i64 x) ∧ Below w.heap.size w w' := by
  subst hx; exact traFirst_is a a' n c n' c' l l' w h h'
theorem refTrFirst_v {x : Int} (h : MkAt w a n c l) (h' : MkAt w a' n' c' l') (hx : tFirst l l' = x) : Calls Try.prog 13 #[.slice a n c, .slice a' n' c'] w fun e w' => e = .returned (.int .i64 x) ∧ Below w.heap.size w w' := by
  subst hx; exact refTrFirst_is a n c a' n' c' l l' w h h'
end

/-! ### The example -/
def exM : List Mk := [(0, 3, 2), (1, -1, 1), (1, 2, 2), (2, 3, 2)]
abbrev exMc : Array Value := #[.int .i64 0, .int .i64 3, .int .i64 2, .int .i64 1, .int .i64 (-1), .int .i64 1, .int .i64 1, .int .i64 2, .int .i64 2, .int .i64 2, .int .i64 3, .int .i64 2]
theorem exM_at (w : World) : MkAt (w.alloc (.cells exMc 32)) (some ⟨w.heap.size, 0, none⟩) 4 4 exM := by
  have h : OwnMk (w.alloc (.cells exMc 32)) w.heap.size 32 (.slice (some ⟨w.heap.size, 0, none⟩) 4 4) exM :=
    World.ownsRow_lit (base := w.heap.size) (e := 32) (size := 3) w exMc 4 (Nat.le_refl _) (by unfold maxLen; omega) (by simp)
  obtain ⟨a, c, e, hat⟩ := h.at
  simp only [exM, List.length_cons, List.length_nil, Value.slice.injEq] at e
  obtain ⟨rfl, -, rfl⟩ := e
  exact hat
theorem exM_folds : tFolds exM = [2] := by decide +kernel
theorem exM_cost : tCost exM = 7 := by decide +kernel
theorem exM_addrs : tAddrs exM = [2, 3] := by decide +kernel
theorem exM_count : ((nAt exM 1 : Nat) : Int) = 2 := by decide +kernel
theorem exM_first : tFirst exM (exM.take 3) = 3 := by decide +kernel
theorem two_lit (w : World) : IntAt (w.alloc (.cells #[.int .i64 2, .int .i64 3] 3)) (some ⟨w.heap.size, 0, none⟩) 2 2 [2, 3] := by
  obtain ⟨a, c, e, h⟩ := OwnEl.at (OwnEl.lit (K := intK) w 3 (base := w.heap.size) (Nat.le_refl _) [2, 3] (by unfold maxLen; decide) #[.int .i64 2, .int .i64 3] rfl)
  simp only [List.length_cons, List.length_nil, Value.slice.injEq] at e
  obtain ⟨rfl, -, rfl⟩ := e
  exact h
theorem bel_on {B : Nat} {w0 w1 w2 : World} (h : Below B w0 w1) (k : Below w1.heap.size w1 w2) (hB : B ≤ w1.heap.size) : Below B w0 w2 := h.trans (k.mono hB)
set_option maxRecDepth 10000 in
set_option maxHeartbeats 4000000 in
theorem traAwake_is (w : World) : Calls Try.prog 7 #[] w fun e w' => e = .returned (.bool true) ∧ Below w.heap.size w w' := by
  have hx := exM_at w
  have hb0 := (Below.refl w.heap.size w).alloc (Nat.le_refl _) (.cells exMc 32)
  go_enter Try.func7, Try.ntmps7
  have HX := Lib.hid hx
  have HB0 := Lib.hid hb0
  clear hx hb0
  go_wp2_with (first
    | (go_at_call 17; ((with_reducible refine (traFolds_to (m := 1) HX.out (by decide) exM_folds rfl).mono ?_); rintro r w1 ⟨a1, c1, rfl, i1, b1⟩); have I1 := Lib.hid (i1.keep ((Below.refl _ _).alloc (Nat.le_refl _) (.cells #[.int .i64 2] 3))); have B1 := Lib.hid (b1.alloc b1.size (.cells #[.int .i64 2] 3)); have L1 := Lib.hid (int_one w1 2); clear i1 b1)
    | (go_at_call 14; ((with_reducible refine (refTrSame_is _ _ 1 _ _ [2] _ I1.out L1.out).mono ?_); rintro r w2 ⟨rfl, b2⟩); have B2 := Lib.hid (bel_on B1.out b2 B1.out.size); clear b2)
    | (go_at_call 8; ((with_reducible refine (traCost_v (HX.out.keep B2.out) exM_cost).mono ?_); rintro r w3 ⟨rfl, b3⟩); have B3 := Lib.hid (bel_on B2.out b3 B2.out.size); clear b3)
    | (go_at_call 15; ((with_reducible refine (traAddrs_to (m := 2) (HX.out.keep B3.out) (by decide) exM_addrs rfl).mono ?_); rintro r w4 ⟨a4, c4, rfl, i4, b4⟩); have I4 := Lib.hid (i4.keep ((Below.refl _ _).alloc (Nat.le_refl _) (.cells #[.int .i64 2, .int .i64 3] 3))); have B4 := Lib.hid (bel_on B3.out (b4.alloc b4.size (.cells #[.int .i64 2, .int .i64 3] 3)) B3.out.size); have L4 := Lib.hid (two_lit w4); clear i4 b4)
    | (go_at_call 14; ((with_reducible refine (refTrSame_is _ _ 2 _ _ [2, 3] _ I4.out L4.out).mono ?_); rintro r w5 ⟨rfl, b5⟩); have B5 := Lib.hid (bel_on B4.out b5 B4.out.size); clear b5)
    | (go_at_call 10; ((with_reducible refine (traCount_v (HX.out.keep B5.out) exM_count).mono ?_); rintro r w6 ⟨rfl, b6⟩); have B6 := Lib.hid (bel_on B5.out b6 B5.out.size); clear b6)
    | (go_at_call 12; ((with_reducible refine (traFirst_v (HX.out.keep B6.out) ((HX.out.keep B6.out).to (m := 3) (by decide)) exM_first).mono ?_); rintro r w7 ⟨rfl, b7⟩); have B7 := Lib.hid (bel_on B6.out b7 B6.out.size); clear b7)
    | (go_at_call 12; ((with_reducible refine (traFirst_v (HX.out.keep B7.out) (HX.out.keep B7.out) (tFirst_refl exM)).mono ?_); rintro r w8 ⟨rfl, b8⟩); have B8 := Lib.hid (bel_on B7.out b8 B7.out.size); clear b8))
  go_ret
  exact ⟨rfl, bel_on HB0.out B8.out HB0.out.size⟩
end Go.Proofs.Ythmojdmdhabogaa
