/- Within TraceRows: for every slice of marks and every number the call returns true; nothing that was there is changed. Conditions: the slice's cells are as the program lays them. -/
import Derived.Test.YthmojdmdhabogaaTraM
import Derived.Test.YthmojdmdhabogaaTraN
import Derived.Test.YthmojdmdhabogaaTraU
namespace Go.Proofs.Ythmojdmdhabogaa.traceRows
open Go.RowKit Go.IntWalk

section
variable {a : Option Addr} {n c m : Nat} {l : List Mk} {w : World} {R : List Ht}
/-- Rows that a call answers. -/
def RetH (w : World) (R : List Ht) (m : Nat) (r : Ending) (w' : World) : Prop := ∃ a c, r = .returned (.slice a m c) ∧ HtAt w' a m c R ∧ Below w.heap.size w w'
theorem RetH.of {w' : World} {base : Nat} {e : TypeId} {v : Value} (hm : R.length = m) (h : OwnHt w' base e v R) (hb : Below w.heap.size w w') : RetH w R m (.returned v) w' := by
  obtain ⟨a, c, rfl, hat⟩ := OwnEl.at h
  rw [hm] at hat ⊢
  exact ⟨a, c, rfl, hat, hb⟩
theorem traRows_to (h : MkAt w a n c l) (hn : n ≤ 524288) (h64 : Mk64 l) (hR : tRows l = R) (hm : R.length = m) : Calls Try.prog 20 #[.slice a n c] w fun r w' => RetH w R m r w' := by
  subst hR
  refine (traRows_is a n c l w h hn h64).mono ?_
  rintro r w' ⟨v, rfl, o, b⟩
  exact RetH.of hm o b
theorem refTrRows_to (h : MkAt w a n c l) (hn : n ≤ 524288) (hR : tRows l = R) (hm : R.length = m) : Calls Try.prog 21 #[.slice a n c] w fun r w' => RetH w R m r w' := by
  subst hR
  refine (refTrRows_is a n c l w h hn).mono ?_
  rintro r w' ⟨v, rfl, o, b⟩
  exact RetH.of hm o b
theorem traTop_to {q : Int} (h : MkAt w a n c l) (hn : n ≤ 524288) (h64 : Mk64 l) (hR : tTop l q = R) (hm : R.length = m) : Calls Try.prog 22 #[.slice a n c, .int .i64 q] w fun r w' => RetH w R m r w' := by
  subst hR
  refine (traTop_is a n c q l w h hn h64).mono ?_
  rintro r w' ⟨a', m', rfl, hat, b⟩
  obtain rfl : m' = m := by rw [← hm]; exact hat.len.symm
  exact ⟨a', _, rfl, hat, b⟩
theorem refTrTop_to {q : Int} (h : MkAt w a n c l) (hn : n ≤ 524288) (hR : tTop l q = R) (hm : R.length = m) : Calls Try.prog 23 #[.slice a n c, .int .i64 q] w fun r w' => RetH w R m r w' := by
  subst hR
  refine (refTrTop_is a n c q l w h hn).mono ?_
  rintro r w' ⟨v, rfl, o, b⟩
  exact RetH.of hm o b
end

set_option maxRecDepth 10000 in
set_option maxHeartbeats 8000000 in
theorem walk (a0 : Option Addr) (n c0 : Nat) (l : List Mk) (q : Int) (w : World) (h0 : MkAt w a0 n c0 l ∧ Mk64 l) (_hq : (Lit.int .i64 q).wf = true) :
    Calls Try.prog 5 #[.slice a0 n c0, .int .i64 q] w fun e w' => e = .returned (.bool true) ∧ Below w.heap.size w w' := by
  have hbig := h0.1.big
  have hcap := h0.1.cap
  unfold maxLen at hbig
  by_cases e0 : 300 < n
  · have e0' : (300 : Int) < n := by omega
    clear h0
    go_enter Try.func5, Try.ntmps5
    go_wp2_with (go_at_call 7; ((with_reducible refine (traAwake_is _).mono ?_); rintro r w1 ⟨rfl, b1⟩))
    go_ret
    exact ⟨rfl, b1⟩
  · have e0' : (n : Int) ≤ 300 := by omega
    have hn : n ≤ 524288 := by omega
    obtain ⟨R, hR⟩ : ∃ R, tRows l = R := ⟨_, rfl⟩
    obtain ⟨m, hm⟩ : ∃ m, R.length = m := ⟨_, rfl⟩
    obtain ⟨T, hT⟩ : ∃ T, tTop l q = T := ⟨_, rfl⟩
    obtain ⟨s, hs⟩ : ∃ s, T.length = s := ⟨_, rfl⟩
    have HL := Lib.hid h0.1
    have H64 := Lib.hid h0.2
    have HR := Lib.hid hR
    have HM := Lib.hid hm
    have HT := Lib.hid hT
    have HS := Lib.hid hs
    have HB0 := Lib.hid (Below.refl w.heap.size w)
    clear h0 hR hm hT hs
    go_enter Try.func5, Try.ntmps5
    go_wp2_with (first
      | (go_at_call 20; ((with_reducible refine (traRows_to (HL.out.keep HB0.out) hn H64.out HR.out HM.out).mono ?_); rintro r w1 ⟨a1, c1, rfl, i1, b1⟩); have I1 := Lib.hid i1; have B1 := Lib.hid (bel_on HB0.out b1 HB0.out.size); clear i1 b1)
      | (go_at_call 21; ((with_reducible refine (refTrRows_to (HL.out.keep B1.out) hn HR.out HM.out).mono ?_); rintro r w2 ⟨a2, c2, rfl, i2, b2⟩); have I2 := Lib.hid i2; have B2 := Lib.hid (bel_on B1.out b2 B1.out.size); have J1 := Lib.hid (I1.out.keep b2); clear i2 b2)
      | (go_at_call 19; ((with_reducible refine (refHeats_is _ _ m _ _ R _ J1.out I2.out).mono ?_); rintro r w3 ⟨rfl, b3⟩); have B3 := Lib.hid (bel_on B2.out b3 B2.out.size); clear b3)
      | (go_at_call 22; ((with_reducible refine (traTop_to (HL.out.keep B3.out) hn H64.out HT.out HS.out).mono ?_); rintro r w4 ⟨a4, c4, rfl, i4, b4⟩); have I4 := Lib.hid i4; have B4 := Lib.hid (bel_on B3.out b4 B3.out.size); clear i4 b4)
      | (go_at_call 23; ((with_reducible refine (refTrTop_to (HL.out.keep B4.out) hn HT.out HS.out).mono ?_); rintro r w5 ⟨a5, c5, rfl, i5, b5⟩); have I5 := Lib.hid i5; have B5 := Lib.hid (bel_on B4.out b5 B4.out.size); have J4 := Lib.hid (I4.out.keep b5); clear i5 b5)
      | (go_at_call 19; ((with_reducible refine (refHeats_is _ _ s _ _ T _ J4.out I5.out).mono ?_); rintro r w6 ⟨rfl, b6⟩); have B6 := Lib.hid (bel_on B5.out b6 B5.out.size); clear b6)
      | (go_at_call 7; ((with_reducible refine (traAwake_is _).mono ?_); rintro r w7 ⟨rfl, b7⟩); have B7 := Lib.hid (bel_on B6.out b7 B6.out.size); clear b7))
    go_ret
    exact ⟨rfl, B7.out⟩
end Go.Proofs.Ythmojdmdhabogaa.traceRows
