/- Within TraceTells: for every two slices of marks and every place the call returns true; nothing that was there is changed. Conditions: the slices' cells are as the program lays them. -/
import Derived.Test.YthmojdmdhabogaaTraN
namespace Go.Proofs.Ythmojdmdhabogaa.traceTells
open Go.RowKit Go.IntWalk

set_option maxRecDepth 10000 in
set_option maxHeartbeats 4000000 in
theorem walk (a0 : Option Addr) (n0 c0 : Nat) (l0 : List Mk) (a1 : Option Addr) (n1 c1 : Nat) (l1 : List Mk) (p : Int) (w : World) (h0 : MkAt w a0 n0 c0 l0 ∧ Mk64 l0) (h1 : MkAt w a1 n1 c1 l1 ∧ Mk64 l1) (_hp : (Lit.int .i64 p).wf = true) :
    Calls Try.prog 3 #[.slice a0 n0 c0, .slice a1 n1 c1, .int .i64 p] w fun e w' => e = .returned (.bool true) ∧ Below w.heap.size w w' := by
  have hbig0 := h0.1.big
  have hbig1 := h1.1.big
  have hcap0 := h0.1.cap
  have hcap1 := h1.1.cap
  unfold maxLen at hbig0 hbig1
  by_cases e0 : 500 < n0
  · have e0' : (500 : Int) < n0 := by omega
    clear h0 h1
    go_enter Try.func3, Try.ntmps3
    go_wp2_with (go_at_call 7; ((with_reducible refine (traAwake_is _).mono ?_); rintro r w1 ⟨rfl, b1⟩))
    go_ret
    exact ⟨rfl, b1⟩
  · have e0' : (n0 : Int) ≤ 500 := by omega
    by_cases e1 : 500 < n1
    · have e1' : (500 : Int) < n1 := by omega
      clear h0 h1
      go_enter Try.func3, Try.ntmps3
      go_wp2_with (go_at_call 7; ((with_reducible refine (traAwake_is _).mono ?_); rintro r w1 ⟨rfl, b1⟩))
      go_ret
      exact ⟨rfl, b1⟩
    · have e1' : (n1 : Int) ≤ 500 := by omega
      obtain ⟨x, hx⟩ : ∃ x, tCost l0 = x := ⟨_, rfl⟩
      obtain ⟨y, hy⟩ : ∃ y, ((nAt l0 p : Nat) : Int) = y := ⟨_, rfl⟩
      obtain ⟨z, hz⟩ : ∃ z, tFirst l0 l1 = z := ⟨_, rfl⟩
      obtain ⟨F, hF⟩ : ∃ F, tFolds l0 = F := ⟨_, rfl⟩
      obtain ⟨m, hm⟩ : ∃ m, F.length = m := ⟨_, rfl⟩
      obtain ⟨G, hG⟩ : ∃ G, tAddrs l0 = G := ⟨_, rfl⟩
      obtain ⟨q, hq⟩ : ∃ q, G.length = q := ⟨_, rfl⟩
      have hn : n0 ≤ 524288 := by omega
      have hn2 : n0 ≤ 1048576 := by omega
      have H0 := Lib.hid h0.1
      have H64 := Lib.hid h0.2
      have H1 := Lib.hid h1.1
      have HX := Lib.hid hx
      have HY := Lib.hid hy
      have HZ := Lib.hid hz
      have HF := Lib.hid hF
      have HM := Lib.hid hm
      have HG := Lib.hid hG
      have HQ := Lib.hid hq
      have HB0 := Lib.hid (Below.refl w.heap.size w)
      clear h0 h1 hx hy hz hF hm hG hq
      go_enter Try.func3, Try.ntmps3
      go_wp2_with (first
        | (go_at_call 8; ((with_reducible refine (traCost_v (H0.out.keep HB0.out) HX.out).mono ?_); rintro r w1 ⟨rfl, b1⟩); have B1 := Lib.hid (bel_on HB0.out b1 HB0.out.size); clear b1)
        | (go_at_call 9; ((with_reducible refine (refTrCost_v (H0.out.keep B1.out) HX.out).mono ?_); rintro r w2 ⟨rfl, rfl⟩))
        | (go_at_call 10; ((with_reducible refine (traCount_v (H0.out.keep B1.out) HY.out).mono ?_); rintro r w2 ⟨rfl, b2⟩); have B2 := Lib.hid (bel_on B1.out b2 B1.out.size); clear b2)
        | (go_at_call 11; ((with_reducible refine (refTrCount_v (H0.out.keep B2.out) HY.out).mono ?_); rintro r w3 ⟨rfl, rfl⟩))
        | (go_at_call 12; ((with_reducible refine (traFirst_v (H0.out.keep B2.out) (H1.out.keep B2.out) HZ.out).mono ?_); rintro r w3 ⟨rfl, b3⟩); have B3 := Lib.hid (bel_on B2.out b3 B2.out.size); clear b3)
        | (go_at_call 13; ((with_reducible refine (refTrFirst_v (H0.out.keep B3.out) (H1.out.keep B3.out) HZ.out).mono ?_); rintro r w4 ⟨rfl, b4⟩); have B4 := Lib.hid (bel_on B3.out b4 B3.out.size); clear b4)
        | (go_at_call 15; ((with_reducible refine (traAddrs_to (H0.out.keep B4.out) hn2 HG.out HQ.out).mono ?_); rintro r w5 ⟨a5, c5, rfl, i5, b5⟩); have I5 := Lib.hid i5; have B5 := Lib.hid (bel_on B4.out b5 B4.out.size); clear i5 b5)
        | (go_at_call 16; ((with_reducible refine (refTrAddrs_to (H0.out.keep B5.out) hn HG.out HQ.out).mono ?_); rintro r w6 ⟨a6, c6, rfl, i6, b6⟩); have I6 := Lib.hid i6; have B6 := Lib.hid (bel_on B5.out b6 B5.out.size); have J5 := Lib.hid (I5.out.keep b6); clear i6 b6)
        | (go_at_call 14; ((with_reducible refine (refTrSame_is _ _ q _ _ G _ J5.out I6.out).mono ?_); rintro r w7 ⟨rfl, b7⟩); have B7 := Lib.hid (bel_on B6.out b7 B6.out.size); clear b7)
        | (go_at_call 17; ((with_reducible refine (traFolds_to (H0.out.keep B7.out) hn2 HF.out HM.out).mono ?_); rintro r w8 ⟨a8, c8, rfl, i8, b8⟩); have I8 := Lib.hid i8; have B8 := Lib.hid (bel_on B7.out b8 B7.out.size); clear i8 b8)
        | (go_at_call 18; ((with_reducible refine (refTrFolds_to (H0.out.keep B8.out) hn2 H64.out HF.out HM.out).mono ?_); rintro r w9 ⟨a9, c9, rfl, i9, b9⟩); have I9 := Lib.hid i9; have B9 := Lib.hid (bel_on B8.out b9 B8.out.size); have J8 := Lib.hid (I8.out.keep b9); clear i9 b9)
        | (go_at_call 14; ((with_reducible refine (refTrSame_is _ _ m _ _ F _ J8.out I9.out).mono ?_); rintro r w10 ⟨rfl, b10⟩); have B10 := Lib.hid (bel_on B9.out b10 B9.out.size); clear b10)
        | (go_at_call 7; ((with_reducible refine (traAwake_is _).mono ?_); rintro r w11 ⟨rfl, b11⟩); have B11 := Lib.hid (bel_on B10.out b11 B10.out.size); clear b11))
      go_ret
      exact ⟨rfl, B11.out⟩
end Go.Proofs.Ythmojdmdhabogaa.traceTells
