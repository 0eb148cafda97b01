/- The walk of the law GraphTells: it returns true and writes nothing that was there. -/
import Derived.Test.YtggiaopdgijgnaaDoorGrdD
namespace Go.Proofs.YtggiaopdgijgnaaDoor
open Go.RowKit Go.IntWalk

namespace graphTells
theorem row_words {w : World} {a : Option Addr} {n c : Nat} {zs : List Int} (h : IsRow .u32 w a n c zs) : ∀ i, i < (zs.take n).length → 0 ≤ byAt (zs.take n) i ∧ byAt (zs.take n) i < 4294967296 := by
  intro i hi
  have hm : byAt (zs.take n) i ∈ zs.take n := by rw [← byAt_eq hi]; exact List.getElem_mem hi
  have hw : ∀ y ∈ zs, (Lit.int .u32 y).wf = true := by
    rcases h with ⟨_, _, _, rfl⟩ | ⟨_, _, _, _, _, _, hw⟩
    · intro y hy; exact absurd hy (by simp)
    · exact hw
  have := bounds_u32 (hw _ (List.mem_of_mem_take hm))
  omega
theorem brs_keep {T : TypeId} {b n : Nat} {f : Nat → Bool} {w w' : World} (h : Brs T b n f w) (k : Below w.heap.size w w') : Brs T b n f w' := BlkAt.keep h k
set_option maxRecDepth 100000 in
set_option maxHeartbeats 2000000 in
theorem walk (a0 : Option Addr) (len0 cap0 : Nat) (z0 : List Int) (a1 a2 : Int) (w : World) (h0 : IsRow .u32 w a0 len0 cap0 z0) (_ : (Lit.int .i64 a1).wf = true) (_ : (Lit.int .i64 a2).wf = true) (hs : ShapesLaid w) :
    Calls Tryd.prog 3 #[.slice a0 len0 cap0, .int .i64 a1, .int .i64 a2] w fun e w' => e = .returned (.bool true) ∧ Below w.heap.size w w' := by
  have g0 := Ws.of_row h0
  have gb := row_words h0
  clear h0
  generalize z0.take len0 = l at g0 gb
  obtain rfl := g0.len
  have hcap := g0.cap
  have hbig := g0.big
  unfold maxLen at hbig
  have HS := Lib.hid (fun w2 (k : Below w.heap.size w w2) => hs.below k hs.lt)
  have HAw := Lib.hid (fun w2 (k : Below w.heap.size w w2) => graAwake_is w2 (HS.out w2 k))
  have HB0 := Lib.hid (Below.refl w.heap.size w)
  have HW := Lib.hid (fun w2 (k : Below w.heap.size w w2) => g0.keep k)
  have HBD := Lib.hid gb
  clear hs g0 gb
  by_cases c0 : 26 < l.length
  · have c0' : (26 : Int) < l.length := by omega
    go_enter Tryd.func3, Tryd.ntmps3
    go_wp2_with (go_at_call 5; ((with_reducible refine (HAw.out _ HB0.out).mono ?_); rintro e w2 ⟨rfl, hq⟩); have HQ := Lib.hid hq; clear hq)
    go_ret
    exact ⟨rfl, HQ.out⟩
  have c0' : (l.length : Int) ≤ 26 := by omega
  have e0 : decide ((26 : Int) < l.length) = false := by simpa using c0'
  have e0' : decide (26 < l.length) = false := by simpa using c0
  have HN := Lib.hid (show l.length ≤ 60 by omega)
  obtain ⟨v, hv⟩ : ∃ v, aheadB l a1 a2 = v := ⟨_, rfl⟩
  obtain ⟨u, hu⟩ : ∃ u, cycB l = u := ⟨_, rfl⟩
  have HA1 := Lib.hid (fun w2 (k : Below w.heap.size w w2) => graAhead_is a1 a2 (HW.out w2 k) HN.out (HS.out w2 k) HBD.out)
  have HA2 := Lib.hid (fun w2 (k : Below w.heap.size w w2) => refGAhead_is a1 a2 (HW.out w2 k) HN.out HBD.out)
  have HC1 := Lib.hid (fun w2 (k : Below w.heap.size w w2) => graCyclic_c (HW.out w2 k) HN.out (HS.out w2 k) HBD.out)
  have HC2 := Lib.hid (fun w2 (k : Below w.heap.size w w2) => refGCyclic_is (HW.out w2 k) HN.out HBD.out)
  rw [hv] at HA1 HA2
  rw [hu] at HC1 HC2
  have ev : (v != v) = false := by simp
  have eu : (u == u) = true := by simp
  clear hv hu c0
  go_enter Tryd.func3, Tryd.ntmps3
  go_wp2_with (first
    | (go_at_call 7; ((with_reducible refine (graNext_is a1 (HW.out _ HB0.out) HN.out (HS.out _ HB0.out) HBD.out).mono ?_); rintro e w1 ⟨v1, rfl, ho1, hb1⟩); obtain ⟨a1', c1, rfl, hw1⟩ := ho1.ws; have HW1 := Lib.hid hw1; have HB1 := Lib.hid (below_on HB0.out hb1); have HK1 := Lib.hid hb1; clear ho1 hw1 hb1)
    | (go_at_call 8; ((with_reducible refine (refGNext_is a1 (HW.out _ HB1.out) HN.out HBD.out).mono ?_); rintro e w2 ⟨v2, rfl, ho2, hb2⟩); obtain ⟨a2', c2, rfl, hw2⟩ := ho2.ws; have HW2 := Lib.hid hw2; have HB2 := Lib.hid (below_on HB1.out hb2); have HK2 := Lib.hid hb2; clear ho2 hw2 hb2)
    | (go_at_call 6; ((with_reducible refine (refGSame_is (HW1.out.keep HK2.out) HW2.out).mono ?_); rintro e w3 ⟨rfl, hb3⟩); have HB3 := Lib.hid (below_on HB2.out hb3); clear hb3)
    | (go_at_call 10; ((with_reducible refine (graReached_is (HW.out _ HB3.out) HN.out (HS.out _ HB3.out) HBD.out).mono ?_); rintro e w4 ⟨b4, rfl, hr4, -, hb4⟩); have HW4 := Lib.hid hr4; have HB4 := Lib.hid (below_on HB3.out hb4); have HK4 := Lib.hid hb4; clear hr4 hb4)
    | (go_at_call 11; ((with_reducible refine (refGReached_is (HW.out _ HB4.out) HN.out HBD.out).mono ?_); rintro e w5 ⟨b5, rfl, hr5, -, hb5⟩); have HW5 := Lib.hid hr5; have HB5 := Lib.hid (below_on HB4.out hb5); have HK5 := Lib.hid hb5; clear hr5 hb5)
    | (go_at_call 9; ((with_reducible refine (refBools_is HN.out (brs_keep HW4.out HK5.out) HW5.out).mono ?_); rintro e w6 ⟨rfl, hb6⟩); have HB6 := Lib.hid (below_on HB5.out hb6); clear hb6)
    | (go_at_call 12; ((with_reducible refine (HA1.out _ HB6.out).mono ?_); rintro e w7 ⟨rfl, hb7⟩); have HB7 := Lib.hid (below_on HB6.out hb7); clear hb7)
    | (go_at_call 13; ((with_reducible refine (HA2.out _ HB7.out).mono ?_); rintro e w8 ⟨rfl, hb8⟩); have HB8 := Lib.hid (below_on HB7.out hb8); clear hb8)
    | (go_at_call 15; ((with_reducible refine (graBacks_is (HW.out _ HB8.out) HN.out (HS.out _ HB8.out) HBD.out).mono ?_); rintro e w9 ⟨v9, rfl, ho9, hb9⟩); obtain ⟨a9', c9, rfl, hw9⟩ := ho9.at; have HW9 := Lib.hid hw9; have HB9 := Lib.hid (below_on HB8.out hb9); have HK9 := Lib.hid hb9; clear ho9 hw9 hb9)
    | (go_at_call 16; ((with_reducible refine (refGBacks_is (HW.out _ HB9.out) HN.out HBD.out).mono ?_); rintro e w10 ⟨v10, rfl, ho10, hb10⟩); obtain ⟨a10', c10, rfl, hw10⟩ := ho10.at; have HW10 := Lib.hid hw10; have HB10 := Lib.hid (below_on HB9.out hb10); have HK10 := Lib.hid hb10; clear ho10 hw10 hb10)
    | (go_at_call 14; ((with_reducible refine (refFixes_is (HW9.out.keep HK10.out) HW10.out).mono ?_); rintro e w11 ⟨rfl, hb11⟩); have HB11 := Lib.hid (below_on HB10.out hb11); clear hb11)
    | (go_at_call 17; ((with_reducible refine (graLoop_is a1 (HW.out _ HB11.out) HN.out (HS.out _ HB11.out) HBD.out).mono ?_); rintro e w12 ⟨v12, rfl, ho12, hb12⟩); obtain ⟨a12', c12, rfl, hw12⟩ := ho12.ws; have HW12 := Lib.hid hw12; have HB12 := Lib.hid (below_on HB11.out hb12); have HK12 := Lib.hid hb12; clear ho12 hw12 hb12)
    | (go_at_call 18; ((with_reducible refine (refGLoop_is a1 (HW.out _ HB12.out) HN.out HBD.out).mono ?_); rintro e w13 ⟨v13, rfl, ho13, hb13⟩); obtain ⟨a13', c13, rfl, hw13⟩ := ho13.ws; have HW13 := Lib.hid hw13; have HB13 := Lib.hid (below_on HB12.out hb13); have HK13 := Lib.hid hb13; clear ho13 hw13 hb13)
    | (go_at_call 6; ((with_reducible refine (refGSame_is (HW12.out.keep HK13.out) HW13.out).mono ?_); rintro e w14 ⟨rfl, hb14⟩); have HB14 := Lib.hid (below_on HB13.out hb14); clear hb14)
    | (go_at_call 19; ((with_reducible refine (HC1.out _ HB14.out).mono ?_); rintro e w15 ⟨rfl, hb15⟩); have HB15 := Lib.hid (below_on HB14.out hb15); clear hb15)
    | (go_at_call 20; ((with_reducible refine (HC2.out _ HB15.out).mono ?_); rintro e w16 ⟨rfl, hb16⟩); have HB16 := Lib.hid (below_on HB15.out hb16); clear hb16)
    | (go_at_call 5; ((with_reducible refine (HAw.out _ HB16.out).mono ?_); rintro e w17 ⟨rfl, hb17⟩); have HB17 := Lib.hid (below_on HB16.out hb17); clear hb17))
  go_ret
  exact ⟨rfl, HB17.out⟩
end graphTells
end Go.Proofs.YtggiaopdgijgnaaDoor
