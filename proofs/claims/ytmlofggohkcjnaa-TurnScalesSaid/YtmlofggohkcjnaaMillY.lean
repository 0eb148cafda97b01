/- Layer 9's steps upon package mill's mill of words: angles and waves. Conditions: the numbers are of the kinds of the parameters. -/
import Derived.Test.YtmlofggohkcjnaaMillX
namespace Go.Proofs.Ytmlofggohkcjnaa
open Go.RowKit

theorem sub_1 {t : Int} (h1 : 0 ≤ t) (h2 : t ≤ 32) : wTwo 2 t 1 = t - 1 := by
  obtain ⟨n, rfl⟩ : ∃ n : Nat, t = n := ⟨t.toNat, by omega⟩
  have : ((List.range 33).all fun i => decide (wTwo 2 (i : Int) 1 = (i : Int) - 1)) = true := by decide +kernel
  simpa using List.all_eq_true.1 this n (List.mem_range.2 (by omega))
theorem wAbs_rng {z : Int} (h1 : -2147483648 ≤ z) (h2 : z ≤ 2147483647) : 0 ≤ wAbs z ∧ wAbs z ≤ 2147483647 := by
  unfold wAbs wCut; omega

set_option maxHeartbeats 4000000 in
theorem mAngle_v (y x r : Int) (w : World) (y1 : -2147483648 ≤ y) (y2 : y ≤ 2147483647) (x1 : -2147483648 ≤ x) (x2 : x ≤ 2147483647) (hr : wAng y x = r) :
    Calls Try.prog 15 #[.agg #[.iface 39 (.agg #[])], .int .i32 y, .int .i32 x] w fun e w' => e = .returned (.int .i32 r) ∧ Below w.heap.size w w' := by
  have hb := fun o => ((Below.refl w.heap.size w).alloc (Nat.le_refl _) o)
  have E := (ang_mill y x).trans hr
  have bx := wAbs_rng x1 x2
  have bY := wAbs_rng y1 y2
  have G : wMax (wAbs x) (wAbs y) = wGr y x := rfl
  have Lq : wMin (wAbs x) (wAbs y) = wLs y x := rfl
  have gb : 0 ≤ wGr y x ∧ wGr y x ≤ 2147483647 := by rw [← G]; unfold wMax; split <;> omega
  have lb : 0 ≤ wLs y x ∧ wLs y x ≤ 2147483647 := by rw [← Lq]; unfold wMin; split <;> omega
  have VX := Lib.hid (show wDo 26 x 0 = wAbs x from do_one (by decide) (by decide))
  have VY := Lib.hid (show wDo 26 y 0 = wAbs y from do_one (by decide) (by decide))
  have VG := Lib.hid (show wDo 17 (wAbs x) (wAbs y) = wGr y x from do_two (by decide) (by decide))
  have VL := Lib.hid (show wDo 16 (wAbs x) (wAbs y) = wLs y x from do_two (by decide) (by decide))
  have ML := Lib.hid (show wMask (wLess (wAbs x) (wAbs y)) = wMask (wLess (wAbs x) (wAbs y)) from rfl)
  have mb := wMask_bd (wLess (wAbs x) (wAbs y))
  clear G Lq hr
  obtain ⟨m, hm⟩ : ∃ m, wMask (wLess (wAbs x) (wAbs y)) = m := ⟨_, rfl⟩
  rw [hm] at E mb
  generalize wAbs x = ax at *
  generalize wAbs y = ay at *
  generalize wGr y x = g at *
  generalize wLs y x = l at *
  have HM := Lib.hid hm
  clear hm ML
  obtain ⟨c1, c2⟩ := wClz_bd g
  have VC := Lib.hid (show wDo 24 g 0 = wClz g from do_one (by decide) (by decide))
  have VS := Lib.hid (show wDo 2 (wClz g) 1 = wClz g - 1 from (do_two (by decide) (by decide)).trans (sub_1 c1 c2))
  have N1 := Lib.hid (show wShr (wShl l (wClz g - 1)) 2 = wNorm l g from rfl)
  have N2 := Lib.hid (show wShr (wShl g (wClz g - 1)) 2 = wNorm g g from rfl)
  have nb1 : -2147483648 ≤ wNorm l g ∧ wNorm l g ≤ 2147483647 := wShr_bd _ _
  have nb2 : -2147483648 ≤ wNorm g g ∧ wNorm g g ≤ 2147483647 := wShr_bd _ _
  generalize wNorm l g = n1 at *
  generalize wNorm g g = n2 at *
  generalize wClz g = c at *
  have sb : -1 ≤ c - 1 ∧ c - 1 ≤ 31 := by omega
  generalize c - 1 = s at *
  have vb := vN_bd n1 n2 nb1 nb2 28
  obtain ⟨v, hv⟩ : ∃ v, vN n1 n2 28 = v := ⟨_, rfl⟩
  rw [hv] at E vb
  obtain ⟨vx, vy, a⟩ := v
  have HV := Lib.hid hv
  clear hv
  obtain ⟨_, _, vb⟩ := vb
  simp only at E vb
  have b1 := wLeft_bd 843314857 a m
  obtain ⟨p, hp⟩ : ∃ p, wLeft 843314857 a m = p := ⟨_, rfl⟩
  rw [hp] at E b1
  have sx := wSign_bd x
  have sy := wSign_bd y
  have WX := Lib.hid (show wDo 28 x 0 = wSign x from do_one (by decide) (by decide))
  have WY := Lib.hid (show wDo 28 y 0 = wSign y from do_one (by decide) (by decide))
  generalize wSign x = ux at *
  generalize wSign y = uy at *
  have b2 := wLeft_bd 1686629713 p ux
  obtain ⟨q, hq⟩ : ∃ q, wLeft 1686629713 p ux = q := ⟨_, rfl⟩
  rw [hq] at E b2
  have HP := Lib.hid hp
  have HQ := Lib.hid hq
  have HE := Lib.hid E
  clear hp hq E
  go_enter Try.func15, Try.ntmps15
  go_wp2
  go_region_held3 (fun w' => w'.cell? ⟨w.heap.size, 0, none⟩ = some (.iface 39 (.agg #[])) ∧ Below w.heap.size w w' ∧ w.heap.size + 1 ≤ w'.heap.size)
    (first | with_reducible assumption | exact ⟨by go_cell, (hb _).drew, by simp⟩ | exact keepSd hS)
    (first
      | (go_at_call 44; with_reducible refine (keepS (words_one 26 y ay _ y1 y2 VY.out) (by assumption)).mono ?_; rintro e w1 ⟨rfl, hS⟩)
      | (go_at_call 44; with_reducible refine (keepS (words_one 26 x ax _ x1 x2 VX.out) (by assumption)).mono ?_; rintro e w1 ⟨rfl, hS⟩))
  go_wp2
  go_region_held3 (fun w' => w'.cell? ⟨w.heap.size, 0, none⟩ = some (.iface 39 (.agg #[])) ∧ Below w.heap.size w w' ∧ w.heap.size + 1 ≤ w'.heap.size)
    (first | with_reducible assumption | exact keepSd hS)
    (first
      | (go_at_call 45; with_reducible refine (keepS (words_two 17 ax ay g _ (by omega) (by omega) (by omega) (by omega) VG.out) (by assumption)).mono ?_; rintro e w1 ⟨rfl, hS⟩)
      | (go_at_call 45; with_reducible refine (keepS (words_two 16 ax ay l _ (by omega) (by omega) (by omega) (by omega) VL.out) (by assumption)).mono ?_; rintro e w1 ⟨rfl, hS⟩))
  go_wp2
  go_region_held3 (fun w' => w'.cell? ⟨w.heap.size, 0, none⟩ = some (.iface 39 (.agg #[])) ∧ Below w.heap.size w w' ∧ w.heap.size + 1 ≤ w'.heap.size)
    (first | with_reducible assumption | exact keepSd hS)
    (first
      | (go_at_call 44; with_reducible refine (keepS (words_one 24 g c _ (by omega) (by omega) VC.out) (by assumption)).mono ?_; rintro e w1 ⟨rfl, hS⟩)
      | (go_at_call 17; with_reducible refine (keepS (by_v 2 c 1 s _ (by omega) (by omega) (by decide) (by decide) VS.out) (by assumption)).mono ?_; rintro e w1 ⟨rfl, hS⟩))
  go_wp2
  go_region_held3 (fun w' => w'.cell? ⟨w.heap.size, 0, none⟩ = some (.iface 39 (.agg #[])) ∧ Below w.heap.size w w' ∧ w.heap.size + 1 ≤ w'.heap.size)
    (first | with_reducible assumption | exact keepSd hS)
    (first
      | (go_at_call 19; with_reducible refine (keepS (lift_v l s n1 _ (by omega) (by omega) (by omega) (by omega) N1.out) (by assumption)).mono ?_; rintro e w1 ⟨rfl, hS⟩)
      | (go_at_call 19; with_reducible refine (keepS (lift_v g s n2 _ (by omega) (by omega) (by omega) (by omega) N2.out) (by assumption)).mono ?_; rintro e w1 ⟨rfl, hS⟩)
      | (go_at_call 18; with_reducible refine (keepS (mVector_v n1 n2 vx vy a _ nb1.1 nb1.2 nb2.1 nb2.2 HV.out) (by assumption)).mono ?_; rintro e w1 ⟨rfl, hS⟩))
  go_wp2
  go_region_held3 (fun w' => w'.cell? ⟨w.heap.size, 0, none⟩ = some (.iface 39 (.agg #[])) ∧ Below w.heap.size w w' ∧ w.heap.size + 1 ≤ w'.heap.size)
    (first | with_reducible assumption | exact keepSd hS)
    (first
      | (go_at_call 46; with_reducible refine (keepS (words_word _ _) (by assumption)).mono ?_; rintro e w1 ⟨rfl, hS⟩)
      | (go_at_call 21; with_reducible refine (keepS (less_v ax ay m _ (by omega) (by omega) (by omega) (by omega) HM.out) (by assumption)).mono ?_; rintro e w1 ⟨rfl, hS⟩)
      | (go_at_call 20; with_reducible refine (keepS (left_v 843314857 a m p _ (by decide) (by decide) vb.1 vb.2 (by omega) (by omega) HP.out) (by assumption)).mono ?_; rintro e w1 ⟨rfl, hS⟩))
  go_wp2
  go_region_held3 (fun w' => w'.cell? ⟨w.heap.size, 0, none⟩ = some (.iface 39 (.agg #[])) ∧ Below w.heap.size w w' ∧ w.heap.size + 1 ≤ w'.heap.size)
    (first | with_reducible assumption | exact keepSd hS)
    (first
      | (go_at_call 46; with_reducible refine (keepS (words_word _ _) (by assumption)).mono ?_; rintro e w1 ⟨rfl, hS⟩)
      | (go_at_call 44; with_reducible refine (keepS (words_one 28 x ux _ x1 x2 WX.out) (by assumption)).mono ?_; rintro e w1 ⟨rfl, hS⟩)
      | (go_at_call 20; with_reducible refine (keepS (left_v 1686629713 p ux q _ (by decide) (by decide) b1.1 b1.2 (by omega) (by omega) HQ.out) (by assumption)).mono ?_; rintro e w1 ⟨rfl, hS⟩))
  go_wp2
  go_region_held3 (fun w' => w'.cell? ⟨w.heap.size, 0, none⟩ = some (.iface 39 (.agg #[])) ∧ Below w.heap.size w w' ∧ w.heap.size + 1 ≤ w'.heap.size)
    (first | with_reducible assumption | exact keepSd hS)
    (first
      | (go_at_call 44; with_reducible refine (keepS (words_one 28 y uy _ y1 y2 WY.out) (by assumption)).mono ?_; rintro e w1 ⟨rfl, hS⟩)
      | (go_at_call 22; with_reducible refine (keepS (flip_v q uy r _ b2.1 b2.2 (by omega) (by omega) HE.out) (by assumption)).mono ?_; rintro e w1 ⟨rfl, hS⟩))
  go_wp2
  go_ret
  exact ⟨rfl, hS.2.1⟩
end Go.Proofs.Ytmlofggohkcjnaa
