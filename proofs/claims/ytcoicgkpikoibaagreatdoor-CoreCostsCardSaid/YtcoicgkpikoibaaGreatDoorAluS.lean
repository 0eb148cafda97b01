/- What the document's own plain answers for the operations (package astrolaberef07) give: Do and Cost. Conditions: the numbers are of the parameters' kinds. -/
import Derived.Test.YtcoicgkpikoibaaGreatDoorAluE
import Derived.Test.YtcoicgkpikoibaaGreatDoorAluR
import Derived.Test.YtcoicgkpikoibaaGreatDoorRefs
import Derived.Test.YtcoicgkpikoibaaGreatDoorFixR
import Derived.Test.YtcoicgkpikoibaaGreatDoorOpsR2
namespace Go.Proofs.YtcoicgkpikoibaaGreatDoor
open Go.RowKit

set_option maxHeartbeats 2000000 in
theorem refTwoA_is (op a b : Int) (w : World) (h1 : 1 ≤ op) (h2 : op ≤ 12) (a1 : -2147483648 ≤ a) (a2 : a ≤ 2147483647) (b1 : -2147483648 ≤ b) (b2 : b ≤ 2147483647) :
    Calls Tryz.prog 51 #[.int .i64 op, .int .i32 a, .int .i32 b] w fun e w' => e = .returned (.int .i32 (wTwo op a b)) ∧ Below w.heap.size w w' := by
  have hb := Below.refl w.heap.size w
  have hB := Nat.le_refl w.heap.size
  rcases (show op = 1 ∨ op = 2 ∨ op = 3 ∨ op = 4 ∨ op = 5 ∨ op = 6 ∨ op = 7 ∨ op = 8 ∨ op = 9 ∨ op = 10 ∨ op = 11 ∨ op = 12 by omega) with rfl | rfl | rfl | rfl | rfl | rfl | rfl | rfl | rfl | rfl | rfl | rfl
  all_goals clear h1 h2
  · go_enter Tryz.func51, Tryz.ntmps51
    go_wp2_with (go_at_call 32; refine (refLow_is _ _ _ rfl).mono ?_; rintro e w' ⟨rfl, rfl⟩)
    go_ret
    exact ⟨rfl, hb⟩
  · go_enter Tryz.func51, Tryz.ntmps51
    go_wp2_with (go_at_call 32; refine (refLow_is _ _ _ rfl).mono ?_; rintro e w' ⟨rfl, rfl⟩)
    go_ret
    exact ⟨rfl, hb⟩
  · go_enter Tryz.func51, Tryz.ntmps51
    go_wp2_with (go_at_call 78; refine (refAdd_is _ _ _ a1 a2 b1 b2).mono ?_; rintro e w' ⟨rfl, rfl⟩)
    go_ret
    exact ⟨rfl, hb⟩
  · go_enter Tryz.func51, Tryz.ntmps51
    go_wp2_with (go_at_call 79; refine (refSub_is _ _ _ a1 a2 b1 b2).mono ?_; rintro e w' ⟨rfl, rfl⟩)
    go_ret
    exact ⟨rfl, hb⟩
  · go_enter Tryz.func51, Tryz.ntmps51
    go_wp2_with (go_at_call 80; refine (keep (refEach_0 _ _ _ a1 a2 b1 b2) hb hB).mono ?_; rintro e w' ⟨rfl, hb, hB⟩)
    go_ret
    exact ⟨rfl, hb⟩
  · go_enter Tryz.func51, Tryz.ntmps51
    go_wp2_with (go_at_call 80; refine (keep (refEach_1 _ _ _ a1 a2 b1 b2) hb hB).mono ?_; rintro e w' ⟨rfl, hb, hB⟩)
    go_ret
    exact ⟨rfl, hb⟩
  · go_enter Tryz.func51, Tryz.ntmps51
    go_wp2_with (go_at_call 80; refine (keep (refEach_2 _ _ _ a1 a2 b1 b2) hb hB).mono ?_; rintro e w' ⟨rfl, hb, hB⟩)
    go_ret
    exact ⟨rfl, hb⟩
  · go_enter Tryz.func51, Tryz.ntmps51
    go_wp2_with (go_at_call 80; refine (keep (refEach_3 _ _ _ a1 a2 b1 b2) hb hB).mono ?_; rintro e w' ⟨rfl, hb, hB⟩)
    go_ret
    exact ⟨rfl, hb⟩
  · go_enter Tryz.func51, Tryz.ntmps51
    go_wp2_with (go_at_call 81; refine (keep (refShl_is _ _ _ a1 a2 b1 b2) hb hB).mono ?_; rintro e w' ⟨rfl, hb, hB⟩)
    go_ret
    exact ⟨rfl, hb⟩
  · go_enter Tryz.func51, Tryz.ntmps51
    go_wp2_with (go_at_call 82; refine (keep (refShr_is _ _ _ a1 a2 b1 b2) hb hB).mono ?_; rintro e w' ⟨rfl, hb, hB⟩)
    go_ret
    exact ⟨rfl, hb⟩
  · go_enter Tryz.func51, Tryz.ntmps51
    go_wp2_with (go_at_call 77; refine (refSar_is _ _ _ a1 a2 b1 b2).mono ?_; rintro e w' ⟨rfl, rfl⟩)
    go_ret
    exact ⟨rfl, hb⟩
  · go_enter Tryz.func51, Tryz.ntmps51
    go_wp2_with (go_at_call 83; refine (keep (refRol_is _ _ _ a1 a2 b1 b2) hb hB).mono ?_; rintro e w' ⟨rfl, hb, hB⟩)
    go_ret
    exact ⟨rfl, hb⟩

set_option maxHeartbeats 2000000 in
theorem refTwoB_is (op a b : Int) (w : World) (h1 : 13 ≤ op) (h2 : op ≤ 21) (a1 : -2147483648 ≤ a) (a2 : a ≤ 2147483647) (b1 : -2147483648 ≤ b) (b2 : b ≤ 2147483647) :
    Calls Tryz.prog 51 #[.int .i64 op, .int .i32 a, .int .i32 b] w fun e w' => e = .returned (.int .i32 (wTwo op a b)) ∧ Below w.heap.size w w' := by
  have hb := Below.refl w.heap.size w
  have hB := Nat.le_refl w.heap.size
  rcases (show op = 13 ∨ op = 14 ∨ op = 15 ∨ op = 16 ∨ op = 17 ∨ op = 18 ∨ op = 19 ∨ op = 20 ∨ op = 21 by omega) with rfl | rfl | rfl | rfl | rfl | rfl | rfl | rfl | rfl
  all_goals clear h1 h2
  · go_enter Tryz.func51, Tryz.ntmps51
    go_wp2_with (go_at_call 84; refine (refLess_is _ _ _).mono ?_; rintro e w' ⟨rfl, rfl⟩)
    go_ret
    exact ⟨rfl, hb⟩
  · go_enter Tryz.func51, Tryz.ntmps51
    go_wp2_with (go_at_call 85; refine (refUnder_is _ _ _ a1 a2 b1 b2).mono ?_; rintro e w' ⟨rfl, rfl⟩)
    go_ret
    exact ⟨rfl, hb⟩
  · go_enter Tryz.func51, Tryz.ntmps51
    go_wp2_with (go_at_call 86; refine (refSame_is _ _ _).mono ?_; rintro e w' ⟨rfl, rfl⟩)
    go_ret
    exact ⟨rfl, hb⟩
  · go_enter Tryz.func51, Tryz.ntmps51
    go_wp2_with (go_at_call 87; refine (refMin_is _ _ _).mono ?_; rintro e w' ⟨rfl, rfl⟩)
    go_ret
    exact ⟨rfl, hb⟩
  · go_enter Tryz.func51, Tryz.ntmps51
    go_wp2_with (go_at_call 88; refine (refMax_is _ _ _).mono ?_; rintro e w' ⟨rfl, rfl⟩)
    go_ret
    exact ⟨rfl, hb⟩
  · go_enter Tryz.func51, Tryz.ntmps51
    go_wp2_with (go_at_call 89; refine (refMull_is _ _ _ a1 a2 b1 b2).mono ?_; rintro e w' ⟨rfl, rfl⟩)
    go_ret
    exact ⟨rfl, hb⟩
  · go_enter Tryz.func51, Tryz.ntmps51
    go_wp2_with (go_at_call 90; refine (refMulh_is _ _ _ a1 a2 b1 b2).mono ?_; rintro e w' ⟨rfl, rfl⟩)
    go_ret
    exact ⟨rfl, hb⟩
  · go_enter Tryz.func51, Tryz.ntmps51
    go_wp2_with (go_at_call 91; refine (refMulq_is _ _ _ a1 a2 b1 b2).mono ?_; rintro e w' ⟨rfl, rfl⟩)
    go_ret
    exact ⟨rfl, hb⟩
  · go_enter Tryz.func51, Tryz.ntmps51
    go_wp2_with (go_at_call 92; refine (refMulr_is _ _ _ a1 a2 b1 b2).mono ?_; rintro e w' ⟨rfl, rfl⟩)
    go_ret
    exact ⟨rfl, hb⟩

set_option maxHeartbeats 2000000 in
theorem refTwoC_is (op a b : Int) (w : World) (h1 : 22 ≤ op) (h2 : op ≤ 23) (a1 : -2147483648 ≤ a) (a2 : a ≤ 2147483647) (b1 : -2147483648 ≤ b) (b2 : b ≤ 2147483647) (hn : ¬ b = 0) :
    Calls Tryz.prog 51 #[.int .i64 op, .int .i32 a, .int .i32 b] w fun e w' => e = .returned (.int .i32 (wTwo op a b)) ∧ Below w.heap.size w w' := by
  have hb := Below.refl w.heap.size w
  have hB := Nat.le_refl w.heap.size
  rcases (show op = 22 ∨ op = 23 by omega) with rfl | rfl
  all_goals clear h1 h2
  · go_enter Tryz.func51, Tryz.ntmps51
    go_wp2_with (go_at_call 93; refine (refQuo_is _ _ false _ a1 a2 b1 b2 hn).mono ?_; rintro e w' ⟨rfl, rfl⟩)
    go_ret
    exact ⟨rfl, hb⟩
  · go_enter Tryz.func51, Tryz.ntmps51
    go_wp2_with (go_at_call 93; refine (refQuo_is _ _ true _ a1 a2 b1 b2 hn).mono ?_; rintro e w' ⟨rfl, rfl⟩)
    go_ret
    exact ⟨rfl, hb⟩

set_option maxHeartbeats 2000000 in
theorem refOne_is (op a : Int) (w : World) (h1 : 24 ≤ op) (h2 : op ≤ 30) (a1 : -2147483648 ≤ a) (a2 : a ≤ 2147483647) :
    Calls Tryz.prog 50 #[.int .i64 op, .int .i32 a] w fun e w' => e = .returned (.int .i32 (wOne op a)) ∧ Below w.heap.size w w' := by
  have hb := Below.refl w.heap.size w
  have hB := Nat.le_refl w.heap.size
  rcases (show op = 24 ∨ op = 25 ∨ op = 26 ∨ op = 27 ∨ op = 28 ∨ op = 29 ∨ op = 30 by omega) with rfl | rfl | rfl | rfl | rfl | rfl | rfl
  all_goals clear h1 h2
  · go_enter Tryz.func50, Tryz.ntmps50
    go_wp2_with (go_at_call 71; refine (keep (refClz_is _ _ a1 a2) hb hB).mono ?_; rintro e w' ⟨rfl, hb, hB⟩)
    go_ret
    exact ⟨rfl, hb⟩
  · go_enter Tryz.func50, Tryz.ntmps50
    go_wp2_with (go_at_call 72; refine (refNeg_is _ _ a1 a2).mono ?_; rintro e w' ⟨rfl, rfl⟩)
    go_ret
    exact ⟨rfl, hb⟩
  · go_enter Tryz.func50, Tryz.ntmps50
    go_wp2_with (go_at_call 73; refine (refAbs_is _ _ a1 a2).mono ?_; rintro e w' ⟨rfl, rfl⟩)
    go_ret
    exact ⟨rfl, hb⟩
  · go_enter Tryz.func50, Tryz.ntmps50
    go_wp2_with (go_at_call 74; refine (refMask_is _ _).mono ?_; rintro e w' ⟨rfl, rfl⟩)
    go_ret
    exact ⟨rfl, hb⟩
  · go_enter Tryz.func50, Tryz.ntmps50
    go_wp2_with (go_at_call 75; refine (refSign_is _ _).mono ?_; rintro e w' ⟨rfl, rfl⟩)
    go_ret
    exact ⟨rfl, hb⟩
  · go_enter Tryz.func50, Tryz.ntmps50
    go_wp2_with (go_at_call 76; refine (refHalf_is _ _ _ a1 a2 rfl).mono ?_; rintro e w' ⟨rfl, rfl⟩)
    go_ret
    exact ⟨rfl, hb⟩
  · go_enter Tryz.func50, Tryz.ntmps50
    go_wp2_with (go_at_call 77; refine (refSar_is _ _ _ a1 a2 (by decide) (by decide)).mono ?_; rintro e w' ⟨rfl, rfl⟩)
    go_ret
    exact ⟨rfl, hb⟩

theorem refTwo_is (op a b : Int) (w : World) (h1 : 1 ≤ op) (h2 : op ≤ 23) (a1 : -2147483648 ≤ a) (a2 : a ≤ 2147483647) (b1 : -2147483648 ≤ b) (b2 : b ≤ 2147483647) (hn : op = 22 ∨ op = 23 → ¬ b = 0) :
    Calls Tryz.prog 51 #[.int .i64 op, .int .i32 a, .int .i32 b] w fun e w' => e = .returned (.int .i32 (wTwo op a b)) ∧ Below w.heap.size w w' := by
  by_cases h : op ≤ 12
  · exact refTwoA_is op a b w h1 h a1 a2 b1 b2
  by_cases h' : op ≤ 21
  · exact refTwoB_is op a b w (by omega) h' a1 a2 b1 b2
  · exact refTwoC_is op a b w (by omega) h2 a1 a2 b1 b2 (hn (by omega))

set_option maxHeartbeats 1000000 in
theorem refDo_is (op a b : Int) (w : World) (a1 : -2147483648 ≤ a) (a2 : a ≤ 2147483647) (b1 : -2147483648 ≤ b) (b2 : b ≤ 2147483647) :
    Calls Tryz.prog 34 #[.int .i64 op, .int .i32 a, .int .i32 b] w fun e w' => e = .returned (.tuple #[.int .i32 (wDo op a b), .bool (wDoes op b)]) ∧ Below w.heap.size w w' := by
  have hb := Below.refl w.heap.size w
  have hB := Nat.le_refl w.heap.size
  by_cases h0 : op < 1 ∨ 30 < op
  · rw [wDo_none (wDoes_out h0), wDoes_out h0]
    have r : wReck op = false := decide_eq_false (by omega)
    clear h0
    go_enter Tryz.func34, Tryz.ntmps34
    go_wp2_with (go_at_call 49; refine (refReckons_is _ _).mono ?_; rintro e w' ⟨rfl, rfl⟩)
    go_returns
    exact ⟨rfl, hb⟩
  have r : wReck op = true := decide_eq_true (by omega)
  by_cases hz : b = 0 ∧ (op = 22 ∨ op = 23)
  · obtain ⟨rfl, hz⟩ := hz
    rw [wDo_none (wDoes_0 hz), wDoes_0 hz]
    rcases hz with rfl | rfl
    all_goals
      clear h0
      go_enter Tryz.func34, Tryz.ntmps34
      go_wp2_with (go_at_call 49; refine (refReckons_is _ _).mono ?_; rintro e w' ⟨rfl, rfl⟩)
      go_returns
      exact ⟨rfl, hb⟩
  have hd : wDoes op b = true := decide_eq_true (by omega)
  rw [hd]
  by_cases h1 : 24 ≤ op
  · rw [wDo_one hd (by omega)]
    have n1 : (op == 22) = false := by simp; omega
    have n2 : (op == 23) = false := by simp; omega
    have o2 : op ≤ 30 := by omega
    clear h0 hz
    by_cases hz2 : b = 0
    · subst hz2
      go_enter Tryz.func34, Tryz.ntmps34
      go_wp2_with (first
        | (go_at_call 49; refine (refReckons_is _ _).mono ?_; rintro e w' ⟨rfl, rfl⟩)
        | (go_at_call 50; refine (keep (refOne_is _ _ _ h1 o2 a1 a2) hb hB).mono ?_; rintro e w' ⟨rfl, hb, hB⟩))
      go_returns
      exact ⟨rfl, hb⟩
    · have z : (b == 0) = false := by simpa using hz2
      go_enter Tryz.func34, Tryz.ntmps34
      go_wp2_with (first
        | (go_at_call 49; refine (refReckons_is _ _).mono ?_; rintro e w' ⟨rfl, rfl⟩)
        | (go_at_call 50; refine (keep (refOne_is _ _ _ h1 o2 a1 a2) hb hB).mono ?_; rintro e w' ⟨rfl, hb, hB⟩))
      go_returns
      exact ⟨rfl, hb⟩
  · rw [wDo_two hd (by omega)]
    have o1 : 1 ≤ op := by omega
    have o2 : op ≤ 23 := by omega
    have on' := Lib.hid (show op = 22 ∨ op = 23 → ¬ b = 0 by omega)
    by_cases hz2 : b = 0
    · have n1 : (op == 22) = false := by simp; omega
      have n2 : (op == 23) = false := by simp; omega
      clear h0 hz
      subst hz2
      go_enter Tryz.func34, Tryz.ntmps34
      go_wp2_with (first
        | (go_at_call 49; refine (refReckons_is _ _).mono ?_; rintro e w' ⟨rfl, rfl⟩)
        | (go_at_call 51; refine (keep (refTwo_is _ _ _ _ o1 o2 a1 a2 (by decide) (by decide) (fun h => by rcases h with rfl | rfl; exact absurd n1 (by decide); exact absurd n2 (by decide))) hb hB).mono ?_; rintro e w' ⟨rfl, hb, hB⟩))
      go_returns
      exact ⟨rfl, hb⟩
    · have z : (b == 0) = false := by simpa using hz2
      clear h0 hz
      go_enter Tryz.func34, Tryz.ntmps34
      go_wp2_with (first
        | (go_at_call 49; refine (refReckons_is _ _).mono ?_; rintro e w' ⟨rfl, rfl⟩)
        | (go_at_call 51; refine (keep (refTwo_is _ _ _ _ o1 o2 a1 a2 b1 b2 on'.out) hb hB).mono ?_; rintro e w' ⟨rfl, hb, hB⟩))
      go_returns
      exact ⟨rfl, hb⟩

theorem refCostA_is (op a : Int) (w : World) (n1 : -9223372036854775808 ≤ op) (n2 : op ≤ 9223372036854775807) (a1 : -2147483648 ≤ a) (a2 : a ≤ 2147483647) :
    Calls Tryz.prog 37 #[.int .i64 op, .int .i32 a] w fun e w' => e = .returned (.int .i64 (wCostA op a)) ∧ Below w.heap.size w w' := by
  have hb := Below.refl w.heap.size w
  have hB := Nat.le_refl w.heap.size
  by_cases h : op = 22 ∨ op = 23
  · have E := Lib.hid (show 2 + (Lib.bitLen a.natAbs : Int) = wCostA op a by unfold wCostA wLen; rw [if_pos h]; rcases h with rfl | rfl <;> rfl)
    obtain ⟨l1, l2⟩ := wLen_bd a1 a2
    unfold wLen at l1 l2
    have hN : a.natAbs ≤ 4294967296 := by omega
    rcases h with rfl | rfl
    all_goals
      go_enter Tryz.func37, Tryz.ntmps37
      go_wp2_with (first
        | (go_at_call 55; refine (refAmount_is _ _ _ a1 a2 rfl).mono ?_; rintro e w' ⟨rfl, rfl⟩)
        | (go_at_call 54; refine (refLen_is _ _ hN).mono ?_; rintro e w' ⟨rfl, rfl⟩))
      go_ret
      exact ⟨ret_int E.out, hb⟩
  · have E := Lib.hid (show wCost op = wCostA op a by unfold wCostA; rw [if_neg h]; omega)
    have m1 : (op == 22) = false := by simp; omega
    have m2 : (op == 23) = false := by simp; omega
    clear h
    go_enter Tryz.func37, Tryz.ntmps37
    go_wp2_with (go_at_call 56; refine (keep (refCost_is _ _ n1 n2) hb hB).mono ?_; rintro e w' ⟨rfl, hb, hB⟩)
    go_ret
    exact ⟨ret_int E.out, hb⟩
end Go.Proofs.YtcoicgkpikoibaaGreatDoor
