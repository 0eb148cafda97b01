/- What the document's own plain answer for costs (astrolaberef06.Cost) gives. Conditions: the number is of the parameter's kind. -/
import Derived.Test.YtcoicgkpikoibaaGreatDoorOpsR
namespace Go.Proofs.YtcoicgkpikoibaaGreatDoor
open Go.RowKit

set_option maxHeartbeats 1000000 in
theorem refCost_3 (n : Int) (w : World) (n1 : -9223372036854775808 ≤ n) (n2 : n ≤ 9223372036854775807) (h0 : ¬ (n < 1 ∨ 43 < n)) (h2 : (18 ≤ n ∧ n ≤ 21) ∨ (39 ≤ n ∧ n ≤ 41)) :
    Calls Tryz.prog 56 #[.int .i64 n] w fun e w' => e = .returned (.int .i64 (wCost n)) ∧ Below w.heap.size w w' := by
  have hb := Below.refl w.heap.size w
  have hB := Nat.le_refl w.heap.size
  have E1 := str_some (wName_some (n := n) (by omega) (by omega))
  have E : Hid (wCost n = 3) := Lib.hid (by unfold wCost; rw [if_neg h0, if_pos h2])
  have I1 := Lib.hid (show inB n [18, 19, 20, 21, 39, 40, 41] = true from decide_eq_true (by simp; omega))
  clear h0 h2
  go_enter Tryz.func56, Tryz.ntmps56
  go_wp2_with (go_at_call 94; refine (keep (refName_is _ _ n1 n2) hb hB).mono ?_; rintro e w1 ⟨rfl, hb, hB⟩)
  refine (in_n n [18, 19, 20, 21, 39, 40, 41] _ _ (by decide) (fun k hk => intsC_at _ _ _ hk) I1.out).mono ?_
  rintro e w' ⟨rfl, rfl⟩
  go_wp2
  go_ret
  exact ⟨ret_int E.out.symm, hb.alloc hB _⟩

set_option maxHeartbeats 1000000 in
theorem refCost_2 (n : Int) (w : World) (n1 : -9223372036854775808 ≤ n) (n2 : n ≤ 9223372036854775807) (h0 : ¬ (n < 1 ∨ 43 < n)) (h2 : ¬ ((18 ≤ n ∧ n ≤ 21) ∨ (39 ≤ n ∧ n ≤ 41))) (c : Bool) (hc : inB n [22, 23, 34, 35] = c)
    (h3 : wCost n = if c then 2 else 1) :
    Calls Tryz.prog 56 #[.int .i64 n] w fun e w' => e = .returned (.int .i64 (wCost n)) ∧ Below w.heap.size w w' := by
  have hb := Below.refl w.heap.size w
  have hB := Nat.le_refl w.heap.size
  have E1 := str_some (wName_some (n := n) (by omega) (by omega))
  have I1 := Lib.hid (show inB n [18, 19, 20, 21, 39, 40, 41] = false from decide_eq_false (by simp; omega))
  have I2 := Lib.hid hc
  have E := Lib.hid h3
  clear h0 h2 hc h3
  go_enter Tryz.func56, Tryz.ntmps56
  go_wp2_with (go_at_call 94; refine (keep (refName_is _ _ n1 n2) hb hB).mono ?_; rintro e w1 ⟨rfl, hb, hB⟩)
  refine (in_n n [18, 19, 20, 21, 39, 40, 41] _ _ (by decide) (fun k hk => intsC_at _ _ _ hk) I1.out).mono ?_
  rintro e w' ⟨rfl, rfl⟩
  go_wp2_with fail
  refine (in_n n [22, 23, 34, 35] _ _ (by decide) (fun k hk => intsC_atb _ _ _ _ (by rw [World.size_alloc]) hk) I2.out).mono ?_
  rintro e w' ⟨rfl, rfl⟩
  have hb2 := hb.alloc hB (.cells (intsC [18, 19, 20, 21, 39, 40, 41]) 3)
  have hb3 := hb2.alloc (by rw [World.size_alloc]; omega) (.cells (intsC [22, 23, 34, 35]) 3)
  cases c
  all_goals
    go_wp2
    go_ret
    exact ⟨ret_int E.out.symm, hb3⟩

theorem refCost_is (n : Int) (w : World) (n1 : -9223372036854775808 ≤ n) (n2 : n ≤ 9223372036854775807) :
    Calls Tryz.prog 56 #[.int .i64 n] w fun e w' => e = .returned (.int .i64 (wCost n)) ∧ Below w.heap.size w w' := by
  by_cases h1 : n < 1 ∨ 43 < n
  · have hb := Below.refl w.heap.size w
    have hB := Nat.le_refl w.heap.size
    have E := Lib.hid (wCost_out h1)
    have E1 := str_none (wName_out h1)
    go_enter Tryz.func56, Tryz.ntmps56
    go_wp2_with (go_at_call 94; refine (keep (refName_is _ _ n1 n2) hb hB).mono ?_; rintro e w1 ⟨rfl, hb, hB⟩)
    go_ret
    exact ⟨ret_int E.out.symm, hb⟩
  by_cases h2 : (18 ≤ n ∧ n ≤ 21) ∨ (39 ≤ n ∧ n ≤ 41)
  · exact refCost_3 n w n1 n2 h1 h2
  by_cases h3 : n = 22 ∨ n = 23 ∨ n = 34 ∨ n = 35
  · exact refCost_2 n w n1 n2 h1 h2 true (decide_eq_true (by simp; omega)) (by unfold wCost; rw [if_neg h1, if_neg h2, if_pos h3]; rfl)
  · exact refCost_2 n w n1 n2 h1 h2 false (decide_eq_false (by simp; omega)) (by unfold wCost; rw [if_neg h1, if_neg h2, if_neg h3]; rfl)
end Go.Proofs.YtcoicgkpikoibaaGreatDoor
