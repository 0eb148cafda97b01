/- The walk of the law PickOrders: it returns true and writes nothing that was there. -/
import Derived.Test.YtoagijojmkcfnaaPickK
import Derived.Test.YtoagijojmkcfnaaPickL
namespace Go.Proofs.Ytoagijojmkcfnaa.pickOrders
open Go.RowKit Go.ChangeShapes Go.OpenShut

set_option maxHeartbeats 1000000 in
theorem walk (a0 a1 : Int) (w0 : (Lit.int .i32 a0).wf = true) (w1 : (Lit.int .i32 a1).wf = true) (w : World) :
    Calls Try.prog 5 #[.int .i32 a0, .int .i32 a1] w fun e w' => e = .returned (.bool true) ∧ Below w.heap.size w w' := by
  obtain ⟨b1, b2⟩ := bounds_i32 w0
  obtain ⟨b3, b4⟩ := bounds_i32 w1
  have hb := Below.refl w.heap.size w
  have hB := Nat.le_refl w.heap.size
  have f1 := one_of_less a0 a1
  have f2 := one_of_under b1 b2 b3 b4
  obtain ⟨f4, f5, f6⟩ := min_max a0 a1
  have l1 := wLess_bd a0 a1
  have l2 := wLess_bd a1 a0
  have l3 := wUnder_bd a0 a1
  have l4 := wUnder_bd a1 a0
  have l5 := wSame_bd a0 a1
  have l6 := min_in b1 b2 b3 b4
  have l7 := max_in b1 b2 b3 b4
  have f7 : ((wSign a0 != wSign a1) = false ∧ (wLess a0 a1 == wUnder a0 a1) = true) ∨ ((wSign a0 != wSign a1) = true ∧ (wLess a0 a1 == wUnder a0 a1) = false) := by simpa using signs_under b1 b2 b3 b4
  have f6 : (wMin a0 a1 == a0) = true ∨ ((wMin a0 a1 == a0) = false ∧ (wMin a0 a1 == a1) = true) := by
    by_cases h : wMin a0 a1 = a0
    · exact .inl (by simp [h])
    · exact .inr ⟨by simp [h], by simpa [h] using f6⟩
  rcases f7 with ⟨f7, f8⟩ | ⟨f7, f8⟩ <;> rcases f6 with f6 | ⟨f6, f9⟩
  all_goals
    go_enter Try.func5, Try.ntmps5
    go_wp2_with (first
      | (go_at_call 9; refine (sign_is _ _ b1 b2).mono ?_; rintro e w' ⟨rfl, rfl⟩)
      | (go_at_call 9; refine (sign_is _ _ b3 b4).mono ?_; rintro e w' ⟨rfl, rfl⟩)
      | (go_at_call 15; refine (keep (less_b _ _ _ (by assumption) (by assumption) (by assumption) (by assumption)) hb hB).mono ?_; rintro e w1 ⟨rfl, hb, hB⟩)
      | (go_at_call 17; refine (keep (under_b _ _ _) hb hB).mono ?_; rintro e w1 ⟨rfl, hb, hB⟩)
      | (go_at_call 19; refine (keep (same_b _ _ _ b1 b2 b3 b4) hb hB).mono ?_; rintro e w1 ⟨rfl, hb, hB⟩)
      | (go_at_call 21; refine (keep (min_b _ _ _ b1 b2 b3 b4) hb hB).mono ?_; rintro e w1 ⟨rfl, hb, hB⟩)
      | (go_at_call 23; refine (keep (max_b _ _ _ b1 b2 b3 b4) hb hB).mono ?_; rintro e w1 ⟨rfl, hb, hB⟩)
      | (go_at_call 25; refine (keep (pickAwake_is _) hb hB).mono ?_; rintro e w1 ⟨rfl, hb, hB⟩))
    go_ret
    exact ⟨rfl, hb⟩
end Go.Proofs.Ytoagijojmkcfnaa.pickOrders
