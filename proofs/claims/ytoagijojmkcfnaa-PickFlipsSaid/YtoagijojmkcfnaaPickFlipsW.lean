/- The walk of the law PickFlips: it returns true and writes nothing that was there. -/
import Derived.Test.YtoagijojmkcfnaaPickK
import Derived.Test.YtoagijojmkcfnaaPickL
namespace Go.Proofs.Ytoagijojmkcfnaa.pickFlips
open Go.RowKit Go.ChangeShapes Go.OpenShut

theorem walk (a0 : Int) (w0 : (Lit.int .i32 a0).wf = true) (w : World) :
    Calls Try.prog 6 #[.int .i32 a0] w fun e w' => e = .returned (.bool true) ∧ Below w.heap.size w w' := by
  obtain ⟨b1, b2⟩ := bounds_i32 w0
  have hb := Below.refl w.heap.size w
  have hB := Nat.le_refl w.heap.size
  have f1 := flip_back b1 b2
  have f2 := flip_0 b1 b2
  have f3 := flip_m1 b1 b2
  have f4 : (0 ≤ wFlip a0 (wSign a0)) ∨ (¬ (0 ≤ wFlip a0 (wSign a0)) ∧ (a0 == -2147483648) = true) := by
    by_cases h : 0 ≤ wFlip a0 (wSign a0)
    · exact .inl h
    · exact .inr ⟨h, by simpa [h] using flip_sign b1 b2⟩
  have l1 := wFlip_bd a0 (wSign a0)
  rcases f4 with f4 | ⟨f4, f5⟩
  all_goals
    go_enter Try.func6, Try.ntmps6
    go_wp2_with (first
      | (go_at_call 9; refine (sign_is _ _ (by omega) (by omega)).mono ?_; rintro e w' ⟨rfl, rfl⟩)
      | (go_at_call 13; refine (flip_is _ _ _).mono ?_; rintro e w' ⟨rfl, rfl⟩)
      | (go_at_call 25; refine (keep (pickAwake_is _) hb hB).mono ?_; rintro e w1 ⟨rfl, hb, hB⟩))
    go_ret
    exact ⟨rfl, hb⟩
end Go.Proofs.Ytoagijojmkcfnaa.pickFlips
