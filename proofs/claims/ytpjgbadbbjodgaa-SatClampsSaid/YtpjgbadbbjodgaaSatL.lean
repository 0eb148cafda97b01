/- The plain facts of the laws on sums cut to a word. Nothing of any program. -/
import Derived.Test.YtpjgbadbbjodgaaSatD
namespace Go.Proofs.Ytpjgbadbbjodgaa
open Go.RowKit

theorem near (x : Int) {y : Int} (h1 : -2147483648 ≤ y) (h2 : y ≤ 2147483647) : wFar x (wCut x) ≤ wFar x y := by
  unfold wFar wCut; omega
theorem near_eq (x : Int) {y : Int} (h1 : -2147483648 ≤ y) (h2 : y ≤ 2147483647) : (wCut x = y) ↔ (wFar x (wCut x) = wFar x y) := by
  unfold wFar wCut; omega
theorem near_beq (x : Int) {y : Int} (h1 : -2147483648 ≤ y) (h2 : y ≤ 2147483647) : ((wCut x == y) == (wFar x (wCut x) == wFar x y)) = true := by
  have := near_eq x h1 h2
  by_cases h : wCut x = y
  · simp [h]
  · have g : ¬ wFar x (wCut x) = wFar x y := fun e => h (this.mpr e)
    rw [beq_false_of_ne h, beq_false_of_ne g]; rfl
theorem neg_neg {x : Int} (h1 : -2147483648 ≤ x) (h2 : x ≤ 2147483647) : wCut (-(wCut (-x))) = max x (-2147483647) := by
  unfold wCut; omega
theorem sub_neg (a : Int) {b : Int} (h1 : -2147483648 ≤ b) (h2 : b ≤ 2147483647) (h : b ≠ -2147483648) : wCut (a + wCut (-b)) = wCut (a - b) := by
  rw [wCut_in (x := -b) (by omega) (by omega)]; rfl
theorem cut_le {x y : Int} (h : x ≤ y) : wCut x ≤ wCut y := by
  unfold wCut; omega
theorem abs_nonneg (x : Int) : 0 ≤ wAbs x := by
  unfold wAbs wCut; omega
theorem abs_or (x : Int) : wAbs x = x ∨ wAbs x = wCut (-x) := by
  unfold wAbs; split <;> simp
theorem clamp_cross {x l h : Int} (c : h < l) : wClamp x l h = h := by
  unfold wClamp; omega
theorem clamp_in {x l h : Int} (c : l ≤ h) : l ≤ wClamp x l h ∧ wClamp x l h ≤ h := by
  unfold wClamp; omega
theorem clamp_twice (x l h : Int) : wClamp (wClamp x l h) l h = wClamp x l h := by
  unfold wClamp; omega
theorem clamp_same {x l h : Int} (c : l ≤ x) (d : x ≤ h) : wClamp x l h = x := by
  unfold wClamp; omega
end Go.Proofs.Ytpjgbadbbjodgaa
