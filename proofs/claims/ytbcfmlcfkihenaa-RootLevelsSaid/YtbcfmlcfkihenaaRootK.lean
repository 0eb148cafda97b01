/- Package root within a law's walk, and the page's examples. Conditions: the numbers are of the kind int32. -/
import Derived.Test.YtbcfmlcfkihenaaRootA
import Derived.Test.YtbcfmlcfkihenaaRootL
namespace Go.Proofs.Ytbcfmlcfkihenaa
open Go.RowKit

theorem sqrt_v (x s : Int) (w : World) (x1 : -2147483648 ≤ x) (x2 : x ≤ 2147483647) (hs : wSqrt x = s) :
    Calls Try.prog 15 #[.int .i32 x] w fun e w' => e = .returned (.int .i32 s) ∧ Below w.heap.size w w' := by
  subst hs; exact sqrt_is x w x1 x2
theorem recip_v (x z h : Int) (w : World) (x1 : -2147483648 ≤ x) (x2 : x ≤ 2147483647) (hz : wRc (wRcV x) = z) (hh : wClz x - 1 = h) :
    Calls Try.prog 19 #[.int .i32 x] w fun e w' => e = .returned (.tuple #[.int .i32 z, .int .i32 h]) ∧ Below w.heap.size w w' := by
  subst hz hh; exact recip_is x w x1 x2
theorem rootAwake_is (w : World) :
    Calls Try.prog 17 #[] w fun e w' => e = .returned (.bool true) ∧ Below w.heap.size w w' := by
  have hb := Below.refl w.heap.size w
  have hB := Nat.le_refl w.heap.size
  have e1 : wLvU 1073741824 = 268435456 := by decide +kernel
  have e2 : wLvH 1073741824 = 0 := by decide +kernel
  have e3 : wLvU 1 = 268435456 := by decide +kernel
  have e4 : wLvH 1 = 15 := by decide +kernel
  obtain ⟨s, hs⟩ : ∃ s, wSqrt 268435456 = s := ⟨_, rfl⟩
  have e5 : 536870848 < s := by rw [← hs]; decide +kernel
  have e6 : s < 536870976 := by rw [← hs]; decide +kernel
  go_enter Try.func17, Try.ntmps17
  go_wp2_with (first
    | (go_at_call 9; with_reducible refine (keep (level_v 1073741824 _ _ _ (by decide) (by decide) e1 e2) hb hB).mono ?_; rintro e w1 ⟨rfl, hb, hB⟩)
    | (go_at_call 9; with_reducible refine (keep (level_v 1 _ _ _ (by decide) (by decide) e3 e4) hb hB).mono ?_; rintro e w1 ⟨rfl, hb, hB⟩)
    | (go_at_call 15; with_reducible refine (keep (sqrt_v 268435456 s _ (by decide) (by decide) hs) hb hB).mono ?_; rintro e w1 ⟨rfl, hb, hB⟩))
  go_ret
  exact ⟨rfl, hb⟩
end Go.Proofs.Ytbcfmlcfkihenaa
