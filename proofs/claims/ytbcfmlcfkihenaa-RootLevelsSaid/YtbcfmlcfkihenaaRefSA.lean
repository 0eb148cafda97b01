/- What the document's own plain answers for sums cut to a word (package astrolaberef04) give. Conditions: the numbers are of the parameters' kinds. -/
import Derived.Test.YtbcfmlcfkihenaaProg
import Derived.Test.YtbcfmlcfkihenaaSatD
import Derived.Test.YtbcfmlcfkihenaaWordA
import Derived.Handy
import Derived.Lib.Hide
namespace Go.Proofs.Ytbcfmlcfkihenaa
open Go.RowKit

theorem refSat_is (x : Int) (w : World) :
    Calls Try.prog 41 #[.int .i64 x] w fun e w' => e = .returned (.int .i32 (wCut x)) ∧ w = w' := by
  go_enter Try.func41, Try.ntmps41
  go_wp2
  all_goals
    go_ret
    exact ⟨ret_int (by unfold wCut; omega), rfl⟩
theorem refAdd_is (a b : Int) (w : World) (h1 : -2147483648 ≤ a) (h2 : a ≤ 2147483647) (h3 : -2147483648 ≤ b) (h4 : b ≤ 2147483647) :
    Calls Try.prog 29 #[.int .i32 a, .int .i32 b] w fun e w' => e = .returned (.int .i32 (wCut (a + b))) ∧ w = w' := by
  go_enter Try.func29, Try.ntmps29
  go_wp2_with (go_at_call 41; refine (refSat_is _ _).mono ?_; rintro e w' ⟨rfl, rfl⟩)
  go_ret
  exact ⟨rfl, rfl⟩
theorem refSub_is (a b : Int) (w : World) (h1 : -2147483648 ≤ a) (h2 : a ≤ 2147483647) (h3 : -2147483648 ≤ b) (h4 : b ≤ 2147483647) :
    Calls Try.prog 27 #[.int .i32 a, .int .i32 b] w fun e w' => e = .returned (.int .i32 (wCut (a - b))) ∧ w = w' := by
  go_enter Try.func27, Try.ntmps27
  go_wp2_with (go_at_call 41; refine (refSat_is _ _).mono ?_; rintro e w' ⟨rfl, rfl⟩)
  go_ret
  exact ⟨rfl, rfl⟩
end Go.Proofs.Ytbcfmlcfkihenaa
