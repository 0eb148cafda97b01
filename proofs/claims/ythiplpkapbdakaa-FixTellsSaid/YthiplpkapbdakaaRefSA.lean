/- What the document's own plain answers for sums cut to a word (package astrolaberef04) give. Conditions: the numbers are of the parameters' kinds. -/
import Derived.Test.YthiplpkapbdakaaProg
import Derived.Test.YthiplpkapbdakaaSatD
import Derived.Test.YthiplpkapbdakaaWordA
import Derived.Handy
import Derived.Lib.Hide
namespace Go.Proofs.Ythiplpkapbdakaa
open Go.RowKit

theorem refSat_is (x : Int) (w : World) :
    Calls Try.prog 21 #[.int .i64 x] w fun e w' => e = .returned (.int .i32 (wCut x)) ∧ w = w' := by
  go_enter Try.func21, Try.ntmps21
  go_wp2
  all_goals
    go_ret
    exact ⟨ret_int (by unfold wCut; omega), rfl⟩
end Go.Proofs.Ythiplpkapbdakaa
