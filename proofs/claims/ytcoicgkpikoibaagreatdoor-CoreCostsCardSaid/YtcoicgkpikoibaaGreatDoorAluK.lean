/- Package alu within a law's walk, and the page's examples. Conditions: the numbers are of the parameters' kinds; the table of costs lies as the program's text has it. -/
import Derived.Test.YtcoicgkpikoibaaGreatDoorAluV
import Derived.Test.YtcoicgkpikoibaaGreatDoorCostK
namespace Go.Proofs.YtcoicgkpikoibaaGreatDoor
open Go.RowKit

theorem acost_C (op a : Int) (w : World) (h1 : -2147483648 ≤ a) (h2 : a ≤ 2147483647) (h : CostsLaid w) :
    Calls Tryz.prog 65 #[.int .i64 op, .int .i32 a] w fun e w' => e = .returned (.int .i64 (wCostA op a)) ∧ w = w' :=
  acost_is op a w h1 h2 h.cell
end Go.Proofs.YtcoicgkpikoibaaGreatDoor
