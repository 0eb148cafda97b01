/- What the document's own plain answers for sums cut to a word (package astrolaberef04) give. Conditions: the numbers are of the parameters' kinds. -/
import Derived.Test.YtmafojcknpfmfaaGreatDoorProg
import Derived.Test.YtmafojcknpfmfaaGreatDoorSatD
import Derived.Test.YtmafojcknpfmfaaGreatDoorWordA
import Derived.Handy
import Derived.Lib.Hide
namespace Go.Proofs.YtmafojcknpfmfaaGreatDoor
open Go.RowKit

theorem refSat_is (x : Int) (w : World) :
    Calls Tryz.prog 98 #[.int .i64 x] w fun e w' => e = .returned (.int .i32 (wCut x)) ∧ w = w' := by
  go_enter Tryz.func98, Tryz.ntmps98
  go_wp2
  all_goals
    go_ret
    exact ⟨ret_int (by unfold wCut; omega), rfl⟩
theorem refAdd_is (a b : Int) (w : World) (h1 : -2147483648 ≤ a) (h2 : a ≤ 2147483647) (h3 : -2147483648 ≤ b) (h4 : b ≤ 2147483647) :
    Calls Tryz.prog 58 #[.int .i32 a, .int .i32 b] w fun e w' => e = .returned (.int .i32 (wCut (a + b))) ∧ w = w' := by
  go_enter Tryz.func58, Tryz.ntmps58
  go_wp2_with (go_at_call 98; refine (refSat_is _ _).mono ?_; rintro e w' ⟨rfl, rfl⟩)
  go_ret
  exact ⟨rfl, rfl⟩
theorem refSub_is (a b : Int) (w : World) (h1 : -2147483648 ≤ a) (h2 : a ≤ 2147483647) (h3 : -2147483648 ≤ b) (h4 : b ≤ 2147483647) :
    Calls Tryz.prog 59 #[.int .i32 a, .int .i32 b] w fun e w' => e = .returned (.int .i32 (wCut (a - b))) ∧ w = w' := by
  go_enter Tryz.func59, Tryz.ntmps59
  go_wp2_with (go_at_call 98; refine (refSat_is _ _).mono ?_; rintro e w' ⟨rfl, rfl⟩)
  go_ret
  exact ⟨rfl, rfl⟩
theorem refNeg_is (x : Int) (w : World) (h1 : -2147483648 ≤ x) (h2 : x ≤ 2147483647) :
    Calls Tryz.prog 51 #[.int .i32 x] w fun e w' => e = .returned (.int .i32 (wCut (-x))) ∧ w = w' := by
  have E := Lib.hid (show (0 : Int) - x = -x by omega)
  go_enter Tryz.func51, Tryz.ntmps51
  go_wp2_with (go_at_call 98; refine (refSat_is _ _).mono ?_; rintro e w' ⟨rfl, rfl⟩)
  go_ret
  exact ⟨ret_int (by first | rfl | rw [E.out]), rfl⟩
theorem refAbs_is (x : Int) (w : World) (h1 : -2147483648 ≤ x) (h2 : x ≤ 2147483647) :
    Calls Tryz.prog 52 #[.int .i32 x] w fun e w' => e = .returned (.int .i32 (wAbs x)) ∧ w = w' := by
  go_enter Tryz.func52, Tryz.ntmps52
  go_wp2_with (go_at_call 51; refine (refNeg_is _ _ h1 h2).mono ?_; rintro e w' ⟨rfl, rfl⟩)
  all_goals
    go_ret
    exact ⟨ret_int (by unfold wAbs; split <;> omega), rfl⟩
end Go.Proofs.YtmafojcknpfmfaaGreatDoor
