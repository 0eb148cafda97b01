/- What the document's own plain answers for sums cut to a word (package astrolaberef04) give. Conditions: the numbers are of the parameters' kinds. -/
import Derived.Test.YtpjgbadbbjodgaaProg
import Derived.Test.YtpjgbadbbjodgaaSatD
import Derived.Test.YtpjgbadbbjodgaaWordA
import Derived.Handy
import Derived.Lib.Hide
namespace Go.Proofs.Ytpjgbadbbjodgaa
open Go.RowKit

theorem refSat_is (x : Int) (w : World) :
    Calls Try.prog 8 #[.int .i64 x] w fun e w' => e = .returned (.int .i32 (wCut x)) ∧ w = w' := by
  go_enter Try.func8, Try.ntmps8
  go_wp2
  all_goals
    go_ret
    exact ⟨ret_int (by unfold wCut; omega), rfl⟩
theorem refHits_is (x : Int) (w : World) :
    Calls Try.prog 10 #[.int .i64 x] w fun e w' => e = .returned (.bool (wCut x != x)) ∧ w = w' := by
  rcases (show (x < -2147483648) ∨ (-2147483648 ≤ x ∧ x > 2147483647) ∨ (-2147483648 ≤ x ∧ x ≤ 2147483647) by omega) with h | ⟨h, h'⟩ | ⟨h, h'⟩
  all_goals
    first
      | have E := Lib.hid (show (wCut x != x) = true by unfold wCut; simp; omega)
      | have E := Lib.hid (show (wCut x != x) = false by unfold wCut; simp; omega)
    go_enter Try.func10, Try.ntmps10
    go_wp2
    go_ret
    exact ⟨by rw [E.out]; first | rfl | (simp; omega), rfl⟩
theorem refAdd_is (a b : Int) (w : World) (h1 : -2147483648 ≤ a) (h2 : a ≤ 2147483647) (h3 : -2147483648 ≤ b) (h4 : b ≤ 2147483647) :
    Calls Try.prog 12 #[.int .i32 a, .int .i32 b] w fun e w' => e = .returned (.int .i32 (wCut (a + b))) ∧ w = w' := by
  go_enter Try.func12, Try.ntmps12
  go_wp2_with (go_at_call 8; refine (refSat_is _ _).mono ?_; rintro e w' ⟨rfl, rfl⟩)
  go_ret
  exact ⟨rfl, rfl⟩
theorem refSub_is (a b : Int) (w : World) (h1 : -2147483648 ≤ a) (h2 : a ≤ 2147483647) (h3 : -2147483648 ≤ b) (h4 : b ≤ 2147483647) :
    Calls Try.prog 14 #[.int .i32 a, .int .i32 b] w fun e w' => e = .returned (.int .i32 (wCut (a - b))) ∧ w = w' := by
  go_enter Try.func14, Try.ntmps14
  go_wp2_with (go_at_call 8; refine (refSat_is _ _).mono ?_; rintro e w' ⟨rfl, rfl⟩)
  go_ret
  exact ⟨rfl, rfl⟩
theorem refNeg_is (x : Int) (w : World) (h1 : -2147483648 ≤ x) (h2 : x ≤ 2147483647) :
    Calls Try.prog 16 #[.int .i32 x] w fun e w' => e = .returned (.int .i32 (wCut (-x))) ∧ w = w' := by
  have E := Lib.hid (show (0 : Int) - x = -x by omega)
  go_enter Try.func16, Try.ntmps16
  go_wp2_with (go_at_call 8; refine (refSat_is _ _).mono ?_; rintro e w' ⟨rfl, rfl⟩)
  go_ret
  exact ⟨ret_int (by first | rfl | rw [E.out]), rfl⟩
theorem refAbs_is (x : Int) (w : World) (h1 : -2147483648 ≤ x) (h2 : x ≤ 2147483647) :
    Calls Try.prog 18 #[.int .i32 x] w fun e w' => e = .returned (.int .i32 (wAbs x)) ∧ w = w' := by
  go_enter Try.func18, Try.ntmps18
  go_wp2_with (go_at_call 16; refine (refNeg_is _ _ h1 h2).mono ?_; rintro e w' ⟨rfl, rfl⟩)
  all_goals
    go_ret
    exact ⟨ret_int (by unfold wAbs; split <;> omega), rfl⟩
theorem refClamp_is (x l h : Int) (w : World) :
    Calls Try.prog 20 #[.int .i32 x, .int .i32 l, .int .i32 h] w fun e w' => e = .returned (.int .i32 (wClamp x l h)) ∧ w = w' := by
  rcases (show x > h ∨ (x ≤ h ∧ l > h) ∨ (x ≤ h ∧ l ≤ h) by omega) with c | ⟨c, c'⟩ | ⟨c, c'⟩
  all_goals
    go_enter Try.func20, Try.ntmps20
    go_wp2
    all_goals
      go_ret
      exact ⟨ret_int (by unfold wClamp; omega), rfl⟩
end Go.Proofs.Ytpjgbadbbjodgaa
