/- What package sat's functions answer. Conditions: the numbers are of the parameters' kinds. -/
import Derived.Test.YthiplpkapbdakaaProg
import Derived.Test.YthiplpkapbdakaaSatD
import Derived.Test.YthiplpkapbdakaaWordA
import Derived.Handy
import Derived.Lib.Hide
namespace Go.Proofs.Ythiplpkapbdakaa
open Go.RowKit

theorem clamp64_is (x l h : Int) (w : World) :
    Calls Try.prog 31 #[.int .i64 x, .int .i64 l, .int .i64 h] w fun e w' => e = .returned (.int .i64 (wClamp x l h)) ∧ w = w' := by
  go_enter Try.func31, Try.ntmps31
  go_wp2
  all_goals
    go_ret
    exact ⟨ret_int (by unfold wClamp; omega), rfl⟩
theorem sat_is (x : Int) (w : World) :
    Calls Try.prog 28 #[.int .i64 x] w fun e w' => e = .returned (.int .i32 (wCut x)) ∧ w = w' := by
  have E := Lib.hid (wCut_clamp x)
  obtain ⟨c1, c2⟩ := wCut_bd x
  rw [wCut_clamp] at c1 c2
  go_enter Try.func28, Try.ntmps28
  go_wp2_with (go_at_call 31; refine (clamp64_is _ _ _ _).mono ?_; rintro e w' ⟨rfl, rfl⟩)
  go_ret
  exact ⟨ret_int E.out.symm, rfl⟩
/-- The sum of none, the first, or both of two. -/
def part (x y : Int) (k : Nat) : Int := if k = 0 then 0 else if k = 1 then x else x + y
/-- The one or the other of two. -/
def term (x y : Int) (k : Nat) : Int := if k = 0 then x else y
theorem part_step (x y : Int) {k : Nat} (h : k < 2) : part x y k + term x y k = part x y (k + 1) := by
  unfold part term; split <;> (try split) <;> (try split) <;> (try split) <;> omega
end Go.Proofs.Ythiplpkapbdakaa
