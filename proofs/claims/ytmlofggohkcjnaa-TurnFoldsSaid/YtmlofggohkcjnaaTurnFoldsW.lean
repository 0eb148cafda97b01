/- The walk of the law TurnFolds: it returns true and writes nothing that was there. -/
import Derived.Test.YtmlofggohkcjnaaTurnK
namespace Go.Proofs.Ytmlofggohkcjnaa.turnFolds
open Go.RowKit Go.ChangeShapes Go.OpenShut

set_option maxHeartbeats 2000000 in
theorem walk (y x : Int) (w0 : (Lit.int .i32 y).wf = true) (w1 : (Lit.int .i32 x).wf = true) (w : World) :
    Calls Try.prog 4 #[.int .i32 y, .int .i32 x] w fun e w' => e = .returned (.bool true) ∧ Below w.heap.size w w' := by
  obtain ⟨y1, y2⟩ := bounds_i32 w0
  obtain ⟨x1, x2⟩ := bounds_i32 w1
  have hb := Below.refl w.heap.size w
  have hB := Nat.le_refl w.heap.size
  rcases (show y < 1 ∨ (¬ y < 1 ∧ x < 1) ∨ (¬ y < 1 ∧ ¬ x < 1) by omega) with h | ⟨h, h'⟩ | ⟨h, h'⟩
  rotate_left 2
  · obtain ⟨f1, f2, f3, f4, f5, f6⟩ := ang_folds (y := y) (x := x) (by omega) y2 (by omega) x2
    obtain ⟨a, ha⟩ : ∃ a, wAng y x = a := ⟨_, rfl⟩
    rw [ha] at f1 f2 f3 f4 f5 f6
    have HA := Lib.hid ha
    have F1 := Lib.hid f1
    have F2 := Lib.hid f2
    have F3 := Lib.hid f3
    clear ha f1 f2 f3
    have n1 : (-a != -a) = false := by simp
    by_cases hxy : x = y
    · have e1 : (x == y) = true := by simpa using hxy
      clear f4 hxy
      go_enter Try.func4, Try.ntmps4
      go_wp2_with (first
        | (go_at_call 9; with_reducible refine (keep (angle_v y x a _ y1 y2 x1 x2 HA.out) hb hB).mono ?_; rintro e w1 ⟨rfl, hb, hB⟩)
        | (go_at_call 9; with_reducible refine (keep (angle_v (-y) x (-a) _ (by omega) (by omega) x1 x2 F1.out) hb hB).mono ?_; rintro e w1 ⟨rfl, hb, hB⟩)
        | (go_at_call 9; with_reducible refine (keep (angle_v y (-x) (1686629713 - a) _ y1 y2 (by omega) (by omega) F2.out) hb hB).mono ?_; rintro e w1 ⟨rfl, hb, hB⟩)
        | (go_at_call 9; with_reducible refine (keep (angle_v (-y) (-x) (a - 1686629713) _ (by omega) (by omega) (by omega) (by omega) F3.out) hb hB).mono ?_; rintro e w1 ⟨rfl, hb, hB⟩)
        | (go_at_call 7; refine (keep (turnAwake_is _) hb hB).mono ?_; rintro e w1 ⟨rfl, hb, hB⟩))
      go_ret
      exact ⟨rfl, hb⟩
    · have e1 : (x == y) = false := by simpa using hxy
      have F4 := Lib.hid (f4 hxy)
      clear f4 hxy
      go_enter Try.func4, Try.ntmps4
      go_wp2_with (first
        | (go_at_call 9; with_reducible refine (keep (angle_v y x a _ y1 y2 x1 x2 HA.out) hb hB).mono ?_; rintro e w1 ⟨rfl, hb, hB⟩)
        | (go_at_call 9; with_reducible refine (keep (angle_v (-y) x (-a) _ (by omega) (by omega) x1 x2 F1.out) hb hB).mono ?_; rintro e w1 ⟨rfl, hb, hB⟩)
        | (go_at_call 9; with_reducible refine (keep (angle_v y (-x) (1686629713 - a) _ y1 y2 (by omega) (by omega) F2.out) hb hB).mono ?_; rintro e w1 ⟨rfl, hb, hB⟩)
        | (go_at_call 9; with_reducible refine (keep (angle_v (-y) (-x) (a - 1686629713) _ (by omega) (by omega) (by omega) (by omega) F3.out) hb hB).mono ?_; rintro e w1 ⟨rfl, hb, hB⟩)
        | (go_at_call 9; with_reducible refine (keep (angle_v x y (843314857 - a) _ x1 x2 y1 y2 F4.out) hb hB).mono ?_; rintro e w1 ⟨rfl, hb, hB⟩)
        | (go_at_call 7; refine (keep (turnAwake_is _) hb hB).mono ?_; rintro e w1 ⟨rfl, hb, hB⟩))
      go_ret
      exact ⟨rfl, hb⟩
  all_goals
    go_enter Try.func4, Try.ntmps4
    go_wp2_with (go_at_call 7; refine (keep (turnAwake_is _) hb hB).mono ?_; rintro e w1 ⟨rfl, hb, hB⟩)
    go_ret
    exact ⟨rfl, hb⟩
end Go.Proofs.Ytmlofggohkcjnaa.turnFolds
