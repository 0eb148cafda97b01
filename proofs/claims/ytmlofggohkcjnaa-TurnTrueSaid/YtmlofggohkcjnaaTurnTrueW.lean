/- The walk of the law TurnTrue: it returns true and writes nothing that was there. -/
import Derived.Test.YtmlofggohkcjnaaTurnK
namespace Go.Proofs.Ytmlofggohkcjnaa.turnTrue
open Go.RowKit Go.ChangeShapes Go.OpenShut

set_option maxHeartbeats 1000000 in
theorem walk (y x : Int) (w0 : (Lit.int .i32 y).wf = true) (w1 : (Lit.int .i32 x).wf = true) (w : World) :
    Calls Try.prog 3 #[.int .i32 y, .int .i32 x] w fun e w' => e = .returned (.bool true) ∧ Below w.heap.size w w' := by
  obtain ⟨y1, y2⟩ := bounds_i32 w0
  obtain ⟨x1, x2⟩ := bounds_i32 w1
  have hb := Below.refl w.heap.size w
  have hB := Nat.le_refl w.heap.size
  rcases (show y < 0 ∨ (¬ y < 0 ∧ x < 1) ∨ (¬ y < 0 ∧ ¬ x < 1 ∧ x < y) ∨ (¬ y < 0 ∧ ¬ x < 1 ∧ ¬ x < y) by omega) with h | ⟨h, h'⟩ | ⟨h, h', h''⟩ | ⟨h, h', h''⟩
  rotate_left 3
  · obtain ⟨a1, a2, n1, n2⟩ := ang_true (y := y) (x := x) (by omega) (by omega) (by omega) x2
    obtain ⟨a, ha⟩ : ∃ a, wAng y x = a := ⟨_, rfl⟩
    rw [ha] at a1 a2 n1 n2
    have HA := Lib.hid ha
    have N1 := Lib.hid n1
    have N2 := Lib.hid n2
    clear ha n1 n2
    go_enter Try.func3, Try.ntmps3
    go_wp2_with (first
      | (go_at_call 9; refine (keep (angle_v y x a _ y1 y2 x1 x2 HA.out) hb hB).mono ?_; rintro e w1 ⟨rfl, hb, hB⟩)
      | (go_at_call 8; refine (refNear_true _ _ _ _ (by omega) (by omega) x2 a1 a2 N1.out N2.out).mono ?_; rintro e w1 ⟨rfl, rfl⟩)
      | (go_at_call 7; refine (keep (turnAwake_is _) hb hB).mono ?_; rintro e w1 ⟨rfl, hb, hB⟩))
    go_ret
    exact ⟨rfl, hb⟩
  all_goals
    go_enter Try.func3, Try.ntmps3
    go_wp2_with (go_at_call 7; refine (keep (turnAwake_is _) hb hB).mono ?_; rintro e w1 ⟨rfl, hb, hB⟩)
    go_ret
    exact ⟨rfl, hb⟩
end Go.Proofs.Ytmlofggohkcjnaa.turnTrue
