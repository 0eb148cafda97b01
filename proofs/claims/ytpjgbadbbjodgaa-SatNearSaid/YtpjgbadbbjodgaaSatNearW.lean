/- The walk of the law SatNear: it returns true and writes nothing that was there. -/
import Derived.Test.YtpjgbadbbjodgaaSatK
import Derived.Test.YtpjgbadbbjodgaaSatL
namespace Go.Proofs.Ytpjgbadbbjodgaa.satNear
open Go.RowKit Go.ChangeShapes Go.OpenShut

theorem far_is (x y : Int) (w : World) (x1 : -9223372036854775808 ≤ x) (x2 : x ≤ 9223372036854775807) (y1 : -2147483648 ≤ y) (y2 : y ≤ 2147483647) :
    Calls Try.prog 22 #[.int .i64 x, .int .i32 y] w fun e w' => e = .returned (.int .u64 (wFar x y)) ∧ w = w' := by
  go_enter Try.func22, Try.ntmps22
  go_wp2
  all_goals
    go_ret
    exact ⟨ret_int (by unfold wFar; simp [IntKind.wrap, IntKind.bits, IntKind.signed]; omega), rfl⟩

set_option maxHeartbeats 1000000 in
theorem walk (a0 : Int) (a1 : Int) (w0 : (Lit.int .i64 a0).wf = true) (w1 : (Lit.int .i32 a1).wf = true) (w : World) :
    Calls Try.prog 4 #[.int .i64 a0, .int .i32 a1] w fun e w' => e = .returned (.bool true) ∧ Below w.heap.size w w' := by
  obtain ⟨b1, b2⟩ := bounds_i64 w0
  obtain ⟨b3, b4⟩ := bounds_i32 w1
  have hb := Below.refl w.heap.size w
  have hB := Nat.le_refl w.heap.size
  have c := wCut_bd a0
  have f1 := near a0 b3 b4
  have f2 := near_beq a0 b3 b4
  have f3 := wCut_in b3 b4
  go_enter Try.func4, Try.ntmps4
  go_wp2_with (first
      | (go_at_call 7; refine (sat_is _ _).mono ?_; rintro e w' ⟨rfl, rfl⟩)
      | (go_at_call 9; refine (hits_is _ _).mono ?_; rintro e w' ⟨rfl, rfl⟩)
      | (go_at_call 22; refine (far_is _ _ _ (by omega) (by omega) (by omega) (by omega)).mono ?_; rintro e w' ⟨rfl, rfl⟩)
      | (go_at_call 21; refine (keep (satAwake_is _) hb hB).mono ?_; rintro e w1 ⟨rfl, hb, hB⟩))
  go_ret
  exact ⟨rfl, hb⟩
end Go.Proofs.Ytpjgbadbbjodgaa.satNear
