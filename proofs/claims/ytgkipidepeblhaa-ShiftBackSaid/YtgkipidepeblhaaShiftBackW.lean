/- The walk of the law ShiftBack: it returns true and writes nothing that was there. -/
import Derived.Test.YtgkipidepeblhaaShiftK
import Derived.Test.YtgkipidepeblhaaShiftL
namespace Go.Proofs.Ytgkipidepeblhaa.shiftBack
open Go.RowKit Go.ChangeShapes Go.OpenShut

theorem walk (a0 a1 a2 : Int) (w0 : (Lit.int .i32 a0).wf = true) (w1 : (Lit.int .i32 a1).wf = true) (w2 : (Lit.int .i32 a2).wf = true) (w : World) :
    Calls Try.prog 4 #[.int .i32 a0, .int .i32 a1, .int .i32 a2] w fun e w' => e = .returned (.bool true) ∧ Below w.heap.size w w' := by
  obtain ⟨b1, b2⟩ := bounds_i32 w0
  obtain ⟨b3, b4⟩ := bounds_i32 w1
  obtain ⟨b5, b6⟩ := bounds_i32 w2
  have hb := Below.refl w.heap.size w
  have hB := Nat.le_refl w.heap.size
  have k0 := sn_lt a1
  have m0 := sn_lt a2
  have ek := and_31 a1
  have em := and_31 a2
  have f1 := back_up a0 a1
  have f2 := back_down a0 a1
  have f3 := rol_rol a0 a1 a2
  have f4 := rol_back a0 a1 b1 b2
  have f5 := rol_parts a0 a1
  go_enter Try.func4, Try.ntmps4
  go_wp2_with (first
    | (go_at_call 12; refine (keep (sar_b _ _ _) hb hB).mono ?_; rintro e w1 ⟨rfl, hb, hB⟩)
    | (go_at_call 18; refine (keep (ones_b _ _) hb hB).mono ?_; rintro e w1 ⟨rfl, hb, hB⟩)
    | (go_at_call 10; refine (shr_is _ _ _).mono ?_; rintro e w' ⟨rfl, rfl⟩)
    | (go_at_call 8; refine (shl_is _ _ _).mono ?_; rintro e w' ⟨rfl, rfl⟩)
    | (go_at_call 14; refine (rol_is _ _ _).mono ?_; rintro e w' ⟨rfl, rfl⟩)
    | (go_at_call 20; refine (turn_is _ _).mono ?_; rintro e w' ⟨rfl, rfl⟩)
    | (go_at_call 22; refine (keep (shiftAwake_is _) hb hB).mono ?_; rintro e w1 ⟨rfl, hb, hB⟩))
  go_ret
  exact ⟨rfl, hb⟩
end Go.Proofs.Ytgkipidepeblhaa.shiftBack
