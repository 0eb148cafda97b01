/- The walk of the law ShiftTells: it returns true and writes nothing that was there. -/
import Derived.Test.YtgkipidepeblhaaShiftK
import Derived.Test.YtgkipidepeblhaaRefShE
namespace Go.Proofs.Ytgkipidepeblhaa.shiftTells
open Go.RowKit Go.ChangeShapes Go.OpenShut

theorem walk (a0 a1 : Int) (w0 : (Lit.int .i32 a0).wf = true) (w1 : (Lit.int .i32 a1).wf = true) (w : World) :
    Calls Try.prog 3 #[.int .i32 a0, .int .i32 a1] w fun e w' => e = .returned (.bool true) ∧ Below w.heap.size w w' := by
  obtain ⟨b1, b2⟩ := bounds_i32 w0
  obtain ⟨b3, b4⟩ := bounds_i32 w1
  have hb := Below.refl w.heap.size w
  have hB := Nat.le_refl w.heap.size
  go_enter Try.func3, Try.ntmps3
  go_wp2_with (first
    | (go_at_call 12; refine (keep (sar_b _ _ _) hb hB).mono ?_; rintro e w1 ⟨rfl, hb, hB⟩)
    | (go_at_call 18; refine (keep (ones_b _ _) hb hB).mono ?_; rintro e w1 ⟨rfl, hb, hB⟩)
    | (go_at_call 10; refine (shr_is _ _ _).mono ?_; rintro e w' ⟨rfl, rfl⟩)
    | (go_at_call 8; refine (shl_is _ _ _).mono ?_; rintro e w' ⟨rfl, rfl⟩)
    | (go_at_call 14; refine (rol_is _ _ _).mono ?_; rintro e w' ⟨rfl, rfl⟩)
    | (go_at_call 16; refine (clz_is _ _).mono ?_; rintro e w' ⟨rfl, rfl⟩)
    | (go_at_call 20; refine (turn_is _ _).mono ?_; rintro e w' ⟨rfl, rfl⟩)
    | (go_at_call 13; refine (refSar_is _ _ _ b1 b2 b3 b4).mono ?_; rintro e w' ⟨rfl, rfl⟩)
    | (go_at_call 9; refine (keep (refShl_is _ _ _ b1 b2 b3 b4) hb hB).mono ?_; rintro e w1 ⟨rfl, hb, hB⟩)
    | (go_at_call 11; refine (keep (refShr_is _ _ _ b1 b2 b3 b4) hb hB).mono ?_; rintro e w1 ⟨rfl, hb, hB⟩)
    | (go_at_call 15; refine (keep (refRol_is _ _ _ b1 b2 b3 b4) hb hB).mono ?_; rintro e w1 ⟨rfl, hb, hB⟩)
    | (go_at_call 17; refine (keep (refClz_is _ _ b1 b2) hb hB).mono ?_; rintro e w1 ⟨rfl, hb, hB⟩)
    | (go_at_call 19; refine (keep (refOnes_is _ _ b1 b2) hb hB).mono ?_; rintro e w1 ⟨rfl, hb, hB⟩)
    | (go_at_call 21; refine (keep (refTurn_is _ _ b1 b2) hb hB).mono ?_; rintro e w1 ⟨rfl, hb, hB⟩)
    | (go_at_call 22; refine (keep (shiftAwake_is _) hb hB).mono ?_; rintro e w1 ⟨rfl, hb, hB⟩))
  go_ret
  exact ⟨rfl, hb⟩
end Go.Proofs.Ytgkipidepeblhaa.shiftTells
