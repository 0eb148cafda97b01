/- The walk of the law ShiftCounts: it returns true and writes nothing that was there. -/
import Derived.Test.YtgkipidepeblhaaShiftK
import Derived.Test.YtgkipidepeblhaaShiftL
namespace Go.Proofs.Ytgkipidepeblhaa.shiftCounts
open Go.RowKit Go.ChangeShapes Go.OpenShut

theorem walk (a0 a1 : Int) (w0 : (Lit.int .i32 a0).wf = true) (w1 : (Lit.int .i32 a1).wf = true) (w : World) :
    Calls Try.prog 6 #[.int .i32 a0, .int .i32 a1] w fun e w' => e = .returned (.bool true) ∧ Below w.heap.size w w' := by
  obtain ⟨b1, b2⟩ := bounds_i32 w0
  obtain ⟨b3, b4⟩ := bounds_i32 w1
  have hb := Below.refl w.heap.size w
  have hB := Nat.le_refl w.heap.size
  have s : IntKind.i32.signed = true := rfl
  have f1 := ones_not a0
  have f2 := ones_turn a0
  have f3 := turn_turn a0 b1 b2
  have f4 := ones_both a0 a1
  have g1 := wOnes_bd a0
  have g2 := wOnes_bd a1
  have g3 := wOnes_bd (bits .xor .i32 a0 a1)
  have g4 := wOnes_bd (bits .and .i32 a0 a1)
  have g5 := wOnes_bd (bits .xor .i32 (-1) a0)
  go_enter Try.func6, Try.ntmps6
  go_wp2_with (first
    | (go_at_call 12; refine (keep (sar_b _ _ _) hb hB).mono ?_; rintro e w1 ⟨rfl, hb, hB⟩)
    | (go_at_call 18; refine (keep (ones_b _ _) hb hB).mono ?_; rintro e w1 ⟨rfl, hb, hB⟩)
    | (go_at_call 10; refine (shr_is _ _ _).mono ?_; rintro e w' ⟨rfl, rfl⟩)
    | (go_at_call 8; refine (shl_is _ _ _).mono ?_; rintro e w' ⟨rfl, rfl⟩)
    | (go_at_call 14; refine (rol_is _ _ _).mono ?_; rintro e w' ⟨rfl, rfl⟩)
    | (go_at_call 20; refine (turn_is _ _).mono ?_; rintro e w' ⟨rfl, rfl⟩)
    | (go_at_call 22; refine (keep (shiftAwake_is _) hb hB).mono ?_; rintro e w1 ⟨rfl, hb, hB⟩))
  go_ret
  exact ⟨rfl, hb⟩
end Go.Proofs.Ytgkipidepeblhaa.shiftCounts
