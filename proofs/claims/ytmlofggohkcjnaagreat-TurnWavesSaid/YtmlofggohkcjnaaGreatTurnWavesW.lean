/- The walk of the law TurnWaves: it returns true and writes nothing that was there. -/
import Derived.Test.YtmlofggohkcjnaaGreatTurnK
namespace Go.Proofs.YtmlofggohkcjnaaGreat.turnWaves
open Go.RowKit Go.ChangeShapes Go.OpenShut

theorem walk (a : Int) (w0 : (Lit.int .i32 a).wf = true) (w : World) :
    Calls Tryz.prog 4 #[.int .i32 a] w fun e w' => e = .returned (.bool true) ∧ Below w.heap.size w w' := by
  obtain ⟨a1, a2⟩ := bounds_i32 w0
  have hb := Below.refl w.heap.size w
  have hB := Nat.le_refl w.heap.size
  go_enter Tryz.func4, Tryz.ntmps4
  go_wp2_with (first
    | (go_at_call 12; refine (keep (wave_is _ _ a1 a2) hb hB).mono ?_; rintro e w1 ⟨rfl, hb, hB⟩)
    | (go_at_call 13; refine (keep (refWave_is _ _ a1 a2) hb hB).mono ?_; rintro e w1 ⟨rfl, hb, hB⟩)
    | (go_at_call 11; refine (keep (turnAwake_is _) hb hB).mono ?_; rintro e w1 ⟨rfl, hb, hB⟩))
  go_ret
  exact ⟨rfl, hb⟩
end Go.Proofs.YtmlofggohkcjnaaGreat.turnWaves
