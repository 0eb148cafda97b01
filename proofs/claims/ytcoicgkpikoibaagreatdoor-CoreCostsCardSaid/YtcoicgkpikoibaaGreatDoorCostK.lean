/- Package ops' table of costs within a law's walk. Condition: the table lies as the program's text has it. -/
import Derived.Test.YtcoicgkpikoibaaGreatDoorLayers
import Derived.Test.YtcoicgkpikoibaaGreatDoorNum
namespace Go.Proofs.YtcoicgkpikoibaaGreatDoor
open Go.RowKit

def costsT : Array Value := ((List.range 44).map fun i => Value.int .i64 (costZ i)).toArray
/-- The table of costs lies in w as the program's text has it. -/
def CostsLaid (w : World) : Prop := ∃ ty, w.heap[1]? = some (.cells costsT ty (0, 0))
theorem CostsLaid.below {w0 w : World} (h : CostsLaid w0) (hb : Below w0.heap.size w0 w) : CostsLaid w := by
  obtain ⟨t2, h2⟩ := h
  exact ⟨t2, by rw [hb.block _ (Array.getElem?_eq_some_iff.1 h2).1]; exact h2⟩
theorem CostsLaid.cell {w : World} (h : CostsLaid w) (i : Nat) (hi : i < 44) : w.cell? ⟨1, i, none⟩ = some (.int .i64 (costZ i)) := by
  obtain ⟨t2, h2⟩ := h
  rw [cell_of_row _ _ _ _ _ _ h2]
  simp [costsT, hi]
theorem cost_C (n : Int) (w : World) (h : CostsLaid w) :
    Calls Tryz.prog 102 #[.int .i64 n] w fun e w' => e = .returned (.int .i64 (wCost n)) ∧ w = w' :=
  cost_is n w h.cell
end Go.Proofs.YtcoicgkpikoibaaGreatDoor
