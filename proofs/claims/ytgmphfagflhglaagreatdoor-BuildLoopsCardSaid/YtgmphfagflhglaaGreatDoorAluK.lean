/- Package alu in a caller's words; the table of costs. -/
import Derived.Test.YtgmphfagflhglaaGreatDoorLayers
import Derived.Test.YtgmphfagflhglaaGreatDoorNum
import Derived.Test.YtgmphfagflhglaaGreatDoorAluA
namespace Go.Proofs.YtgmphfagflhglaaGreatDoor
open Go.RowKit

def costsT : Array Value := ((List.range 44).map fun i => Value.int .i64 (costZ i)).toArray
/-- The table of costs lies in w as the program's text has it. -/
def CostsLaid (w : World) : Prop := ∃ ty, w.heap[2]? = some (.cells costsT ty (0, 0))
theorem CostsLaid.below {w0 w : World} (h : CostsLaid w0) (hb : Below w0.heap.size w0 w) : CostsLaid w := by
  obtain ⟨t2, h2⟩ := h
  exact ⟨t2, by rw [hb.block _ (Array.getElem?_eq_some_iff.1 h2).1]; exact h2⟩
theorem CostsLaid.cell {w : World} (h : CostsLaid w) (i : Nat) (hi : i < 44) : w.cell? ⟨2, i, none⟩ = some (.int .i64 (costZ i)) := by
  obtain ⟨t2, h2⟩ := h
  rw [cell_of_row _ _ _ _ _ _ h2]
  simp [costsT, hi]
theorem cost_C (n : Int) (w : World) (h : CostsLaid w) :
    Calls Tryz.prog 78 #[.int .i64 n] w fun e w' => e = .returned (.int .i64 (wCost n)) ∧ w = w' :=
  cost_is n w h.cell

theorem acost_C (op a : Int) (w : World) (h1 : -2147483648 ≤ a) (h2 : a ≤ 2147483647) (h : CostsLaid w) :
    Calls Tryz.prog 73 #[.int .i64 op, .int .i32 a] w fun e w' => e = .returned (.int .i64 (wCostA op a)) ∧ w = w' :=
  acost_is op a w h1 h2 h.cell
end Go.Proofs.YtgmphfagflhglaaGreatDoor
