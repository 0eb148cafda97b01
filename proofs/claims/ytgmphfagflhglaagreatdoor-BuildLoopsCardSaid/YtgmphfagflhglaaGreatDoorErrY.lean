/- A row that lists both tables and errors.errorType: what each holds wherever the row's condition is met. -/
import Derived.Test.YtgmphfagflhglaaGreatDoorErrT
import Derived.Test.YtgmphfagflhglaaGreatDoorCorX
namespace Go.Proofs.YtgmphfagflhglaaGreatDoor
open Go.ChangeShapes Go.WideShapes Go.RowKit

theorem core_laid2 {W : World} {l : List (String × DataW Unit)} (h : laidMetH Tryz.prog l W) (m1 : ("astrolabe/ops.shapes", Rows.laid_astrolabe_ops_shapes) ∈ l) (m2 : ("astrolabe/ops.costs", Rows.laid_astrolabe_ops_costs) ∈ l) : TabsAt W.heap.size W := by
  have h1 := shapes_laid2 h m1
  have hf : flat Tryz.prog 5 174 (Rows.laid_astrolabe_ops_costs : DataW Unit) = some costsT.toList := by kernel_rfl
  have h2 : CostsLaid W := laid_block (plain_of h) (List.mem_filter.2 ⟨m2, rfl⟩) 5 (by kernel_rfl) (by kernel_rfl) hf
  refine ⟨h1, h2, h1.lt, ?_⟩
  obtain ⟨t, h2⟩ := h2
  exact (Array.getElem?_eq_some_iff.1 h2).1
end Go.Proofs.YtgmphfagflhglaaGreatDoor
