/- The tables that layer 16's laws reach, out of the row's condition. -/
import Derived.Test.YtgmphfagflhglaaGreatDoorCorA
import Derived.Test.YtgmphfagflhglaaGreatDoorCodG
import Derived.Test.YtgmphfagflhglaaGreatDoorCostL
namespace Go.Proofs.YtgmphfagflhglaaGreatDoor

theorem core_laid {W : World} {l : List (String × DataW Unit)} (h : laidMetH Tryz.prog l W) (hp : (l.all fun x => x.2.handleName?.isNone) = true)
    (m1 : ("astrolabe/ops.shapes", Rows.laid_astrolabe_ops_shapes) ∈ l) (m2 : ("astrolabe/ops.costs", Rows.laid_astrolabe_ops_costs) ∈ l) : TabsAt W.heap.size W := by
  have h1 := shapes_laid h hp m1
  have h2 := costs_laid h hp m2
  refine ⟨h1, h2, h1.lt, ?_⟩
  obtain ⟨t, h2⟩ := h2
  exact (Array.getElem?_eq_some_iff.1 h2).1
end Go.Proofs.YtgmphfagflhglaaGreatDoor
