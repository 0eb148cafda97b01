/- The listed tables of package ops lie as the program's text has them, wherever a row's condition is met. -/
import Derived.Test.YtnnekaechojcgaaDoorRows
import Derived.Test.YtnnekaechojcgaaDoorOpsK
import Derived.Test.YtnnekaechojcgaaDoorFlat
namespace Go.Proofs.YtnnekaechojcgaaDoor

theorem ops_laid {W : World} {l : List (String × DataW Unit)} (h : laidMetH Tryd.prog l W) (hp : (l.all fun x => x.2.handleName?.isNone) = true)
    (m1 : ("astrolabe/ops.shapes", Rows.laid_astrolabe_ops_shapes) ∈ l) (m2 : ("astrolabe/ops.costs", Rows.laid_astrolabe_ops_costs) ∈ l) : OpsLaid W := by
  rw [MakeChecks.laidMetH_plain _ _ _ hp] at h
  refine ⟨?_, ?_⟩
  · have hf : flat Tryd.prog 5 33 (Rows.laid_astrolabe_ops_shapes : DataW Unit) = some shapesC.toList := by kernel_rfl
    exact laid_block h m1 5 (by kernel_rfl) (by kernel_rfl) hf
  · have hf : flat Tryd.prog 5 34 (Rows.laid_astrolabe_ops_costs : DataW Unit) = some costsC.toList := by kernel_rfl
    exact laid_block h m2 5 (by kernel_rfl) (by kernel_rfl) hf
end Go.Proofs.YtnnekaechojcgaaDoor
