/- The listed table of package ops' shapes lies as the program's text has it, wherever a row's condition is met. -/
import Derived.Test.YtekhgidbnpfmnaaGreatDoorRows
import Derived.Test.YtekhgidbnpfmnaaGreatDoorCodA
import Derived.Test.YtekhgidbnpfmnaaGreatDoorFlat
namespace Go.Proofs.YtekhgidbnpfmnaaGreatDoor

theorem shapes_laid {W : World} {l : List (String × DataW Unit)} (h : laidMetH Tryz.prog l W) (hp : (l.all fun x => x.2.handleName?.isNone) = true)
    (m1 : ("astrolabe/ops.shapes", Rows.laid_astrolabe_ops_shapes) ∈ l) : ShapesLaid W := by
  rw [MakeChecks.laidMetH_plain _ _ _ hp] at h
  have hf : flat Tryz.prog 5 173 (Rows.laid_astrolabe_ops_shapes : DataW Unit) = some shapesC.toList := by kernel_rfl
  exact laid_block h m1 5 (by kernel_rfl) (by kernel_rfl) hf
end Go.Proofs.YtekhgidbnpfmnaaGreatDoor
