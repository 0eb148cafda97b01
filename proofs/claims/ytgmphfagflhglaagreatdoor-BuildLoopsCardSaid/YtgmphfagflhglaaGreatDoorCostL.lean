/- The listed table of package ops' costs lies as the program's text has it, wherever a row's condition is met. -/
import Derived.Test.YtgmphfagflhglaaGreatDoorRows
import Derived.Test.YtgmphfagflhglaaGreatDoorAluK
import Derived.Test.YtgmphfagflhglaaGreatDoorFlat
namespace Go.Proofs.YtgmphfagflhglaaGreatDoor

theorem costs_laid {W : World} {l : List (String × DataW Unit)} (h : laidMetH Tryz.prog l W) (hp : (l.all fun x => x.2.handleName?.isNone) = true)
    (m2 : ("astrolabe/ops.costs", Rows.laid_astrolabe_ops_costs) ∈ l) : CostsLaid W := by
  rw [MakeChecks.laidMetH_plain _ _ _ hp] at h
  have hf : flat Tryz.prog 5 174 (Rows.laid_astrolabe_ops_costs : DataW Unit) = some costsT.toList := by kernel_rfl
  exact laid_block h m2 5 (by kernel_rfl) (by kernel_rfl) hf
end Go.Proofs.YtgmphfagflhglaaGreatDoor
