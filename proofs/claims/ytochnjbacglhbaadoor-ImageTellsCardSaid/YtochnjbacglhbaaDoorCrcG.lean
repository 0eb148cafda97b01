/- The listed table of package crc lies as the program's text has it, wherever a row's condition is met. -/
import Derived.Test.YtochnjbacglhbaaDoorRows
import Derived.Test.YtochnjbacglhbaaDoorCrcA
import Derived.Test.YtochnjbacglhbaaDoorFlat
namespace Go.Proofs.YtochnjbacglhbaaDoor

theorem fours_laid {W : World} {l : List (String × DataW Unit)} (h : laidMetH Tryd.prog l W) (hp : (l.all fun x => x.2.handleName?.isNone) = true)
    (m2 : ("astrolabe/crc.fours", Rows.laid_astrolabe_crc_fours) ∈ l) : FoursLaid W := by
  rw [MakeChecks.laidMetH_plain _ _ _ hp] at h
  have hf : flat Tryd.prog 5 86 (Rows.laid_astrolabe_crc_fours : DataW Unit) = some foursT.toList := by kernel_rfl
  exact laid_block h m2 5 (by kernel_rfl) (by kernel_rfl) hf
end Go.Proofs.YtochnjbacglhbaaDoor
