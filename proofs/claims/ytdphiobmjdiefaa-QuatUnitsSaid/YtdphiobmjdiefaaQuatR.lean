/- What the document's own plain answers for quaternions (package astrolaberef10) give. Conditions: the numbers are of the kind int32. -/
import Derived.Test.YtdphiobmjdiefaaQuatD
import Derived.Test.YtdphiobmjdiefaaRootR
import Derived.Deep.RegionHeld3
namespace Go.Proofs.Ytdphiobmjdiefaa
open Go.RowKit

/-- Four words. -/
structure Wd4 (p0 p1 p2 p3 : Int) : Prop where
  h0 : -2147483648 ≤ p0 ∧ p0 ≤ 2147483647
  h1 : -2147483648 ≤ p1 ∧ p1 ≤ 2147483647
  h2 : -2147483648 ≤ p2 ∧ p2 ≤ 2147483647
  h3 : -2147483648 ≤ p3 ∧ p3 ≤ 2147483647
theorem word_0 : (-2147483648 : Int) ≤ 0 ∧ (0 : Int) ≤ 2147483647 := by decide
end Go.Proofs.Ytdphiobmjdiefaa
