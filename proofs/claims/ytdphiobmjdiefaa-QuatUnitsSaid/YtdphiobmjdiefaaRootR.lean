/- What the document's own plain answers for roots (package astrolaberef08) give. Conditions: the numbers are of the kind int32. -/
import Derived.Test.YtdphiobmjdiefaaRootN
import Derived.Test.YtdphiobmjdiefaaRefs
import Derived.Test.YtdphiobmjdiefaaFixR
import Derived.Test.YtdphiobmjdiefaaNum
namespace Go.Proofs.Ytdphiobmjdiefaa
open Go.RowKit

def rsI (u : Int) : Nat → Int
  | 0 => wRs0 u
  | k + 1 => wRsZ u (rsI u k)
theorem rsI_4 (u : Int) : rsI u 4 = wRs u := rfl
theorem rsI_bd (u : Int) (k : Nat) : -2147483648 ≤ rsI u k ∧ rsI u k ≤ 2147483647 := by
  cases k
  · exact wRs0_bd u
  · exact wRsZ_bd u _
def rcI (v : Int) : Nat → Int
  | 0 => wRc0 v
  | k + 1 => wRcZ v (rcI v k)
theorem rcI_4 (v : Int) : rcI v 4 = wRc v := rfl
theorem rcI_bd (v : Int) (k : Nat) : -2147483648 ≤ rcI v k ∧ rcI v k ≤ 2147483647 := by
  cases k
  · exact wRc0_bd v
  · exact wRcZ_bd v _

end Go.Proofs.Ytdphiobmjdiefaa
