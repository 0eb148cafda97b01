/- What the document's own plain answers for angles (package astrolaberef09) give: vectors and waves. Conditions: the numbers are of the kind int32. -/
import Derived.Test.YtmlofggohkcjnaaTurnR
import Derived.Test.YtmlofggohkcjnaaRefs
import Derived.Test.YtmlofggohkcjnaaCircle
namespace Go.Proofs.Ytmlofggohkcjnaa
open Go.RowKit


end Go.Proofs.Ytmlofggohkcjnaa
