/- What the document's own memory (package astrolaberef15) answers. Conditions: the slices' cells are words; what is copied is no longer than the run-time allows. -/
import Derived.Test.YtgmphfagflhglaaGreatDoorProg
import Derived.Test.YtgmphfagflhglaaGreatDoorMem
import Derived.Handy
import Derived.Deep.QuietTactic
import Derived.BigQuiet
import Derived.WalkSmall
import Derived.WalkSpells
import Derived.RegionTactic
import Derived.ChangeAlike
import Derived.PlainAid
import Derived.Outline
import Derived.Test.YtgmphfagflhglaaGreatDoorRng
namespace Go.Proofs.YtgmphfagflhglaaGreatDoor
open Go.RowKit

theorem infoI32 : (Tryz.prog.info? 21).map (fun i => (i.zero, i.size, i.bytes)) = some (some (.int .i32 0), 1, 4) := by kernel_rfl

end Go.Proofs.YtgmphfagflhglaaGreatDoor
