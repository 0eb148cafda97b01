/-
  DERIVED. GIVEN WITH THE SEED: THE CARDS: each row of YtgmphfagflhglaaGreatDoorRows.lean that lists a variable, with what it lists TIED to the program's text (the seventh form; the later family's looks); each row that meets fmt, with fmt's text TOLD by the authors' own Lean function (tested against real Go, not proved from fmt's source: count such statements apart). THE CARD IS WHAT COUNTS. Prove the row's statement (the work); the ties are given (YtgmphfagflhglaaGreatDoorTie.lean); close each card by the builder's one call (the guide's Derived/Test/ToyasCard.lean, 'card_holds'). Laid BY PROGRAM, IN A SANDBOX (cutbox-door.mjs). By AI agents, Wed Nov 11 2026. No macro, syntax, notation, axiom, sorry.
-/
import Derived.Test.YtgmphfagflhglaaGreatDoorRows
import GoSem.ClaimSeven
namespace Go.Proofs.YtgmphfagflhglaaGreatDoor
namespace Rows

/-- THE TIED CARD OF 'astrolabelaw21.BuildLoops'. -/
def buildLoopsCard : Claim7 := { stood := { row := buildLoopsRow, standIns := [], harness := (true, "df2086338c13f934fdb8d24462f1dc37df04c287ce537e1198fd60619768d595"), looks := true }, kinds := [], alts := [], laidByText := true, laidKinds := [.handle, .data, .data], laidTests := true, laidLooks := .later }
def BuildLoopsCardSaid : Prop := Claim7.holds Tryz.pinned (.plain (OpenSpec.ofChange buildLoopsSpec)) buildLoopsCard

/-- THE SECOND FORM's CARD OF 'astrolabelaw21.BuildLoops'. -/
def buildLoopsUptoCard : Claim7 := { stood := { row := buildLoopsUptoRow, standIns := [], harness := (true, "df2086338c13f934fdb8d24462f1dc37df04c287ce537e1198fd60619768d595"), looks := true }, kinds := [], alts := [], laidByText := true, laidKinds := [.handle, .data, .data], laidTests := true, laidLooks := .later }
def BuildLoopsUptoCardSaid : Prop := Claim7.holds Tryz.pinned (.plain (OpenSpec.upto buildLoopsSpec)) buildLoopsUptoCard
end Rows
end Go.Proofs.YtgmphfagflhglaaGreatDoor
