/-
  DERIVED. GIVEN WITH THE SEED: THE CARDS: each row of YtgmphfagflhglaaDoorRows.lean that lists a variable, with what it lists TIED to the program's text (the seventh form; the later family's looks); each row that meets fmt, with fmt's text TOLD by the authors' own Lean function (tested against real Go, not proved from fmt's source: count such statements apart). THE CARD IS WHAT COUNTS. Prove the row's statement (the work); the ties are given (YtgmphfagflhglaaDoorTie.lean); close each card by the builder's one call (the guide's Derived/Test/ToyasCard.lean, 'card_holds'). Laid BY PROGRAM, IN A SANDBOX (cutbox-door.mjs). By AI agents, Wed Nov 11 2026. No macro, syntax, notation, axiom, sorry.
-/
import Derived.Test.YtgmphfagflhglaaDoorRows
import GoSem.ClaimSeven
namespace Go.Proofs.YtgmphfagflhglaaDoor
namespace Rows

/-- THE TIED CARD OF 'astrolabelaw21.BuildPlays'. -/
def buildPlaysCard : Claim7 := { stood := { row := buildPlaysRow, standIns := [], harness := (true, "fb7affc2aeec32ff80bb066626a226c3e2d1ca698834107b027f89ef2f054395"), looks := true }, kinds := [], alts := [], laidByText := true, laidKinds := [.handle, .data], laidTests := true, laidLooks := .later }
def BuildPlaysCardSaid : Prop := Claim7.holds Tryd.pinned (.plain (OpenSpec.ofChange buildPlaysSpec)) buildPlaysCard

/-- THE SECOND FORM's CARD OF 'astrolabelaw21.BuildPlays'. -/
def buildPlaysUptoCard : Claim7 := { stood := { row := buildPlaysUptoRow, standIns := [], harness := (true, "fb7affc2aeec32ff80bb066626a226c3e2d1ca698834107b027f89ef2f054395"), looks := true }, kinds := [], alts := [], laidByText := true, laidKinds := [.handle, .data], laidTests := true, laidLooks := .later }
def BuildPlaysUptoCardSaid : Prop := Claim7.holds Tryd.pinned (.plain (OpenSpec.upto buildPlaysSpec)) buildPlaysUptoCard
end Rows
end Go.Proofs.YtgmphfagflhglaaDoor
