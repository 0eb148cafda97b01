/-
  DERIVED. GIVEN WITH THE SEED: THE CARDS: each row of YthaccdalciihpaaDoorRows.lean that lists a variable, with what it lists TIED to the program's text (the seventh form; the later family's looks); each row that meets fmt, with fmt's text TOLD by the authors' own Lean function (tested against real Go, not proved from fmt's source: count such statements apart). THE CARD IS WHAT COUNTS. Prove the row's statement (the work); the ties are given (YthaccdalciihpaaDoorTie.lean); close each card by the builder's one call (the guide's Derived/Test/ToyasCard.lean, 'card_holds'). Laid BY PROGRAM, IN A SANDBOX (cutbox-door.mjs). By AI agents, Wed Nov 11 2026. No macro, syntax, notation, axiom, sorry.
-/
import Derived.Test.YthaccdalciihpaaDoorRows
import GoSem.ClaimSeven
namespace Go.Proofs.YthaccdalciihpaaDoor
namespace Rows

/-- THE TIED CARD OF 'astrolabelaw19.LabelPlays'. -/
def labelPlaysCard : Claim7 := { stood := { row := labelPlaysRow, standIns := [], harness := (true, "967384c8d1ff45d4a2304350ea8380a711856294e75fe43e315bff89a89b5097"), looks := true }, kinds := [], alts := [], laidByText := true, laidKinds := [.handle], laidTests := true, laidLooks := .later }
def LabelPlaysCardSaid : Prop := Claim7.holds Tryd.pinned (.plain (OpenSpec.ofChange labelPlaysSpec)) labelPlaysCard

/-- THE TIED CARD OF 'astrolabelaw19.LabelTurned'. -/
def labelTurnedCard : Claim7 := { stood := { row := labelTurnedRow, standIns := [], harness := (true, "967384c8d1ff45d4a2304350ea8380a711856294e75fe43e315bff89a89b5097"), looks := true }, kinds := [], alts := [], laidByText := true, laidKinds := [.handle], laidTests := true, laidLooks := .later }
def LabelTurnedCardSaid : Prop := Claim7.holds Tryd.pinned (.plain (OpenSpec.ofChange labelTurnedSpec)) labelTurnedCard

/-- THE SECOND FORM's CARD OF 'astrolabelaw19.LabelPlays'. -/
def labelPlaysUptoCard : Claim7 := { stood := { row := labelPlaysUptoRow, standIns := [], harness := (true, "967384c8d1ff45d4a2304350ea8380a711856294e75fe43e315bff89a89b5097"), looks := true }, kinds := [], alts := [], laidByText := true, laidKinds := [.handle], laidTests := true, laidLooks := .later }
def LabelPlaysUptoCardSaid : Prop := Claim7.holds Tryd.pinned (.plain (OpenSpec.upto labelPlaysSpec)) labelPlaysUptoCard

/-- THE SECOND FORM's CARD OF 'astrolabelaw19.LabelTurned'. -/
def labelTurnedUptoCard : Claim7 := { stood := { row := labelTurnedUptoRow, standIns := [], harness := (true, "967384c8d1ff45d4a2304350ea8380a711856294e75fe43e315bff89a89b5097"), looks := true }, kinds := [], alts := [], laidByText := true, laidKinds := [.handle], laidTests := true, laidLooks := .later }
def LabelTurnedUptoCardSaid : Prop := Claim7.holds Tryd.pinned (.plain (OpenSpec.upto labelTurnedSpec)) labelTurnedUptoCard
end Rows
end Go.Proofs.YthaccdalciihpaaDoor
