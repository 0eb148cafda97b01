/-
  DERIVED. GIVEN WITH THE SEED: THE CARDS: each row of YtekhgidbnpfmnaaGreatDoorRows.lean that lists a variable, with what it lists TIED to the program's text (the seventh form; the later family's looks); each row that meets fmt, with fmt's text TOLD by the authors' own Lean function (tested against real Go, not proved from fmt's source: count such statements apart). THE CARD IS WHAT COUNTS. Prove the row's statement (the work); the ties are given (YtekhgidbnpfmnaaGreatDoorTie.lean); close each card by the builder's one call (the guide's Derived/Test/ToyasCard.lean, 'card_holds'). Laid BY PROGRAM, IN A SANDBOX (cutbox-door.mjs). By AI agents, Wed Nov 11 2026. No macro, syntax, notation, axiom, sorry.
-/
import Derived.Test.YtekhgidbnpfmnaaGreatDoorRows
import GoSem.ClaimSeven
namespace Go.Proofs.YtekhgidbnpfmnaaGreatDoor
namespace Rows

/-- THE TIED CARD OF 'astrolabelaw23.SourceTells'. -/
def sourceTellsCard : Claim7 := { stood := { row := sourceTellsRow, standIns := [], harness := (true, "33aee0ae895c89d84215eb78499d56781cb892ac8a4a4f9ea8c1ad84a218081c"), looks := true }, kinds := [], alts := [], laidByText := true, laidKinds := [.data, .data, .data, .sentinel, .sentinel, .data], laidTests := true, laidLooks := .later }
def SourceTellsCardSaid : Prop := Claim7.holds Tryz.pinned (.plain (OpenSpec.ofChange sourceTellsSpec)) sourceTellsCard

/-- THE TIED CARD OF 'astrolabelaw23.SourceBack'. -/
def sourceBackCard : Claim7 := { stood := { row := sourceBackRow, standIns := [], harness := (true, "33aee0ae895c89d84215eb78499d56781cb892ac8a4a4f9ea8c1ad84a218081c"), looks := true }, kinds := [], alts := [], laidByText := true, laidKinds := [.data, .data, .data, .sentinel, .sentinel, .data], laidTests := true, laidLooks := .later }
def SourceBackCardSaid : Prop := Claim7.holds Tryz.pinned (.plain (OpenSpec.ofChange sourceBackSpec)) sourceBackCard

/-- THE TIED CARD OF 'astrolabelaw23.SourceLists'. -/
def sourceListsCard : Claim7 := { stood := { row := sourceListsRow, standIns := [], harness := (true, "33aee0ae895c89d84215eb78499d56781cb892ac8a4a4f9ea8c1ad84a218081c"), looks := true }, kinds := [], alts := [], laidByText := true, laidKinds := [.data, .data, .data, .sentinel, .sentinel, .data], laidTests := true, laidLooks := .later }
def SourceListsCardSaid : Prop := Claim7.holds Tryz.pinned (.plain (OpenSpec.ofChange sourceListsSpec)) sourceListsCard

/-- THE SECOND FORM's CARD OF 'astrolabelaw23.SourceTells'. -/
def sourceTellsUptoCard : Claim7 := { stood := { row := sourceTellsUptoRow, standIns := [], harness := (true, "33aee0ae895c89d84215eb78499d56781cb892ac8a4a4f9ea8c1ad84a218081c"), looks := true }, kinds := [], alts := [], laidByText := true, laidKinds := [.data, .data, .data, .sentinel, .sentinel, .data], laidTests := true, laidLooks := .later }
def SourceTellsUptoCardSaid : Prop := Claim7.holds Tryz.pinned (.plain (OpenSpec.upto sourceTellsSpec)) sourceTellsUptoCard

/-- THE SECOND FORM's CARD OF 'astrolabelaw23.SourceBack'. -/
def sourceBackUptoCard : Claim7 := { stood := { row := sourceBackUptoRow, standIns := [], harness := (true, "33aee0ae895c89d84215eb78499d56781cb892ac8a4a4f9ea8c1ad84a218081c"), looks := true }, kinds := [], alts := [], laidByText := true, laidKinds := [.data, .data, .data, .sentinel, .sentinel, .data], laidTests := true, laidLooks := .later }
def SourceBackUptoCardSaid : Prop := Claim7.holds Tryz.pinned (.plain (OpenSpec.upto sourceBackSpec)) sourceBackUptoCard

/-- THE SECOND FORM's CARD OF 'astrolabelaw23.SourceLists'. -/
def sourceListsUptoCard : Claim7 := { stood := { row := sourceListsUptoRow, standIns := [], harness := (true, "33aee0ae895c89d84215eb78499d56781cb892ac8a4a4f9ea8c1ad84a218081c"), looks := true }, kinds := [], alts := [], laidByText := true, laidKinds := [.data, .data, .data, .sentinel, .sentinel, .data], laidTests := true, laidLooks := .later }
def SourceListsUptoCardSaid : Prop := Claim7.holds Tryz.pinned (.plain (OpenSpec.upto sourceListsSpec)) sourceListsUptoCard
end Rows
end Go.Proofs.YtekhgidbnpfmnaaGreatDoor
