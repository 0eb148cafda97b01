/-
  DERIVED. GIVEN WITH THE SEED: THE CARDS: each row of YtcoicgkpikoibaaGreatDoorRows.lean that lists a variable, with what it lists TIED to the program's text (the seventh form; the later family's looks); each row that meets fmt, with fmt's text TOLD by the authors' own Lean function (tested against real Go, not proved from fmt's source: count such statements apart). THE CARD IS WHAT COUNTS. Prove the row's statement (the work); the ties are given (YtcoicgkpikoibaaGreatDoorTie.lean); close each card by the builder's one call (the guide's Derived/Test/ToyasCard.lean, 'card_holds'). Laid BY PROGRAM, IN A SANDBOX (cutbox-door.mjs). By AI agents, Wed Nov 11 2026. No macro, syntax, notation, axiom, sorry.
-/
import Derived.Test.YtcoicgkpikoibaaGreatDoorRows
import GoSem.ClaimSeven
namespace Go.Proofs.YtcoicgkpikoibaaGreatDoor
namespace Rows

/-- THE TIED CARD OF 'astrolabelaw16.CorePlays'. -/
def corePlaysCard : Claim7 := { stood := { row := corePlaysRow, standIns := [], harness := (true, "f102e0293abc710b2f495b783a20c81f25d23ce4839c6c5d4f0f215622d6d9dc"), looks := false }, kinds := [], alts := [], laidByText := true, laidKinds := [.data, .data], laidTests := true, laidLooks := .later }
def CorePlaysCardSaid : Prop := Claim7.holds Tryz.pinned (.plain (OpenSpec.ofChange corePlaysSpec)) corePlaysCard

/-- THE TIED CARD OF 'astrolabelaw16.CoreSplits'. -/
def coreSplitsCard : Claim7 := { stood := { row := coreSplitsRow, standIns := [], harness := (true, "f102e0293abc710b2f495b783a20c81f25d23ce4839c6c5d4f0f215622d6d9dc"), looks := false }, kinds := [], alts := [], laidByText := true, laidKinds := [.data, .data], laidTests := true, laidLooks := .later }
def CoreSplitsCardSaid : Prop := Claim7.holds Tryz.pinned (.plain (OpenSpec.ofChange coreSplitsSpec)) coreSplitsCard

/-- THE TIED CARD OF 'astrolabelaw16.CoreCosts'. -/
def coreCostsCard : Claim7 := { stood := { row := coreCostsRow, standIns := [], harness := (true, "f102e0293abc710b2f495b783a20c81f25d23ce4839c6c5d4f0f215622d6d9dc"), looks := false }, kinds := [], alts := [], laidByText := true, laidKinds := [.data, .data], laidTests := true, laidLooks := .later }
def CoreCostsCardSaid : Prop := Claim7.holds Tryz.pinned (.plain (OpenSpec.ofChange coreCostsSpec)) coreCostsCard

/-- THE TIED CARD OF 'astrolabelaw16.CoreHalts'. -/
def coreHaltsCard : Claim7 := { stood := { row := coreHaltsRow, standIns := [], harness := (true, "f102e0293abc710b2f495b783a20c81f25d23ce4839c6c5d4f0f215622d6d9dc"), looks := false }, kinds := [], alts := [], laidByText := true, laidKinds := [.data, .data], laidTests := true, laidLooks := .later }
def CoreHaltsCardSaid : Prop := Claim7.holds Tryz.pinned (.plain (OpenSpec.ofChange coreHaltsSpec)) coreHaltsCard

/-- THE SECOND FORM's CARD OF 'astrolabelaw16.CorePlays'. -/
def corePlaysUptoCard : Claim7 := { stood := { row := corePlaysUptoRow, standIns := [], harness := (true, "f102e0293abc710b2f495b783a20c81f25d23ce4839c6c5d4f0f215622d6d9dc"), looks := false }, kinds := [], alts := [], laidByText := true, laidKinds := [.data, .data], laidTests := true, laidLooks := .later }
def CorePlaysUptoCardSaid : Prop := Claim7.holds Tryz.pinned (.plain (OpenSpec.upto corePlaysSpec)) corePlaysUptoCard

/-- THE SECOND FORM's CARD OF 'astrolabelaw16.CoreSplits'. -/
def coreSplitsUptoCard : Claim7 := { stood := { row := coreSplitsUptoRow, standIns := [], harness := (true, "f102e0293abc710b2f495b783a20c81f25d23ce4839c6c5d4f0f215622d6d9dc"), looks := false }, kinds := [], alts := [], laidByText := true, laidKinds := [.data, .data], laidTests := true, laidLooks := .later }
def CoreSplitsUptoCardSaid : Prop := Claim7.holds Tryz.pinned (.plain (OpenSpec.upto coreSplitsSpec)) coreSplitsUptoCard

/-- THE SECOND FORM's CARD OF 'astrolabelaw16.CoreCosts'. -/
def coreCostsUptoCard : Claim7 := { stood := { row := coreCostsUptoRow, standIns := [], harness := (true, "f102e0293abc710b2f495b783a20c81f25d23ce4839c6c5d4f0f215622d6d9dc"), looks := false }, kinds := [], alts := [], laidByText := true, laidKinds := [.data, .data], laidTests := true, laidLooks := .later }
def CoreCostsUptoCardSaid : Prop := Claim7.holds Tryz.pinned (.plain (OpenSpec.upto coreCostsSpec)) coreCostsUptoCard

/-- THE SECOND FORM's CARD OF 'astrolabelaw16.CoreHalts'. -/
def coreHaltsUptoCard : Claim7 := { stood := { row := coreHaltsUptoRow, standIns := [], harness := (true, "f102e0293abc710b2f495b783a20c81f25d23ce4839c6c5d4f0f215622d6d9dc"), looks := false }, kinds := [], alts := [], laidByText := true, laidKinds := [.data, .data], laidTests := true, laidLooks := .later }
def CoreHaltsUptoCardSaid : Prop := Claim7.holds Tryz.pinned (.plain (OpenSpec.upto coreHaltsSpec)) coreHaltsUptoCard
end Rows
end Go.Proofs.YtcoicgkpikoibaaGreatDoor
