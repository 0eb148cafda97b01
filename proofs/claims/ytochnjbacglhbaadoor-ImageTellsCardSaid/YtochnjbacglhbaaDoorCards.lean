/-
  DERIVED. GIVEN WITH THE SEED: THE CARDS: each row of YtochnjbacglhbaaDoorRows.lean that lists a variable, with what it lists TIED to the program's text (the seventh form; the later family's looks); each row that meets fmt, with fmt's text TOLD by the authors' own Lean function (tested against real Go, not proved from fmt's source: count such statements apart). THE CARD IS WHAT COUNTS. Prove the row's statement (the work); the ties are given (YtochnjbacglhbaaDoorTie.lean); close each card by the builder's one call (the guide's Derived/Test/ToyasCard.lean, 'card_holds'). Laid BY PROGRAM, IN A SANDBOX (cutbox-door.mjs). By AI agents, Wed Nov 11 2026. No macro, syntax, notation, axiom, sorry.
-/
import Derived.Test.YtochnjbacglhbaaDoorRows
import GoSem.ClaimSeven
namespace Go.Proofs.YtochnjbacglhbaaDoor
namespace Rows

/-- THE TIED CARD OF 'astrolabelaw22.ImageTells'. -/
def imageTellsCard : Claim7 := { stood := { row := imageTellsRow, standIns := [], harness := (true, "9f9758565c8a905b943d4cbc8b854e5677aee65b6cc58d556db5fb53a7b43d74"), looks := true }, kinds := [], alts := [], laidByText := true, laidKinds := [.data], laidTests := true, laidLooks := .later }
def ImageTellsCardSaid : Prop := Claim7.holds Tryd.pinned (.plain (OpenSpec.ofChange imageTellsSpec)) imageTellsCard

/-- THE TIED CARD OF 'astrolabelaw22.ImageBack'. -/
def imageBackCard : Claim7 := { stood := { row := imageBackRow, standIns := [], harness := (true, "9f9758565c8a905b943d4cbc8b854e5677aee65b6cc58d556db5fb53a7b43d74"), looks := true }, kinds := [], alts := [], laidByText := true, laidKinds := [.data], laidTests := true, laidLooks := .later }
def ImageBackCardSaid : Prop := Claim7.holds Tryd.pinned (.plain (OpenSpec.ofChange imageBackSpec)) imageBackCard

/-- THE TIED CARD OF 'astrolabelaw22.ImageShort'. -/
def imageShortCard : Claim7 := { stood := { row := imageShortRow, standIns := [], harness := (true, "9f9758565c8a905b943d4cbc8b854e5677aee65b6cc58d556db5fb53a7b43d74"), looks := true }, kinds := [], alts := [], laidByText := true, laidKinds := [.data], laidTests := true, laidLooks := .later }
def ImageShortCardSaid : Prop := Claim7.holds Tryd.pinned (.plain (OpenSpec.ofChange imageShortSpec)) imageShortCard

/-- THE SECOND FORM's CARD OF 'astrolabelaw22.ImageTells'. -/
def imageTellsUptoCard : Claim7 := { stood := { row := imageTellsUptoRow, standIns := [], harness := (true, "9f9758565c8a905b943d4cbc8b854e5677aee65b6cc58d556db5fb53a7b43d74"), looks := true }, kinds := [], alts := [], laidByText := true, laidKinds := [.data], laidTests := true, laidLooks := .later }
def ImageTellsUptoCardSaid : Prop := Claim7.holds Tryd.pinned (.plain (OpenSpec.upto imageTellsSpec)) imageTellsUptoCard

/-- THE SECOND FORM's CARD OF 'astrolabelaw22.ImageBack'. -/
def imageBackUptoCard : Claim7 := { stood := { row := imageBackUptoRow, standIns := [], harness := (true, "9f9758565c8a905b943d4cbc8b854e5677aee65b6cc58d556db5fb53a7b43d74"), looks := true }, kinds := [], alts := [], laidByText := true, laidKinds := [.data], laidTests := true, laidLooks := .later }
def ImageBackUptoCardSaid : Prop := Claim7.holds Tryd.pinned (.plain (OpenSpec.upto imageBackSpec)) imageBackUptoCard

/-- THE SECOND FORM's CARD OF 'astrolabelaw22.ImageShort'. -/
def imageShortUptoCard : Claim7 := { stood := { row := imageShortUptoRow, standIns := [], harness := (true, "9f9758565c8a905b943d4cbc8b854e5677aee65b6cc58d556db5fb53a7b43d74"), looks := true }, kinds := [], alts := [], laidByText := true, laidKinds := [.data], laidTests := true, laidLooks := .later }
def ImageShortUptoCardSaid : Prop := Claim7.holds Tryd.pinned (.plain (OpenSpec.upto imageShortSpec)) imageShortUptoCard
end Rows
end Go.Proofs.YtochnjbacglhbaaDoor
