/-
  NARROWER THAN 'FOR EVERY INPUT', by the rows' own cells (each row's printed sentence says how): ImageTells: laid · ImageBack: laid · ImageShort: laid.
  DERIVED. THE GIVEN ROWS OF THIS SEAT. 3 by the template 'for every input the law returns true; each argument reads behind the call as it read before'; 0 by the template 'total and deterministic' (their statements: YtochnjbacglhbaaDoorTotals.lean).
  GIVEN WITH THE SEED: the statements are not yours to turn. If you find one false, say at which input.
  Laid BY PROGRAM, IN A SANDBOX (cutbox-rows.mjs): the forced cells as the released guide's own fill.sh prints them over the translation 2088cd78c067b74b… (all of the seat's roots in one cut). By AI agents, Wed Nov 11 2026. No macro, syntax, notation, axiom, sorry.
-/
import Derived.Test.YtochnjbacglhbaaDoorChecked
import GoSem.Claim
import GoSem.ClaimJoined
import GoSem.ClaimMapViews
import Derived.JoinedTies
import Derived.KernelRfl
namespace Go.Proofs.YtochnjbacglhbaaDoor
/- THE CELL 'sum', in the pinned program and in every row, IS THE sha256 OF THE DUMP (.gsa) THAT YtochnjbacglhbaaDoorProg.lean LOADS. Nothing in Lean hashes anything: it is a label: what it is worth is what the hold of that sum in a sandbox is worth. -/
noncomputable def Tryd.pinned : Pinned := { name := "ytochnjbacglhbaadoor", sum := "2088cd78c067b74b80d95abf054c02fb647a9519d914175dfe6e399c27b005fb", checked := Tryd.checked }
namespace Rows
def none {H : Type} : Left H := { results := [], args := [] }

/- WHAT THE LISTED PACKAGE-LEVEL VARIABLES READ AS WHEN THE CALL BEGINS. Each datum BY PROGRAM (the guide's laid-datum.mjs) off the statement by which the dump's own 'gosem.cut.vars' lays the variable. In a bare row this is a premise. The card (YtochnjbacglhbaaDoorCards.lean) ties it to the program's text. -/
def laid_astrolabe_crc_fours {H : Type} : DataW H := .agg [.lit (.int .u16 0), .lit (.int .u16 4129), .lit (.int .u16 8258), .lit (.int .u16 12387), .lit (.int .u16 16516), .lit (.int .u16 20645), .lit (.int .u16 24774), .lit (.int .u16 28903), .lit (.int .u16 33032), .lit (.int .u16 37161), .lit (.int .u16 41290), .lit (.int .u16 45419), .lit (.int .u16 49548), .lit (.int .u16 53677), .lit (.int .u16 57806), .lit (.int .u16 61935)]

/-- 'astrolabelaw22.ImageTells': WHATEVER THE INPUT: true; the input reads as it did. -/
def imageTellsSpec : ChangeSpec := { name := "imageTells", fn := fun _ => fun
  | [d1, d2] => { results := [.lit (.bool true)], args := [d1, d2] }
  | _ => none }
def imageTellsRow : OpenClaim := { program := "ytochnjbacglhbaadoor", sum := "2088cd78c067b74b80d95abf054c02fb647a9519d914175dfe6e399c27b005fb", func := "astrolabe/astrolabelaw22.ImageTells", spec := "imageTells", unfollowed := true, recurses := true, named := ["astrolabe/crc.fours"], apart := false, laid := [("astrolabe/crc.fours", laid_astrolabe_crc_fours)] }
def ImageTellsSaid : Prop := imageTellsRow.holds Tryd.pinned (OpenSpec.ofChange imageTellsSpec)

/-- ITS FALSE NEIGHBOUR: 'it returns false'. Refute it at one input. -/
def imageTellsWrong : ChangeSpec := { name := "imageTells", fn := fun _ => fun
  | [d1, d2] => { results := [.lit (.bool false)], args := [d1, d2] }
  | _ => none }
def ImageTellsWrongFalsely : Prop := imageTellsRow.holds Tryd.pinned (OpenSpec.ofChange imageTellsWrong)

/-- 'astrolabelaw22.ImageBack': WHATEVER THE INPUT: true; the input reads as it did. -/
def imageBackSpec : ChangeSpec := { name := "imageBack", fn := fun _ => fun
  | [d1, d2] => { results := [.lit (.bool true)], args := [d1, d2] }
  | _ => none }
def imageBackRow : OpenClaim := { program := "ytochnjbacglhbaadoor", sum := "2088cd78c067b74b80d95abf054c02fb647a9519d914175dfe6e399c27b005fb", func := "astrolabe/astrolabelaw22.ImageBack", spec := "imageBack", unfollowed := true, recurses := true, named := ["astrolabe/crc.fours"], apart := false, laid := [("astrolabe/crc.fours", laid_astrolabe_crc_fours)] }
def ImageBackSaid : Prop := imageBackRow.holds Tryd.pinned (OpenSpec.ofChange imageBackSpec)

/-- ITS FALSE NEIGHBOUR: 'it returns false'. Refute it at one input. -/
def imageBackWrong : ChangeSpec := { name := "imageBack", fn := fun _ => fun
  | [d1, d2] => { results := [.lit (.bool false)], args := [d1, d2] }
  | _ => none }
def ImageBackWrongFalsely : Prop := imageBackRow.holds Tryd.pinned (OpenSpec.ofChange imageBackWrong)

/-- 'astrolabelaw22.ImageShort': WHATEVER THE INPUT: true; the input reads as it did. -/
def imageShortSpec : ChangeSpec := { name := "imageShort", fn := fun _ => fun
  | [d1, d2, d3] => { results := [.lit (.bool true)], args := [d1, d2, d3] }
  | _ => none }
def imageShortRow : OpenClaim := { program := "ytochnjbacglhbaadoor", sum := "2088cd78c067b74b80d95abf054c02fb647a9519d914175dfe6e399c27b005fb", func := "astrolabe/astrolabelaw22.ImageShort", spec := "imageShort", unfollowed := true, recurses := true, named := ["astrolabe/crc.fours"], apart := false, laid := [("astrolabe/crc.fours", laid_astrolabe_crc_fours)] }
def ImageShortSaid : Prop := imageShortRow.holds Tryd.pinned (OpenSpec.ofChange imageShortSpec)

/-- ITS FALSE NEIGHBOUR: 'it returns false'. Refute it at one input. -/
def imageShortWrong : ChangeSpec := { name := "imageShort", fn := fun _ => fun
  | [d1, d2, d3] => { results := [.lit (.bool false)], args := [d1, d2, d3] }
  | _ => none }
def ImageShortWrongFalsely : Prop := imageShortRow.holds Tryd.pinned (OpenSpec.ofChange imageShortWrong)

/- THE SECOND FORM. 'bulk': how many values and letters a reading holds, each counted each time it is reached (what is shared counts as often as it is met; a slice's spare places count too). A statement '..UptoSaid' is the law's where the arguments, and the package variables that the reading takes, are together of bulk at most 1048576: NARROWER than '..Said'. Prove '..Said' where nothing that the law and all that it calls make is longer than what came in: it says more and counts as full. Else prove '..UptoSaid'. A law counts once. -/
mutual
def uptoBulk {H : Type} : DataW H → Nat
  | .lit (.string bytes) => bytes.length + 1
  | .lit _ => 1
  | .nil => 1
  | .ptr d => uptoBulk d + 1
  | .slice elems spare => uptoBulkAll elems + uptoBulkAll spare + 1
  | .agg parts => uptoBulkAll parts + 1
  | .iface _ d => uptoBulk d + 1
  | .map entries => uptoBulkEntries entries + 1
  | .held _ => 1
def uptoBulkAll {H : Type} : List (DataW H) → Nat
  | [] => 0
  | d :: r => uptoBulk d + uptoBulkAll r
def uptoBulkEntries {H : Type} : List (Lit × DataW H) → Nat
  | [] => 0
  | x :: r => uptoBulkEntry x + uptoBulkEntries r
def uptoBulkEntry {H : Type} : Lit × DataW H → Nat
  | (.string bytes, d) => bytes.length + uptoBulk d + 1
  | (_, d) => uptoBulk d + 1
 end
def uptoSmall : (H : Type) → List (DataW H) → Bool := fun _ ds => decide (uptoBulkAll ds ≤ 1048576)
def OpenSpec.upto (s : _root_.Go.ChangeSpec) : _root_.Go.OpenSpec := { _root_.Go.OpenSpec.ofChange s with cond := some uptoSmall }

/-- 'astrolabelaw22.ImageTells', WHERE WHAT IT READS IS OF BULK AT MOST 1048576: true; the input reads as it did. -/
def imageTellsUptoRow : OpenClaim := { program := "ytochnjbacglhbaadoor", sum := "2088cd78c067b74b80d95abf054c02fb647a9519d914175dfe6e399c27b005fb", func := "astrolabe/astrolabelaw22.ImageTells", spec := "imageTells", unfollowed := true, recurses := true, named := ["astrolabe/crc.fours"], apart := false, laid := [("astrolabe/crc.fours", laid_astrolabe_crc_fours)], narrowed := true }
def ImageTellsUptoSaid : Prop := imageTellsUptoRow.holds Tryd.pinned (OpenSpec.upto imageTellsSpec)

/-- 'astrolabelaw22.ImageBack', WHERE WHAT IT READS IS OF BULK AT MOST 1048576: true; the input reads as it did. -/
def imageBackUptoRow : OpenClaim := { program := "ytochnjbacglhbaadoor", sum := "2088cd78c067b74b80d95abf054c02fb647a9519d914175dfe6e399c27b005fb", func := "astrolabe/astrolabelaw22.ImageBack", spec := "imageBack", unfollowed := true, recurses := true, named := ["astrolabe/crc.fours"], apart := false, laid := [("astrolabe/crc.fours", laid_astrolabe_crc_fours)], narrowed := true }
def ImageBackUptoSaid : Prop := imageBackUptoRow.holds Tryd.pinned (OpenSpec.upto imageBackSpec)

/-- 'astrolabelaw22.ImageShort', WHERE WHAT IT READS IS OF BULK AT MOST 1048576: true; the input reads as it did. -/
def imageShortUptoRow : OpenClaim := { program := "ytochnjbacglhbaadoor", sum := "2088cd78c067b74b80d95abf054c02fb647a9519d914175dfe6e399c27b005fb", func := "astrolabe/astrolabelaw22.ImageShort", spec := "imageShort", unfollowed := true, recurses := true, named := ["astrolabe/crc.fours"], apart := false, laid := [("astrolabe/crc.fours", laid_astrolabe_crc_fours)], narrowed := true }
def ImageShortUptoSaid : Prop := imageShortUptoRow.holds Tryd.pinned (OpenSpec.upto imageShortSpec)

end Rows
end Go.Proofs.YtochnjbacglhbaaDoor
