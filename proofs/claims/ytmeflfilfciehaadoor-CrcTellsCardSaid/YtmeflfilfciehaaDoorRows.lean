/-
  NARROWER THAN 'FOR EVERY INPUT', by the rows' own cells (each row's printed sentence says how): CrcTells: laid · CrcBursts: laid · CrcNought: laid · CrcJoins: laid.
  DERIVED. THE GIVEN ROWS OF THIS SEAT. 4 by the template 'for every input the law returns true; each argument reads behind the call as it read before'; 0 by the template 'total and deterministic' (their statements: YtmeflfilfciehaaDoorTotals.lean).
  GIVEN WITH THE SEED: the statements are not yours to turn. If you find one false, say at which input.
  Laid BY PROGRAM, IN A SANDBOX (cutbox-rows.mjs): the forced cells as the released guide's own fill.sh prints them over the translation f999cd44f3737425… (all of the seat's roots in one cut). By AI agents, Wed Nov 11 2026. No macro, syntax, notation, axiom, sorry.
-/
import Derived.Test.YtmeflfilfciehaaDoorChecked
import GoSem.Claim
import GoSem.ClaimJoined
import GoSem.ClaimMapViews
import Derived.JoinedTies
import Derived.KernelRfl
namespace Go.Proofs.YtmeflfilfciehaaDoor
/- THE CELL 'sum', in the pinned program and in every row, IS THE sha256 OF THE DUMP (.gsa) THAT YtmeflfilfciehaaDoorProg.lean LOADS. Nothing in Lean hashes anything: it is a label: what it is worth is what the hold of that sum in a sandbox is worth. -/
noncomputable def Tryd.pinned : Pinned := { name := "ytmeflfilfciehaadoor", sum := "f999cd44f3737425ca310c7a884a9b5830e78ee23cf36e2e1cbe355037685f53", checked := Tryd.checked }
namespace Rows
def none {H : Type} : Left H := { results := [], args := [] }

/- WHAT THE LISTED PACKAGE-LEVEL VARIABLES READ AS WHEN THE CALL BEGINS. Each datum BY PROGRAM (the guide's laid-datum.mjs) off the statement by which the dump's own 'gosem.cut.vars' lays the variable. In a bare row this is a premise. The card (YtmeflfilfciehaaDoorCards.lean) ties it to the program's text. -/
def laid_astrolabe_crc_fours {H : Type} : DataW H := .agg [.lit (.int .u16 0), .lit (.int .u16 4129), .lit (.int .u16 8258), .lit (.int .u16 12387), .lit (.int .u16 16516), .lit (.int .u16 20645), .lit (.int .u16 24774), .lit (.int .u16 28903), .lit (.int .u16 33032), .lit (.int .u16 37161), .lit (.int .u16 41290), .lit (.int .u16 45419), .lit (.int .u16 49548), .lit (.int .u16 53677), .lit (.int .u16 57806), .lit (.int .u16 61935)]

/-- 'astrolabelaw11.CrcTells': WHATEVER THE INPUT: true; the input reads as it did. -/
def crcTellsSpec : ChangeSpec := { name := "crcTells", fn := fun _ => fun
  | [d1, d2, d3] => { results := [.lit (.bool true)], args := [d1, d2, d3] }
  | _ => none }
def crcTellsRow : OpenClaim := { program := "ytmeflfilfciehaadoor", sum := "f999cd44f3737425ca310c7a884a9b5830e78ee23cf36e2e1cbe355037685f53", func := "astrolabe/astrolabelaw11.CrcTells", spec := "crcTells", unfollowed := true, recurses := true, named := ["astrolabe/crc.fours"], apart := false, laid := [("astrolabe/crc.fours", laid_astrolabe_crc_fours)] }
def CrcTellsSaid : Prop := crcTellsRow.holds Tryd.pinned (OpenSpec.ofChange crcTellsSpec)

/-- ITS FALSE NEIGHBOUR: 'it returns false'. Refute it at one input. -/
def crcTellsWrong : ChangeSpec := { name := "crcTells", fn := fun _ => fun
  | [d1, d2, d3] => { results := [.lit (.bool false)], args := [d1, d2, d3] }
  | _ => none }
def CrcTellsWrongFalsely : Prop := crcTellsRow.holds Tryd.pinned (OpenSpec.ofChange crcTellsWrong)

/-- 'astrolabelaw11.CrcBursts': WHATEVER THE INPUT: true; the input reads as it did. -/
def crcBurstsSpec : ChangeSpec := { name := "crcBursts", fn := fun _ => fun
  | [d1, d2, d3] => { results := [.lit (.bool true)], args := [d1, d2, d3] }
  | _ => none }
def crcBurstsRow : OpenClaim := { program := "ytmeflfilfciehaadoor", sum := "f999cd44f3737425ca310c7a884a9b5830e78ee23cf36e2e1cbe355037685f53", func := "astrolabe/astrolabelaw11.CrcBursts", spec := "crcBursts", unfollowed := true, recurses := true, named := ["astrolabe/crc.fours"], apart := false, laid := [("astrolabe/crc.fours", laid_astrolabe_crc_fours)] }
def CrcBurstsSaid : Prop := crcBurstsRow.holds Tryd.pinned (OpenSpec.ofChange crcBurstsSpec)

/-- ITS FALSE NEIGHBOUR: 'it returns false'. Refute it at one input. -/
def crcBurstsWrong : ChangeSpec := { name := "crcBursts", fn := fun _ => fun
  | [d1, d2, d3] => { results := [.lit (.bool false)], args := [d1, d2, d3] }
  | _ => none }
def CrcBurstsWrongFalsely : Prop := crcBurstsRow.holds Tryd.pinned (OpenSpec.ofChange crcBurstsWrong)

/-- 'astrolabelaw11.CrcNought': WHATEVER THE INPUT: true; the input reads as it did. -/
def crcNoughtSpec : ChangeSpec := { name := "crcNought", fn := fun _ => fun
  | [d1, d2] => { results := [.lit (.bool true)], args := [d1, d2] }
  | _ => none }
def crcNoughtRow : OpenClaim := { program := "ytmeflfilfciehaadoor", sum := "f999cd44f3737425ca310c7a884a9b5830e78ee23cf36e2e1cbe355037685f53", func := "astrolabe/astrolabelaw11.CrcNought", spec := "crcNought", unfollowed := true, recurses := true, named := ["astrolabe/crc.fours"], apart := false, laid := [("astrolabe/crc.fours", laid_astrolabe_crc_fours)] }
def CrcNoughtSaid : Prop := crcNoughtRow.holds Tryd.pinned (OpenSpec.ofChange crcNoughtSpec)

/-- ITS FALSE NEIGHBOUR: 'it returns false'. Refute it at one input. -/
def crcNoughtWrong : ChangeSpec := { name := "crcNought", fn := fun _ => fun
  | [d1, d2] => { results := [.lit (.bool false)], args := [d1, d2] }
  | _ => none }
def CrcNoughtWrongFalsely : Prop := crcNoughtRow.holds Tryd.pinned (OpenSpec.ofChange crcNoughtWrong)

/-- 'astrolabelaw11.CrcJoins': WHATEVER THE INPUT: true; the input reads as it did. -/
def crcJoinsSpec : ChangeSpec := { name := "crcJoins", fn := fun _ => fun
  | [d1, d2, d3] => { results := [.lit (.bool true)], args := [d1, d2, d3] }
  | _ => none }
def crcJoinsRow : OpenClaim := { program := "ytmeflfilfciehaadoor", sum := "f999cd44f3737425ca310c7a884a9b5830e78ee23cf36e2e1cbe355037685f53", func := "astrolabe/astrolabelaw11.CrcJoins", spec := "crcJoins", unfollowed := true, recurses := true, named := ["astrolabe/crc.fours"], apart := false, laid := [("astrolabe/crc.fours", laid_astrolabe_crc_fours)] }
def CrcJoinsSaid : Prop := crcJoinsRow.holds Tryd.pinned (OpenSpec.ofChange crcJoinsSpec)

/-- ITS FALSE NEIGHBOUR: 'it returns false'. Refute it at one input. -/
def crcJoinsWrong : ChangeSpec := { name := "crcJoins", fn := fun _ => fun
  | [d1, d2, d3] => { results := [.lit (.bool false)], args := [d1, d2, d3] }
  | _ => none }
def CrcJoinsWrongFalsely : Prop := crcJoinsRow.holds Tryd.pinned (OpenSpec.ofChange crcJoinsWrong)

/- THE SECOND FORM. 'bulk': how many values and letters a reading holds, each counted each time it is reached (what is shared counts as often as it is met; a slice's spare places count too). A statement '..UptoSaid' is the law's where the arguments, and the package variables that the reading takes, are together of bulk at most 1048576: NARROWER than '..Said'. Prove '..Said' where nothing that the law and all that it calls make is longer than what came in: it says more and counts as full. Else prove '..UptoSaid'. A law counts once. -/
mutual
def uptoBulk {H : Type} : DataW H → Nat
  | .lit (.string bytes) => bytes.length + 1
  | .lit _ => 1
  | .nil => 1
  | .ptr d => uptoBulk d + 1
  | .slice elems spare => uptoBulkAll elems + uptoBulkAll spare + 1
  | .agg parts => uptoBulkAll parts + 1
  | .iface _ d => uptoBulk d + 1
  | .map entries => uptoBulkEntries entries + 1
  | .held _ => 1
def uptoBulkAll {H : Type} : List (DataW H) → Nat
  | [] => 0
  | d :: r => uptoBulk d + uptoBulkAll r
def uptoBulkEntries {H : Type} : List (Lit × DataW H) → Nat
  | [] => 0
  | x :: r => uptoBulkEntry x + uptoBulkEntries r
def uptoBulkEntry {H : Type} : Lit × DataW H → Nat
  | (.string bytes, d) => bytes.length + uptoBulk d + 1
  | (_, d) => uptoBulk d + 1
 end
def uptoSmall : (H : Type) → List (DataW H) → Bool := fun _ ds => decide (uptoBulkAll ds ≤ 1048576)
def OpenSpec.upto (s : _root_.Go.ChangeSpec) : _root_.Go.OpenSpec := { _root_.Go.OpenSpec.ofChange s with cond := some uptoSmall }

/-- 'astrolabelaw11.CrcTells', WHERE WHAT IT READS IS OF BULK AT MOST 1048576: true; the input reads as it did. -/
def crcTellsUptoRow : OpenClaim := { program := "ytmeflfilfciehaadoor", sum := "f999cd44f3737425ca310c7a884a9b5830e78ee23cf36e2e1cbe355037685f53", func := "astrolabe/astrolabelaw11.CrcTells", spec := "crcTells", unfollowed := true, recurses := true, named := ["astrolabe/crc.fours"], apart := false, laid := [("astrolabe/crc.fours", laid_astrolabe_crc_fours)], narrowed := true }
def CrcTellsUptoSaid : Prop := crcTellsUptoRow.holds Tryd.pinned (OpenSpec.upto crcTellsSpec)

/-- 'astrolabelaw11.CrcBursts', WHERE WHAT IT READS IS OF BULK AT MOST 1048576: true; the input reads as it did. -/
def crcBurstsUptoRow : OpenClaim := { program := "ytmeflfilfciehaadoor", sum := "f999cd44f3737425ca310c7a884a9b5830e78ee23cf36e2e1cbe355037685f53", func := "astrolabe/astrolabelaw11.CrcBursts", spec := "crcBursts", unfollowed := true, recurses := true, named := ["astrolabe/crc.fours"], apart := false, laid := [("astrolabe/crc.fours", laid_astrolabe_crc_fours)], narrowed := true }
def CrcBurstsUptoSaid : Prop := crcBurstsUptoRow.holds Tryd.pinned (OpenSpec.upto crcBurstsSpec)

/-- 'astrolabelaw11.CrcNought', WHERE WHAT IT READS IS OF BULK AT MOST 1048576: true; the input reads as it did. -/
def crcNoughtUptoRow : OpenClaim := { program := "ytmeflfilfciehaadoor", sum := "f999cd44f3737425ca310c7a884a9b5830e78ee23cf36e2e1cbe355037685f53", func := "astrolabe/astrolabelaw11.CrcNought", spec := "crcNought", unfollowed := true, recurses := true, named := ["astrolabe/crc.fours"], apart := false, laid := [("astrolabe/crc.fours", laid_astrolabe_crc_fours)], narrowed := true }
def CrcNoughtUptoSaid : Prop := crcNoughtUptoRow.holds Tryd.pinned (OpenSpec.upto crcNoughtSpec)

/-- 'astrolabelaw11.CrcJoins', WHERE WHAT IT READS IS OF BULK AT MOST 1048576: true; the input reads as it did. -/
def crcJoinsUptoRow : OpenClaim := { program := "ytmeflfilfciehaadoor", sum := "f999cd44f3737425ca310c7a884a9b5830e78ee23cf36e2e1cbe355037685f53", func := "astrolabe/astrolabelaw11.CrcJoins", spec := "crcJoins", unfollowed := true, recurses := true, named := ["astrolabe/crc.fours"], apart := false, laid := [("astrolabe/crc.fours", laid_astrolabe_crc_fours)], narrowed := true }
def CrcJoinsUptoSaid : Prop := crcJoinsUptoRow.holds Tryd.pinned (OpenSpec.upto crcJoinsSpec)

end Rows
end Go.Proofs.YtmeflfilfciehaaDoor
