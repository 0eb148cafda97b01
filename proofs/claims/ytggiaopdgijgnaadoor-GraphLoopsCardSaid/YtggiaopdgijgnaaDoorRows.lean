/-
  NARROWER THAN 'FOR EVERY INPUT', by the rows' own cells (each row's printed sentence says how): GraphTells: laid · GraphLoops: laid.
  DERIVED. THE GIVEN ROWS OF THIS SEAT. 2 by the template 'for every input the law returns true; each argument reads behind the call as it read before'; 0 by the template 'total and deterministic' (their statements: YtggiaopdgijgnaaDoorTotals.lean).
  GIVEN WITH THE SEED: the statements are not yours to turn. If you find one false, say at which input.
  Laid BY PROGRAM, IN A SANDBOX (cutbox-rows.mjs): the forced cells as the released guide's own fill.sh prints them over the translation 4674fe7c2cad1503… (all of the seat's roots in one cut). By AI agents, Wed Nov 11 2026. No macro, syntax, notation, axiom, sorry.
-/
import Derived.Test.YtggiaopdgijgnaaDoorChecked
import GoSem.Claim
import GoSem.ClaimJoined
import GoSem.ClaimMapViews
import Derived.JoinedTies
import Derived.KernelRfl
namespace Go.Proofs.YtggiaopdgijgnaaDoor
/- THE CELL 'sum', in the pinned program and in every row, IS THE sha256 OF THE DUMP (.gsa) THAT YtggiaopdgijgnaaDoorProg.lean LOADS. Nothing in Lean hashes anything: it is a label: what it is worth is what the hold of that sum in a sandbox is worth. -/
noncomputable def Tryd.pinned : Pinned := { name := "ytggiaopdgijgnaadoor", sum := "4674fe7c2cad150396c3701333087211c098483383e9273343afd2cf793d5b01", checked := Tryd.checked }
namespace Rows
def none {H : Type} : Left H := { results := [], args := [] }

/- WHAT THE LISTED PACKAGE-LEVEL VARIABLES READ AS WHEN THE CALL BEGINS. Each datum BY PROGRAM (the guide's laid-datum.mjs) off the statement by which the dump's own 'gosem.cut.vars' lays the variable. In a bare row this is a premise. The card (YtggiaopdgijgnaaDoorCards.lean) ties it to the program's text. -/
def laid_astrolabe_ops_shapes {H : Type} : DataW H := .agg [.agg [.lit (.int .i64 1), .lit (.int .i64 23), .lit (.string [100, 97, 98, 45])], .agg [.lit (.int .i64 24), .lit (.int .i64 30), .lit (.string [100, 97, 45, 45])], .agg [.lit (.int .i64 31), .lit (.int .i64 31), .lit (.string [100, 97, 45, 115])], .agg [.lit (.int .i64 32), .lit (.int .i64 32), .lit (.string [100, 97, 45, 117])], .agg [.lit (.int .i64 33), .lit (.int .i64 33), .lit (.string [100, 45, 45, 117])], .agg [.lit (.int .i64 34), .lit (.int .i64 38), .lit (.string [100, 97, 45, 117])], .agg [.lit (.int .i64 39), .lit (.int .i64 39), .lit (.string [45, 45, 45, 117])], .agg [.lit (.int .i64 40), .lit (.int .i64 40), .lit (.string [100, 45, 45, 117])], .agg [.lit (.int .i64 41), .lit (.int .i64 41), .lit (.string [45, 97, 45, 45])], .agg [.lit (.int .i64 42), .lit (.int .i64 43), .lit (.string [45, 45, 45, 45])]]

/-- 'astrolabelaw18.GraphTells': WHATEVER THE INPUT: true; the input reads as it did. -/
def graphTellsSpec : ChangeSpec := { name := "graphTells", fn := fun _ => fun
  | [d1, d2, d3] => { results := [.lit (.bool true)], args := [d1, d2, d3] }
  | _ => none }
def graphTellsRow : OpenClaim := { program := "ytggiaopdgijgnaadoor", sum := "4674fe7c2cad150396c3701333087211c098483383e9273343afd2cf793d5b01", func := "astrolabe/astrolabelaw18.GraphTells", spec := "graphTells", unfollowed := true, recurses := true, named := ["astrolabe/ops.shapes"], apart := false, laid := [("astrolabe/ops.shapes", laid_astrolabe_ops_shapes)] }
def GraphTellsSaid : Prop := graphTellsRow.holds Tryd.pinned (OpenSpec.ofChange graphTellsSpec)

/-- ITS FALSE NEIGHBOUR: 'it returns false'. Refute it at one input. -/
def graphTellsWrong : ChangeSpec := { name := "graphTells", fn := fun _ => fun
  | [d1, d2, d3] => { results := [.lit (.bool false)], args := [d1, d2, d3] }
  | _ => none }
def GraphTellsWrongFalsely : Prop := graphTellsRow.holds Tryd.pinned (OpenSpec.ofChange graphTellsWrong)

/-- 'astrolabelaw18.GraphLoops': WHATEVER THE INPUT: true; the input reads as it did. -/
def graphLoopsSpec : ChangeSpec := { name := "graphLoops", fn := fun _ => fun
  | [d] => { results := [.lit (.bool true)], args := [d] }
  | _ => none }
def graphLoopsRow : OpenClaim := { program := "ytggiaopdgijgnaadoor", sum := "4674fe7c2cad150396c3701333087211c098483383e9273343afd2cf793d5b01", func := "astrolabe/astrolabelaw18.GraphLoops", spec := "graphLoops", unfollowed := true, recurses := true, named := ["astrolabe/ops.shapes"], apart := false, laid := [("astrolabe/ops.shapes", laid_astrolabe_ops_shapes)] }
def GraphLoopsSaid : Prop := graphLoopsRow.holds Tryd.pinned (OpenSpec.ofChange graphLoopsSpec)

/-- ITS FALSE NEIGHBOUR: 'it returns false'. Refute it at one input. -/
def graphLoopsWrong : ChangeSpec := { name := "graphLoops", fn := fun _ => fun
  | [d] => { results := [.lit (.bool false)], args := [d] }
  | _ => none }
def GraphLoopsWrongFalsely : Prop := graphLoopsRow.holds Tryd.pinned (OpenSpec.ofChange graphLoopsWrong)

/- THE SECOND FORM. 'bulk': how many values and letters a reading holds, each counted each time it is reached (what is shared counts as often as it is met; a slice's spare places count too). A statement '..UptoSaid' is the law's where the arguments, and the package variables that the reading takes, are together of bulk at most 1048576: NARROWER than '..Said'. Prove '..Said' where nothing that the law and all that it calls make is longer than what came in: it says more and counts as full. Else prove '..UptoSaid'. A law counts once. -/
mutual
def uptoBulk {H : Type} : DataW H → Nat
  | .lit (.string bytes) => bytes.length + 1
  | .lit _ => 1
  | .nil => 1
  | .ptr d => uptoBulk d + 1
  | .slice elems spare => uptoBulkAll elems + uptoBulkAll spare + 1
  | .agg parts => uptoBulkAll parts + 1
  | .iface _ d => uptoBulk d + 1
  | .map entries => uptoBulkEntries entries + 1
  | .held _ => 1
def uptoBulkAll {H : Type} : List (DataW H) → Nat
  | [] => 0
  | d :: r => uptoBulk d + uptoBulkAll r
def uptoBulkEntries {H : Type} : List (Lit × DataW H) → Nat
  | [] => 0
  | x :: r => uptoBulkEntry x + uptoBulkEntries r
def uptoBulkEntry {H : Type} : Lit × DataW H → Nat
  | (.string bytes, d) => bytes.length + uptoBulk d + 1
  | (_, d) => uptoBulk d + 1
 end
def uptoSmall : (H : Type) → List (DataW H) → Bool := fun _ ds => decide (uptoBulkAll ds ≤ 1048576)
def OpenSpec.upto (s : _root_.Go.ChangeSpec) : _root_.Go.OpenSpec := { _root_.Go.OpenSpec.ofChange s with cond := some uptoSmall }

/-- 'astrolabelaw18.GraphTells', WHERE WHAT IT READS IS OF BULK AT MOST 1048576: true; the input reads as it did. -/
def graphTellsUptoRow : OpenClaim := { program := "ytggiaopdgijgnaadoor", sum := "4674fe7c2cad150396c3701333087211c098483383e9273343afd2cf793d5b01", func := "astrolabe/astrolabelaw18.GraphTells", spec := "graphTells", unfollowed := true, recurses := true, named := ["astrolabe/ops.shapes"], apart := false, laid := [("astrolabe/ops.shapes", laid_astrolabe_ops_shapes)], narrowed := true }
def GraphTellsUptoSaid : Prop := graphTellsUptoRow.holds Tryd.pinned (OpenSpec.upto graphTellsSpec)

/-- 'astrolabelaw18.GraphLoops', WHERE WHAT IT READS IS OF BULK AT MOST 1048576: true; the input reads as it did. -/
def graphLoopsUptoRow : OpenClaim := { program := "ytggiaopdgijgnaadoor", sum := "4674fe7c2cad150396c3701333087211c098483383e9273343afd2cf793d5b01", func := "astrolabe/astrolabelaw18.GraphLoops", spec := "graphLoops", unfollowed := true, recurses := true, named := ["astrolabe/ops.shapes"], apart := false, laid := [("astrolabe/ops.shapes", laid_astrolabe_ops_shapes)], narrowed := true }
def GraphLoopsUptoSaid : Prop := graphLoopsUptoRow.holds Tryd.pinned (OpenSpec.upto graphLoopsSpec)

end Rows
end Go.Proofs.YtggiaopdgijgnaaDoor
