/-
  NARROWER THAN 'FOR EVERY INPUT', by the rows' own cells (each row's printed sentence says how): BuildLoops: laid.
  DERIVED. THE GIVEN ROWS OF THIS SEAT. 1 by the template 'for every input the law returns true; each argument reads behind the call as it read before'; 0 by the template 'total and deterministic' (their statements: YtgmphfagflhglaaGreatDoorTotals.lean).
  GIVEN WITH THE SEED: the statements are not yours to turn. If you find one false, say at which input.
  Laid BY PROGRAM, IN A SANDBOX (cutbox-rows.mjs): the forced cells as the released guide's own fill.sh prints them over the translation 7ea16fd467468d87… (all of the seat's roots in one cut). By AI agents, Wed Nov 11 2026. No macro, syntax, notation, axiom, sorry.
-/
import Derived.Test.YtgmphfagflhglaaGreatDoorChecked
import GoSem.Claim
import GoSem.ClaimJoined
import GoSem.ClaimMapViews
import Derived.JoinedTies
import Derived.KernelRfl
namespace Go.Proofs.YtgmphfagflhglaaGreatDoor
/- THE CELL 'sum', in the pinned program and in every row, IS THE sha256 OF THE DUMP (.gsa) THAT YtgmphfagflhglaaGreatDoorProg.lean LOADS. Nothing in Lean hashes anything: it is a label: what it is worth is what the hold of that sum in a sandbox is worth. -/
noncomputable def Tryz.pinned : Pinned := { name := "ytgmphfagflhglaagreatdoor", sum := "7ea16fd467468d87f477872fc4d1f58601b3665ed1b7a0e6d9c90d1a53faba87", checked := Tryz.checked }
namespace Rows
def none {H : Type} : Left H := { results := [], args := [] }

/- WHAT THE LISTED PACKAGE-LEVEL VARIABLES READ AS WHEN THE CALL BEGINS. Each datum BY PROGRAM (the guide's laid-datum.mjs) off the statement by which the dump's own 'gosem.cut.vars' lays the variable. In a bare row this is a premise. The card (YtgmphfagflhglaaGreatDoorCards.lean) ties it to the program's text. -/
def laid_errors_errorType {H : Type} : DataW H := .iface "internal/reflectlite.rtype" (.agg [.ptr (.lit (.string [101, 114, 114, 111, 114]))])
def laid_astrolabe_ops_shapes {H : Type} : DataW H := .agg [.agg [.lit (.int .i64 1), .lit (.int .i64 23), .lit (.string [100, 97, 98, 45])], .agg [.lit (.int .i64 24), .lit (.int .i64 30), .lit (.string [100, 97, 45, 45])], .agg [.lit (.int .i64 31), .lit (.int .i64 31), .lit (.string [100, 97, 45, 115])], .agg [.lit (.int .i64 32), .lit (.int .i64 32), .lit (.string [100, 97, 45, 117])], .agg [.lit (.int .i64 33), .lit (.int .i64 33), .lit (.string [100, 45, 45, 117])], .agg [.lit (.int .i64 34), .lit (.int .i64 38), .lit (.string [100, 97, 45, 117])], .agg [.lit (.int .i64 39), .lit (.int .i64 39), .lit (.string [45, 45, 45, 117])], .agg [.lit (.int .i64 40), .lit (.int .i64 40), .lit (.string [100, 45, 45, 117])], .agg [.lit (.int .i64 41), .lit (.int .i64 41), .lit (.string [45, 97, 45, 45])], .agg [.lit (.int .i64 42), .lit (.int .i64 43), .lit (.string [45, 45, 45, 45])]]
def laid_astrolabe_ops_costs {H : Type} : DataW H := .agg [.lit (.int .i64 0), .lit (.int .i64 0), .lit (.int .i64 0), .lit (.int .i64 0), .lit (.int .i64 0), .lit (.int .i64 0), .lit (.int .i64 0), .lit (.int .i64 0), .lit (.int .i64 0), .lit (.int .i64 0), .lit (.int .i64 0), .lit (.int .i64 0), .lit (.int .i64 0), .lit (.int .i64 0), .lit (.int .i64 0), .lit (.int .i64 0), .lit (.int .i64 0), .lit (.int .i64 0), .lit (.int .i64 3), .lit (.int .i64 3), .lit (.int .i64 3), .lit (.int .i64 3), .lit (.int .i64 2), .lit (.int .i64 2), .lit (.int .i64 0), .lit (.int .i64 0), .lit (.int .i64 0), .lit (.int .i64 0), .lit (.int .i64 0), .lit (.int .i64 0), .lit (.int .i64 0), .lit (.int .i64 0), .lit (.int .i64 0), .lit (.int .i64 0), .lit (.int .i64 2), .lit (.int .i64 2), .lit (.int .i64 0), .lit (.int .i64 0), .lit (.int .i64 0), .lit (.int .i64 3), .lit (.int .i64 3), .lit (.int .i64 3), .lit (.int .i64 0), .lit (.int .i64 0)]

/-- 'astrolabelaw21.BuildLoops': WHATEVER THE INPUT: true; the input reads as it did. -/
def buildLoopsSpec : ChangeSpec := { name := "buildLoops", fn := fun _ => fun
  | [d1, d2, d3] => { results := [.lit (.bool true)], args := [d1, d2, d3] }
  | _ => none }
def buildLoopsRow : OpenClaim := { program := "ytgmphfagflhglaagreatdoor", sum := "7ea16fd467468d87f477872fc4d1f58601b3665ed1b7a0e6d9c90d1a53faba87", func := "astrolabe/astrolabelaw21.BuildLoops", spec := "buildLoops", inPlace := ["internal/reflectlite.ValueOf", "(internal/reflectlite.Value).Type", "(internal/reflectlite.Value).IsNil", "internal/reflectlite.TypeOf", "(internal/reflectlite.Value).Elem", "(internal/reflectlite.Value).Set"], unfollowed := true, recurses := true, named := ["astrolabe/ops.shapes", "errors.errorType", "astrolabe/ops.costs"], apart := false, laid := [("errors.errorType", laid_errors_errorType), ("astrolabe/ops.shapes", laid_astrolabe_ops_shapes), ("astrolabe/ops.costs", laid_astrolabe_ops_costs)] }
def BuildLoopsSaid : Prop := buildLoopsRow.holds Tryz.pinned (OpenSpec.ofChange buildLoopsSpec)

/-- ITS FALSE NEIGHBOUR: 'it returns false'. Refute it at one input. -/
def buildLoopsWrong : ChangeSpec := { name := "buildLoops", fn := fun _ => fun
  | [d1, d2, d3] => { results := [.lit (.bool false)], args := [d1, d2, d3] }
  | _ => none }
def BuildLoopsWrongFalsely : Prop := buildLoopsRow.holds Tryz.pinned (OpenSpec.ofChange buildLoopsWrong)

/- THE SECOND FORM. 'bulk': how many values and letters a reading holds, each counted each time it is reached (what is shared counts as often as it is met; a slice's spare places count too). A statement '..UptoSaid' is the law's where the arguments, and the package variables that the reading takes, are together of bulk at most 1048576: NARROWER than '..Said'. Prove '..Said' where nothing that the law and all that it calls make is longer than what came in: it says more and counts as full. Else prove '..UptoSaid'. A law counts once. -/
mutual
def uptoBulk {H : Type} : DataW H → Nat
  | .lit (.string bytes) => bytes.length + 1
  | .lit _ => 1
  | .nil => 1
  | .ptr d => uptoBulk d + 1
  | .slice elems spare => uptoBulkAll elems + uptoBulkAll spare + 1
  | .agg parts => uptoBulkAll parts + 1
  | .iface _ d => uptoBulk d + 1
  | .map entries => uptoBulkEntries entries + 1
  | .held _ => 1
def uptoBulkAll {H : Type} : List (DataW H) → Nat
  | [] => 0
  | d :: r => uptoBulk d + uptoBulkAll r
def uptoBulkEntries {H : Type} : List (Lit × DataW H) → Nat
  | [] => 0
  | x :: r => uptoBulkEntry x + uptoBulkEntries r
def uptoBulkEntry {H : Type} : Lit × DataW H → Nat
  | (.string bytes, d) => bytes.length + uptoBulk d + 1
  | (_, d) => uptoBulk d + 1
 end
def uptoSmall : (H : Type) → List (DataW H) → Bool := fun _ ds => decide (uptoBulkAll ds ≤ 1048576)
def OpenSpec.upto (s : _root_.Go.ChangeSpec) : _root_.Go.OpenSpec := { _root_.Go.OpenSpec.ofChange s with cond := some uptoSmall }

/-- 'astrolabelaw21.BuildLoops', WHERE WHAT IT READS IS OF BULK AT MOST 1048576: true; the input reads as it did. -/
def buildLoopsUptoRow : OpenClaim := { program := "ytgmphfagflhglaagreatdoor", sum := "7ea16fd467468d87f477872fc4d1f58601b3665ed1b7a0e6d9c90d1a53faba87", func := "astrolabe/astrolabelaw21.BuildLoops", spec := "buildLoops", inPlace := ["internal/reflectlite.ValueOf", "(internal/reflectlite.Value).Type", "(internal/reflectlite.Value).IsNil", "internal/reflectlite.TypeOf", "(internal/reflectlite.Value).Elem", "(internal/reflectlite.Value).Set"], unfollowed := true, recurses := true, named := ["astrolabe/ops.shapes", "errors.errorType", "astrolabe/ops.costs"], apart := false, laid := [("errors.errorType", laid_errors_errorType), ("astrolabe/ops.shapes", laid_astrolabe_ops_shapes), ("astrolabe/ops.costs", laid_astrolabe_ops_costs)], narrowed := true }
def BuildLoopsUptoSaid : Prop := buildLoopsUptoRow.holds Tryz.pinned (OpenSpec.upto buildLoopsSpec)

end Rows
end Go.Proofs.YtgmphfagflhglaaGreatDoor
