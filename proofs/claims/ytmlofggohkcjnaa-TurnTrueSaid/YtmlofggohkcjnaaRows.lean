/-
  No cell of these rows narrows 'for every input' (looked for: loops, veiled, ifaces, maps, wideKeys, modest, calm, conditions, laid).
  DERIVED. THE GIVEN ROWS OF THIS SEAT. 4 by the template 'for every input the law returns true; each argument reads behind the call as it read before'; 0 by the template 'total and deterministic' (their statements: YtmlofggohkcjnaaTotals.lean).
  GIVEN WITH THE SEED: the statements are not yours to turn. If you find one false, say at which input.
  Laid BY PROGRAM, IN A SANDBOX (cutbox-rows.mjs): the forced cells as the released guide's own fill.sh prints them over the translation cd06b7191d751718… (all of the seat's roots in one cut). By AI agents, Wed Nov 11 2026. No macro, syntax, notation, axiom, sorry.
-/
import Derived.Test.YtmlofggohkcjnaaChecked
import GoSem.Claim
import GoSem.ClaimJoined
import GoSem.ClaimMapViews
import Derived.JoinedTies
import Derived.KernelRfl
namespace Go.Proofs.Ytmlofggohkcjnaa
/- THE CELL 'sum', in the pinned program and in every row, IS THE sha256 OF THE DUMP (.gsa) THAT YtmlofggohkcjnaaProg.lean LOADS. Nothing in Lean hashes anything: it is a label: what it is worth is what the hold of that sum in a sandbox is worth. -/
noncomputable def Try.pinned : Pinned := { name := "ytmlofggohkcjnaa", sum := "cd06b7191d7517188f3ea0213ba22efafad6536f0390cf302135de2e3f0671cd", checked := Try.checked }
namespace Rows
def none {H : Type} : Left H := { results := [], args := [] }

/-- 'astrolabelaw09.TurnTrue': WHATEVER THE INPUT: true; the input reads as it did. -/
def turnTrueSpec : ChangeSpec := { name := "turnTrue", fn := fun _ => fun
  | [d1, d2] => { results := [.lit (.bool true)], args := [d1, d2] }
  | _ => none }
def turnTrueRow : OpenClaim := { program := "ytmlofggohkcjnaa", sum := "cd06b7191d7517188f3ea0213ba22efafad6536f0390cf302135de2e3f0671cd", func := "astrolabe/astrolabelaw09.TurnTrue", spec := "turnTrue", unfollowed := true, recurses := true, apart := false }
def TurnTrueSaid : Prop := turnTrueRow.holds Try.pinned (OpenSpec.ofChange turnTrueSpec)

/-- ITS FALSE NEIGHBOUR: 'it returns false'. Refute it at one input. -/
def turnTrueWrong : ChangeSpec := { name := "turnTrue", fn := fun _ => fun
  | [d1, d2] => { results := [.lit (.bool false)], args := [d1, d2] }
  | _ => none }
def TurnTrueWrongFalsely : Prop := turnTrueRow.holds Try.pinned (OpenSpec.ofChange turnTrueWrong)

/-- 'astrolabelaw09.TurnFolds': WHATEVER THE INPUT: true; the input reads as it did. -/
def turnFoldsSpec : ChangeSpec := { name := "turnFolds", fn := fun _ => fun
  | [d1, d2] => { results := [.lit (.bool true)], args := [d1, d2] }
  | _ => none }
def turnFoldsRow : OpenClaim := { program := "ytmlofggohkcjnaa", sum := "cd06b7191d7517188f3ea0213ba22efafad6536f0390cf302135de2e3f0671cd", func := "astrolabe/astrolabelaw09.TurnFolds", spec := "turnFolds", unfollowed := true, recurses := true, apart := false }
def TurnFoldsSaid : Prop := turnFoldsRow.holds Try.pinned (OpenSpec.ofChange turnFoldsSpec)

/-- ITS FALSE NEIGHBOUR: 'it returns false'. Refute it at one input. -/
def turnFoldsWrong : ChangeSpec := { name := "turnFolds", fn := fun _ => fun
  | [d1, d2] => { results := [.lit (.bool false)], args := [d1, d2] }
  | _ => none }
def TurnFoldsWrongFalsely : Prop := turnFoldsRow.holds Try.pinned (OpenSpec.ofChange turnFoldsWrong)

/-- 'astrolabelaw09.TurnScales': WHATEVER THE INPUT: true; the input reads as it did. -/
def turnScalesSpec : ChangeSpec := { name := "turnScales", fn := fun _ => fun
  | [d1, d2, d3] => { results := [.lit (.bool true)], args := [d1, d2, d3] }
  | _ => none }
def turnScalesRow : OpenClaim := { program := "ytmlofggohkcjnaa", sum := "cd06b7191d7517188f3ea0213ba22efafad6536f0390cf302135de2e3f0671cd", func := "astrolabe/astrolabelaw09.TurnScales", spec := "turnScales", unfollowed := true, recurses := true, apart := false }
def TurnScalesSaid : Prop := turnScalesRow.holds Try.pinned (OpenSpec.ofChange turnScalesSpec)

/-- ITS FALSE NEIGHBOUR: 'it returns false'. Refute it at one input. -/
def turnScalesWrong : ChangeSpec := { name := "turnScales", fn := fun _ => fun
  | [d1, d2, d3] => { results := [.lit (.bool false)], args := [d1, d2, d3] }
  | _ => none }
def TurnScalesWrongFalsely : Prop := turnScalesRow.holds Try.pinned (OpenSpec.ofChange turnScalesWrong)

/-- 'astrolabelaw09.TurnRound': WHATEVER THE INPUT: true; the input reads as it did. -/
def turnRoundSpec : ChangeSpec := { name := "turnRound", fn := fun _ => fun
  | [d] => { results := [.lit (.bool true)], args := [d] }
  | _ => none }
def turnRoundRow : OpenClaim := { program := "ytmlofggohkcjnaa", sum := "cd06b7191d7517188f3ea0213ba22efafad6536f0390cf302135de2e3f0671cd", func := "astrolabe/astrolabelaw09.TurnRound", spec := "turnRound", unfollowed := true, recurses := true, apart := false }
def TurnRoundSaid : Prop := turnRoundRow.holds Try.pinned (OpenSpec.ofChange turnRoundSpec)

/-- ITS FALSE NEIGHBOUR: 'it returns false'. Refute it at one input. -/
def turnRoundWrong : ChangeSpec := { name := "turnRound", fn := fun _ => fun
  | [d] => { results := [.lit (.bool false)], args := [d] }
  | _ => none }
def TurnRoundWrongFalsely : Prop := turnRoundRow.holds Try.pinned (OpenSpec.ofChange turnRoundWrong)

/- THE SECOND FORM. 'bulk': how many values and letters a reading holds, each counted each time it is reached (what is shared counts as often as it is met; a slice's spare places count too). A statement '..UptoSaid' is the law's where the arguments, and the package variables that the reading takes, are together of bulk at most 1048576: NARROWER than '..Said'. Prove '..Said' where nothing that the law and all that it calls make is longer than what came in: it says more and counts as full. Else prove '..UptoSaid'. A law counts once. -/
mutual
def uptoBulk {H : Type} : DataW H → Nat
  | .lit (.string bytes) => bytes.length + 1
  | .lit _ => 1
  | .nil => 1
  | .ptr d => uptoBulk d + 1
  | .slice elems spare => uptoBulkAll elems + uptoBulkAll spare + 1
  | .agg parts => uptoBulkAll parts + 1
  | .iface _ d => uptoBulk d + 1
  | .map entries => uptoBulkEntries entries + 1
  | .held _ => 1
def uptoBulkAll {H : Type} : List (DataW H) → Nat
  | [] => 0
  | d :: r => uptoBulk d + uptoBulkAll r
def uptoBulkEntries {H : Type} : List (Lit × DataW H) → Nat
  | [] => 0
  | x :: r => uptoBulkEntry x + uptoBulkEntries r
def uptoBulkEntry {H : Type} : Lit × DataW H → Nat
  | (.string bytes, d) => bytes.length + uptoBulk d + 1
  | (_, d) => uptoBulk d + 1
 end
def uptoSmall : (H : Type) → List (DataW H) → Bool := fun _ ds => decide (uptoBulkAll ds ≤ 1048576)
def OpenSpec.upto (s : _root_.Go.ChangeSpec) : _root_.Go.OpenSpec := { _root_.Go.OpenSpec.ofChange s with cond := some uptoSmall }

/-- 'astrolabelaw09.TurnTrue', WHERE WHAT IT READS IS OF BULK AT MOST 1048576: true; the input reads as it did. -/
def turnTrueUptoRow : OpenClaim := { program := "ytmlofggohkcjnaa", sum := "cd06b7191d7517188f3ea0213ba22efafad6536f0390cf302135de2e3f0671cd", func := "astrolabe/astrolabelaw09.TurnTrue", spec := "turnTrue", unfollowed := true, recurses := true, apart := false, narrowed := true }
def TurnTrueUptoSaid : Prop := turnTrueUptoRow.holds Try.pinned (OpenSpec.upto turnTrueSpec)

/-- 'astrolabelaw09.TurnFolds', WHERE WHAT IT READS IS OF BULK AT MOST 1048576: true; the input reads as it did. -/
def turnFoldsUptoRow : OpenClaim := { program := "ytmlofggohkcjnaa", sum := "cd06b7191d7517188f3ea0213ba22efafad6536f0390cf302135de2e3f0671cd", func := "astrolabe/astrolabelaw09.TurnFolds", spec := "turnFolds", unfollowed := true, recurses := true, apart := false, narrowed := true }
def TurnFoldsUptoSaid : Prop := turnFoldsUptoRow.holds Try.pinned (OpenSpec.upto turnFoldsSpec)

/-- 'astrolabelaw09.TurnScales', WHERE WHAT IT READS IS OF BULK AT MOST 1048576: true; the input reads as it did. -/
def turnScalesUptoRow : OpenClaim := { program := "ytmlofggohkcjnaa", sum := "cd06b7191d7517188f3ea0213ba22efafad6536f0390cf302135de2e3f0671cd", func := "astrolabe/astrolabelaw09.TurnScales", spec := "turnScales", unfollowed := true, recurses := true, apart := false, narrowed := true }
def TurnScalesUptoSaid : Prop := turnScalesUptoRow.holds Try.pinned (OpenSpec.upto turnScalesSpec)

/-- 'astrolabelaw09.TurnRound', WHERE WHAT IT READS IS OF BULK AT MOST 1048576: true; the input reads as it did. -/
def turnRoundUptoRow : OpenClaim := { program := "ytmlofggohkcjnaa", sum := "cd06b7191d7517188f3ea0213ba22efafad6536f0390cf302135de2e3f0671cd", func := "astrolabe/astrolabelaw09.TurnRound", spec := "turnRound", unfollowed := true, recurses := true, apart := false, narrowed := true }
def TurnRoundUptoSaid : Prop := turnRoundUptoRow.holds Try.pinned (OpenSpec.upto turnRoundSpec)

end Rows
end Go.Proofs.Ytmlofggohkcjnaa
