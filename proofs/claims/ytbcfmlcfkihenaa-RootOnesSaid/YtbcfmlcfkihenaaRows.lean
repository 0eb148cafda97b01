/-
  No cell of these rows narrows 'for every input' (looked for: loops, veiled, ifaces, maps, wideKeys, modest, calm, conditions, laid).
  DERIVED. THE GIVEN ROWS OF THIS SEAT. 6 by the template 'for every input the law returns true; each argument reads behind the call as it read before'; 0 by the template 'total and deterministic' (their statements: YtbcfmlcfkihenaaTotals.lean).
  GIVEN WITH THE SEED: the statements are not yours to turn. If you find one false, say at which input.
  Laid BY PROGRAM, IN A SANDBOX (cutbox-rows.mjs): the forced cells as the released guide's own fill.sh prints them over the translation cfdbbf43aeea378b… (all of the seat's roots in one cut). By AI agents, Wed Nov 11 2026. No macro, syntax, notation, axiom, sorry.
-/
import Derived.Test.YtbcfmlcfkihenaaChecked
import GoSem.Claim
import GoSem.ClaimJoined
import GoSem.ClaimMapViews
import Derived.JoinedTies
import Derived.KernelRfl
namespace Go.Proofs.Ytbcfmlcfkihenaa
/- THE CELL 'sum', in the pinned program and in every row, IS THE sha256 OF THE DUMP (.gsa) THAT YtbcfmlcfkihenaaProg.lean LOADS. Nothing in Lean hashes anything: it is a label: what it is worth is what the hold of that sum in a sandbox is worth. -/
noncomputable def Try.pinned : Pinned := { name := "ytbcfmlcfkihenaa", sum := "cfdbbf43aeea378b4137ef365b89344a745a70537705f5e945042310edada4a7", checked := Try.checked }
namespace Rows
def none {H : Type} : Left H := { results := [], args := [] }

/-- 'astrolabelaw08.RootTells': WHATEVER THE INPUT: true; the input reads as it did. -/
def rootTellsSpec : ChangeSpec := { name := "rootTells", fn := fun _ => fun
  | [d1, d2, d3] => { results := [.lit (.bool true)], args := [d1, d2, d3] }
  | _ => none }
def rootTellsRow : OpenClaim := { program := "ytbcfmlcfkihenaa", sum := "cfdbbf43aeea378b4137ef365b89344a745a70537705f5e945042310edada4a7", func := "astrolabe/astrolabelaw08.RootTells", spec := "rootTells", unfollowed := true, recurses := true, apart := false }
def RootTellsSaid : Prop := rootTellsRow.holds Try.pinned (OpenSpec.ofChange rootTellsSpec)

/-- ITS FALSE NEIGHBOUR: 'it returns false'. Refute it at one input. -/
def rootTellsWrong : ChangeSpec := { name := "rootTells", fn := fun _ => fun
  | [d1, d2, d3] => { results := [.lit (.bool false)], args := [d1, d2, d3] }
  | _ => none }
def RootTellsWrongFalsely : Prop := rootTellsRow.holds Try.pinned (OpenSpec.ofChange rootTellsWrong)

/-- 'astrolabelaw08.RootTrue': WHATEVER THE INPUT: true; the input reads as it did. -/
def rootTrueSpec : ChangeSpec := { name := "rootTrue", fn := fun _ => fun
  | [d] => { results := [.lit (.bool true)], args := [d] }
  | _ => none }
def rootTrueRow : OpenClaim := { program := "ytbcfmlcfkihenaa", sum := "cfdbbf43aeea378b4137ef365b89344a745a70537705f5e945042310edada4a7", func := "astrolabe/astrolabelaw08.RootTrue", spec := "rootTrue", unfollowed := true, recurses := true, apart := false }
def RootTrueSaid : Prop := rootTrueRow.holds Try.pinned (OpenSpec.ofChange rootTrueSpec)

/-- ITS FALSE NEIGHBOUR: 'it returns false'. Refute it at one input. -/
def rootTrueWrong : ChangeSpec := { name := "rootTrue", fn := fun _ => fun
  | [d] => { results := [.lit (.bool false)], args := [d] }
  | _ => none }
def RootTrueWrongFalsely : Prop := rootTrueRow.holds Try.pinned (OpenSpec.ofChange rootTrueWrong)

/-- 'astrolabelaw08.RootSqrt': WHATEVER THE INPUT: true; the input reads as it did. -/
def rootSqrtSpec : ChangeSpec := { name := "rootSqrt", fn := fun _ => fun
  | [d] => { results := [.lit (.bool true)], args := [d] }
  | _ => none }
def rootSqrtRow : OpenClaim := { program := "ytbcfmlcfkihenaa", sum := "cfdbbf43aeea378b4137ef365b89344a745a70537705f5e945042310edada4a7", func := "astrolabe/astrolabelaw08.RootSqrt", spec := "rootSqrt", unfollowed := true, recurses := true, apart := false }
def RootSqrtSaid : Prop := rootSqrtRow.holds Try.pinned (OpenSpec.ofChange rootSqrtSpec)

/-- ITS FALSE NEIGHBOUR: 'it returns false'. Refute it at one input. -/
def rootSqrtWrong : ChangeSpec := { name := "rootSqrt", fn := fun _ => fun
  | [d] => { results := [.lit (.bool false)], args := [d] }
  | _ => none }
def RootSqrtWrongFalsely : Prop := rootSqrtRow.holds Try.pinned (OpenSpec.ofChange rootSqrtWrong)

/-- 'astrolabelaw08.RootLevels': WHATEVER THE INPUT: true; the input reads as it did. -/
def rootLevelsSpec : ChangeSpec := { name := "rootLevels", fn := fun _ => fun
  | [d] => { results := [.lit (.bool true)], args := [d] }
  | _ => none }
def rootLevelsRow : OpenClaim := { program := "ytbcfmlcfkihenaa", sum := "cfdbbf43aeea378b4137ef365b89344a745a70537705f5e945042310edada4a7", func := "astrolabe/astrolabelaw08.RootLevels", spec := "rootLevels", unfollowed := true, recurses := true, apart := false }
def RootLevelsSaid : Prop := rootLevelsRow.holds Try.pinned (OpenSpec.ofChange rootLevelsSpec)

/-- ITS FALSE NEIGHBOUR: 'it returns false'. Refute it at one input. -/
def rootLevelsWrong : ChangeSpec := { name := "rootLevels", fn := fun _ => fun
  | [d] => { results := [.lit (.bool false)], args := [d] }
  | _ => none }
def RootLevelsWrongFalsely : Prop := rootLevelsRow.holds Try.pinned (OpenSpec.ofChange rootLevelsWrong)

/-- 'astrolabelaw08.RootRecips': WHATEVER THE INPUT: true; the input reads as it did. -/
def rootRecipsSpec : ChangeSpec := { name := "rootRecips", fn := fun _ => fun
  | [d] => { results := [.lit (.bool true)], args := [d] }
  | _ => none }
def rootRecipsRow : OpenClaim := { program := "ytbcfmlcfkihenaa", sum := "cfdbbf43aeea378b4137ef365b89344a745a70537705f5e945042310edada4a7", func := "astrolabe/astrolabelaw08.RootRecips", spec := "rootRecips", unfollowed := true, recurses := true, apart := false }
def RootRecipsSaid : Prop := rootRecipsRow.holds Try.pinned (OpenSpec.ofChange rootRecipsSpec)

/-- ITS FALSE NEIGHBOUR: 'it returns false'. Refute it at one input. -/
def rootRecipsWrong : ChangeSpec := { name := "rootRecips", fn := fun _ => fun
  | [d] => { results := [.lit (.bool false)], args := [d] }
  | _ => none }
def RootRecipsWrongFalsely : Prop := rootRecipsRow.holds Try.pinned (OpenSpec.ofChange rootRecipsWrong)

/-- 'astrolabelaw08.RootOnes': WHATEVER THE INPUT: true; the input reads as it did. -/
def rootOnesSpec : ChangeSpec := { name := "rootOnes", fn := fun _ => fun
  | [d] => { results := [.lit (.bool true)], args := [d] }
  | _ => none }
def rootOnesRow : OpenClaim := { program := "ytbcfmlcfkihenaa", sum := "cfdbbf43aeea378b4137ef365b89344a745a70537705f5e945042310edada4a7", func := "astrolabe/astrolabelaw08.RootOnes", spec := "rootOnes", unfollowed := true, recurses := true, apart := false }
def RootOnesSaid : Prop := rootOnesRow.holds Try.pinned (OpenSpec.ofChange rootOnesSpec)

/-- ITS FALSE NEIGHBOUR: 'it returns false'. Refute it at one input. -/
def rootOnesWrong : ChangeSpec := { name := "rootOnes", fn := fun _ => fun
  | [d] => { results := [.lit (.bool false)], args := [d] }
  | _ => none }
def RootOnesWrongFalsely : Prop := rootOnesRow.holds Try.pinned (OpenSpec.ofChange rootOnesWrong)

/- THE SECOND FORM. 'bulk': how many values and letters a reading holds, each counted each time it is reached (what is shared counts as often as it is met; a slice's spare places count too). A statement '..UptoSaid' is the law's where the arguments, and the package variables that the reading takes, are together of bulk at most 1048576: NARROWER than '..Said'. Prove '..Said' where nothing that the law and all that it calls make is longer than what came in: it says more and counts as full. Else prove '..UptoSaid'. A law counts once. -/
mutual
def uptoBulk {H : Type} : DataW H → Nat
  | .lit (.string bytes) => bytes.length + 1
  | .lit _ => 1
  | .nil => 1
  | .ptr d => uptoBulk d + 1
  | .slice elems spare => uptoBulkAll elems + uptoBulkAll spare + 1
  | .agg parts => uptoBulkAll parts + 1
  | .iface _ d => uptoBulk d + 1
  | .map entries => uptoBulkEntries entries + 1
  | .held _ => 1
def uptoBulkAll {H : Type} : List (DataW H) → Nat
  | [] => 0
  | d :: r => uptoBulk d + uptoBulkAll r
def uptoBulkEntries {H : Type} : List (Lit × DataW H) → Nat
  | [] => 0
  | x :: r => uptoBulkEntry x + uptoBulkEntries r
def uptoBulkEntry {H : Type} : Lit × DataW H → Nat
  | (.string bytes, d) => bytes.length + uptoBulk d + 1
  | (_, d) => uptoBulk d + 1
 end
def uptoSmall : (H : Type) → List (DataW H) → Bool := fun _ ds => decide (uptoBulkAll ds ≤ 1048576)
def OpenSpec.upto (s : _root_.Go.ChangeSpec) : _root_.Go.OpenSpec := { _root_.Go.OpenSpec.ofChange s with cond := some uptoSmall }

/-- 'astrolabelaw08.RootTells', WHERE WHAT IT READS IS OF BULK AT MOST 1048576: true; the input reads as it did. -/
def rootTellsUptoRow : OpenClaim := { program := "ytbcfmlcfkihenaa", sum := "cfdbbf43aeea378b4137ef365b89344a745a70537705f5e945042310edada4a7", func := "astrolabe/astrolabelaw08.RootTells", spec := "rootTells", unfollowed := true, recurses := true, apart := false, narrowed := true }
def RootTellsUptoSaid : Prop := rootTellsUptoRow.holds Try.pinned (OpenSpec.upto rootTellsSpec)

/-- 'astrolabelaw08.RootTrue', WHERE WHAT IT READS IS OF BULK AT MOST 1048576: true; the input reads as it did. -/
def rootTrueUptoRow : OpenClaim := { program := "ytbcfmlcfkihenaa", sum := "cfdbbf43aeea378b4137ef365b89344a745a70537705f5e945042310edada4a7", func := "astrolabe/astrolabelaw08.RootTrue", spec := "rootTrue", unfollowed := true, recurses := true, apart := false, narrowed := true }
def RootTrueUptoSaid : Prop := rootTrueUptoRow.holds Try.pinned (OpenSpec.upto rootTrueSpec)

/-- 'astrolabelaw08.RootSqrt', WHERE WHAT IT READS IS OF BULK AT MOST 1048576: true; the input reads as it did. -/
def rootSqrtUptoRow : OpenClaim := { program := "ytbcfmlcfkihenaa", sum := "cfdbbf43aeea378b4137ef365b89344a745a70537705f5e945042310edada4a7", func := "astrolabe/astrolabelaw08.RootSqrt", spec := "rootSqrt", unfollowed := true, recurses := true, apart := false, narrowed := true }
def RootSqrtUptoSaid : Prop := rootSqrtUptoRow.holds Try.pinned (OpenSpec.upto rootSqrtSpec)

/-- 'astrolabelaw08.RootLevels', WHERE WHAT IT READS IS OF BULK AT MOST 1048576: true; the input reads as it did. -/
def rootLevelsUptoRow : OpenClaim := { program := "ytbcfmlcfkihenaa", sum := "cfdbbf43aeea378b4137ef365b89344a745a70537705f5e945042310edada4a7", func := "astrolabe/astrolabelaw08.RootLevels", spec := "rootLevels", unfollowed := true, recurses := true, apart := false, narrowed := true }
def RootLevelsUptoSaid : Prop := rootLevelsUptoRow.holds Try.pinned (OpenSpec.upto rootLevelsSpec)

/-- 'astrolabelaw08.RootRecips', WHERE WHAT IT READS IS OF BULK AT MOST 1048576: true; the input reads as it did. -/
def rootRecipsUptoRow : OpenClaim := { program := "ytbcfmlcfkihenaa", sum := "cfdbbf43aeea378b4137ef365b89344a745a70537705f5e945042310edada4a7", func := "astrolabe/astrolabelaw08.RootRecips", spec := "rootRecips", unfollowed := true, recurses := true, apart := false, narrowed := true }
def RootRecipsUptoSaid : Prop := rootRecipsUptoRow.holds Try.pinned (OpenSpec.upto rootRecipsSpec)

/-- 'astrolabelaw08.RootOnes', WHERE WHAT IT READS IS OF BULK AT MOST 1048576: true; the input reads as it did. -/
def rootOnesUptoRow : OpenClaim := { program := "ytbcfmlcfkihenaa", sum := "cfdbbf43aeea378b4137ef365b89344a745a70537705f5e945042310edada4a7", func := "astrolabe/astrolabelaw08.RootOnes", spec := "rootOnes", unfollowed := true, recurses := true, apart := false, narrowed := true }
def RootOnesUptoSaid : Prop := rootOnesUptoRow.holds Try.pinned (OpenSpec.upto rootOnesSpec)

end Rows
end Go.Proofs.Ytbcfmlcfkihenaa
