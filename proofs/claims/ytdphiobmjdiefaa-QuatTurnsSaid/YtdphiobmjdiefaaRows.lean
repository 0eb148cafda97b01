/-
  No cell of these rows narrows 'for every input' (looked for: loops, veiled, ifaces, maps, wideKeys, modest, calm, conditions, laid).
  DERIVED. THE GIVEN ROWS OF THIS SEAT. 3 by the template 'for every input the law returns true; each argument reads behind the call as it read before'; 0 by the template 'total and deterministic' (their statements: YtdphiobmjdiefaaTotals.lean).
  GIVEN WITH THE SEED: the statements are not yours to turn. If you find one false, say at which input.
  Laid BY PROGRAM, IN A SANDBOX (cutbox-rows.mjs): the forced cells as the released guide's own fill.sh prints them over the translation 19139912875f708b… (all of the seat's roots in one cut). By AI agents, Wed Nov 11 2026. No macro, syntax, notation, axiom, sorry.
-/
import Derived.Test.YtdphiobmjdiefaaChecked
import GoSem.Claim
import GoSem.ClaimJoined
import GoSem.ClaimMapViews
import Derived.JoinedTies
import Derived.KernelRfl
namespace Go.Proofs.Ytdphiobmjdiefaa
/- THE CELL 'sum', in the pinned program and in every row, IS THE sha256 OF THE DUMP (.gsa) THAT YtdphiobmjdiefaaProg.lean LOADS. Nothing in Lean hashes anything: it is a label: what it is worth is what the hold of that sum in a sandbox is worth. -/
noncomputable def Try.pinned : Pinned := { name := "ytdphiobmjdiefaa", sum := "19139912875f708b29d57ed5dc7b29c4dea1217dd474ecf8dd4478c4856d5467", checked := Try.checked }
namespace Rows
def none {H : Type} : Left H := { results := [], args := [] }

/-- 'astrolabelaw10.QuatUnits': WHATEVER THE INPUT: true; the input reads as it did. -/
def quatUnitsSpec : ChangeSpec := { name := "quatUnits", fn := fun _ => fun
  | [d] => { results := [.lit (.bool true)], args := [d] }
  | _ => none }
def quatUnitsRow : OpenClaim := { program := "ytdphiobmjdiefaa", sum := "19139912875f708b29d57ed5dc7b29c4dea1217dd474ecf8dd4478c4856d5467", func := "astrolabe/astrolabelaw10.QuatUnits", spec := "quatUnits", unfollowed := true, recurses := true, apart := false }
def QuatUnitsSaid : Prop := quatUnitsRow.holds Try.pinned (OpenSpec.ofChange quatUnitsSpec)

/-- ITS FALSE NEIGHBOUR: 'it returns false'. Refute it at one input. -/
def quatUnitsWrong : ChangeSpec := { name := "quatUnits", fn := fun _ => fun
  | [d] => { results := [.lit (.bool false)], args := [d] }
  | _ => none }
def QuatUnitsWrongFalsely : Prop := quatUnitsRow.holds Try.pinned (OpenSpec.ofChange quatUnitsWrong)

/-- 'astrolabelaw10.QuatOnes': WHATEVER THE INPUT: true; the input reads as it did. -/
def quatOnesSpec : ChangeSpec := { name := "quatOnes", fn := fun _ => fun
  | [d1, d2] => { results := [.lit (.bool true)], args := [d1, d2] }
  | _ => none }
def quatOnesRow : OpenClaim := { program := "ytdphiobmjdiefaa", sum := "19139912875f708b29d57ed5dc7b29c4dea1217dd474ecf8dd4478c4856d5467", func := "astrolabe/astrolabelaw10.QuatOnes", spec := "quatOnes", unfollowed := true, recurses := true, apart := false }
def QuatOnesSaid : Prop := quatOnesRow.holds Try.pinned (OpenSpec.ofChange quatOnesSpec)

/-- ITS FALSE NEIGHBOUR: 'it returns false'. Refute it at one input. -/
def quatOnesWrong : ChangeSpec := { name := "quatOnes", fn := fun _ => fun
  | [d1, d2] => { results := [.lit (.bool false)], args := [d1, d2] }
  | _ => none }
def QuatOnesWrongFalsely : Prop := quatOnesRow.holds Try.pinned (OpenSpec.ofChange quatOnesWrong)

/-- 'astrolabelaw10.QuatTurns': WHATEVER THE INPUT: true; the input reads as it did. -/
def quatTurnsSpec : ChangeSpec := { name := "quatTurns", fn := fun _ => fun
  | [d1, d2] => { results := [.lit (.bool true)], args := [d1, d2] }
  | _ => none }
def quatTurnsRow : OpenClaim := { program := "ytdphiobmjdiefaa", sum := "19139912875f708b29d57ed5dc7b29c4dea1217dd474ecf8dd4478c4856d5467", func := "astrolabe/astrolabelaw10.QuatTurns", spec := "quatTurns", unfollowed := true, recurses := true, apart := false }
def QuatTurnsSaid : Prop := quatTurnsRow.holds Try.pinned (OpenSpec.ofChange quatTurnsSpec)

/-- ITS FALSE NEIGHBOUR: 'it returns false'. Refute it at one input. -/
def quatTurnsWrong : ChangeSpec := { name := "quatTurns", fn := fun _ => fun
  | [d1, d2] => { results := [.lit (.bool false)], args := [d1, d2] }
  | _ => none }
def QuatTurnsWrongFalsely : Prop := quatTurnsRow.holds Try.pinned (OpenSpec.ofChange quatTurnsWrong)

/- THE SECOND FORM. 'bulk': how many values and letters a reading holds, each counted each time it is reached (what is shared counts as often as it is met; a slice's spare places count too). A statement '..UptoSaid' is the law's where the arguments, and the package variables that the reading takes, are together of bulk at most 1048576: NARROWER than '..Said'. Prove '..Said' where nothing that the law and all that it calls make is longer than what came in: it says more and counts as full. Else prove '..UptoSaid'. A law counts once. -/
mutual
def uptoBulk {H : Type} : DataW H → Nat
  | .lit (.string bytes) => bytes.length + 1
  | .lit _ => 1
  | .nil => 1
  | .ptr d => uptoBulk d + 1
  | .slice elems spare => uptoBulkAll elems + uptoBulkAll spare + 1
  | .agg parts => uptoBulkAll parts + 1
  | .iface _ d => uptoBulk d + 1
  | .map entries => uptoBulkEntries entries + 1
  | .held _ => 1
def uptoBulkAll {H : Type} : List (DataW H) → Nat
  | [] => 0
  | d :: r => uptoBulk d + uptoBulkAll r
def uptoBulkEntries {H : Type} : List (Lit × DataW H) → Nat
  | [] => 0
  | x :: r => uptoBulkEntry x + uptoBulkEntries r
def uptoBulkEntry {H : Type} : Lit × DataW H → Nat
  | (.string bytes, d) => bytes.length + uptoBulk d + 1
  | (_, d) => uptoBulk d + 1
 end
def uptoSmall : (H : Type) → List (DataW H) → Bool := fun _ ds => decide (uptoBulkAll ds ≤ 1048576)
def OpenSpec.upto (s : _root_.Go.ChangeSpec) : _root_.Go.OpenSpec := { _root_.Go.OpenSpec.ofChange s with cond := some uptoSmall }

/-- 'astrolabelaw10.QuatUnits', WHERE WHAT IT READS IS OF BULK AT MOST 1048576: true; the input reads as it did. -/
def quatUnitsUptoRow : OpenClaim := { program := "ytdphiobmjdiefaa", sum := "19139912875f708b29d57ed5dc7b29c4dea1217dd474ecf8dd4478c4856d5467", func := "astrolabe/astrolabelaw10.QuatUnits", spec := "quatUnits", unfollowed := true, recurses := true, apart := false, narrowed := true }
def QuatUnitsUptoSaid : Prop := quatUnitsUptoRow.holds Try.pinned (OpenSpec.upto quatUnitsSpec)

/-- 'astrolabelaw10.QuatOnes', WHERE WHAT IT READS IS OF BULK AT MOST 1048576: true; the input reads as it did. -/
def quatOnesUptoRow : OpenClaim := { program := "ytdphiobmjdiefaa", sum := "19139912875f708b29d57ed5dc7b29c4dea1217dd474ecf8dd4478c4856d5467", func := "astrolabe/astrolabelaw10.QuatOnes", spec := "quatOnes", unfollowed := true, recurses := true, apart := false, narrowed := true }
def QuatOnesUptoSaid : Prop := quatOnesUptoRow.holds Try.pinned (OpenSpec.upto quatOnesSpec)

/-- 'astrolabelaw10.QuatTurns', WHERE WHAT IT READS IS OF BULK AT MOST 1048576: true; the input reads as it did. -/
def quatTurnsUptoRow : OpenClaim := { program := "ytdphiobmjdiefaa", sum := "19139912875f708b29d57ed5dc7b29c4dea1217dd474ecf8dd4478c4856d5467", func := "astrolabe/astrolabelaw10.QuatTurns", spec := "quatTurns", unfollowed := true, recurses := true, apart := false, narrowed := true }
def QuatTurnsUptoSaid : Prop := quatTurnsUptoRow.holds Try.pinned (OpenSpec.upto quatTurnsSpec)

end Rows
end Go.Proofs.Ytdphiobmjdiefaa
