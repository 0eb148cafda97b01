/-
  No cell of these rows narrows 'for every input' (looked for: loops, veiled, ifaces, maps, wideKeys, modest, calm, conditions, laid).
  DERIVED. THE GIVEN ROWS OF THIS SEAT. 4 by the template 'for every input the law returns true; each argument reads behind the call as it read before'; 0 by the template 'total and deterministic' (their statements: YtoagijojmkcfnaaTotals.lean).
  GIVEN WITH THE SEED: the statements are not yours to turn. If you find one false, say at which input.
  Laid BY PROGRAM, IN A SANDBOX (cutbox-rows.mjs): the forced cells as the released guide's own fill.sh prints them over the translation bb16a62126c2182c… (all of the seat's roots in one cut). By AI agents, Wed Nov 11 2026. No macro, syntax, notation, axiom, sorry.
-/
import Derived.Test.YtoagijojmkcfnaaChecked
import GoSem.Claim
import GoSem.ClaimJoined
import GoSem.ClaimMapViews
import Derived.JoinedTies
import Derived.KernelRfl
namespace Go.Proofs.Ytoagijojmkcfnaa
/- THE CELL 'sum', in the pinned program and in every row, IS THE sha256 OF THE DUMP (.gsa) THAT YtoagijojmkcfnaaProg.lean LOADS. Nothing in Lean hashes anything: it is a label: what it is worth is what the hold of that sum in a sandbox is worth. -/
noncomputable def Try.pinned : Pinned := { name := "ytoagijojmkcfnaa", sum := "bb16a62126c2182cfcf948f2f84dfaabe506473717ddfafc0871c4bc106bd5f5", checked := Try.checked }
namespace Rows
def none {H : Type} : Left H := { results := [], args := [] }

/-- 'astrolabelaw03.PickTells': WHATEVER THE INPUT: true; the input reads as it did. -/
def pickTellsSpec : ChangeSpec := { name := "pickTells", fn := fun _ => fun
  | [d1, d2, d3] => { results := [.lit (.bool true)], args := [d1, d2, d3] }
  | _ => none }
def pickTellsRow : OpenClaim := { program := "ytoagijojmkcfnaa", sum := "bb16a62126c2182cfcf948f2f84dfaabe506473717ddfafc0871c4bc106bd5f5", func := "astrolabe/astrolabelaw03.PickTells", spec := "pickTells", unfollowed := true, recurses := true, apart := false }
def PickTellsSaid : Prop := pickTellsRow.holds Try.pinned (OpenSpec.ofChange pickTellsSpec)

/-- ITS FALSE NEIGHBOUR: 'it returns false'. Refute it at one input. -/
def pickTellsWrong : ChangeSpec := { name := "pickTells", fn := fun _ => fun
  | [d1, d2, d3] => { results := [.lit (.bool false)], args := [d1, d2, d3] }
  | _ => none }
def PickTellsWrongFalsely : Prop := pickTellsRow.holds Try.pinned (OpenSpec.ofChange pickTellsWrong)

/-- 'astrolabelaw03.PickSels': WHATEVER THE INPUT: true; the input reads as it did. -/
def pickSelsSpec : ChangeSpec := { name := "pickSels", fn := fun _ => fun
  | [d1, d2, d3] => { results := [.lit (.bool true)], args := [d1, d2, d3] }
  | _ => none }
def pickSelsRow : OpenClaim := { program := "ytoagijojmkcfnaa", sum := "bb16a62126c2182cfcf948f2f84dfaabe506473717ddfafc0871c4bc106bd5f5", func := "astrolabe/astrolabelaw03.PickSels", spec := "pickSels", unfollowed := true, recurses := true, apart := false }
def PickSelsSaid : Prop := pickSelsRow.holds Try.pinned (OpenSpec.ofChange pickSelsSpec)

/-- ITS FALSE NEIGHBOUR: 'it returns false'. Refute it at one input. -/
def pickSelsWrong : ChangeSpec := { name := "pickSels", fn := fun _ => fun
  | [d1, d2, d3] => { results := [.lit (.bool false)], args := [d1, d2, d3] }
  | _ => none }
def PickSelsWrongFalsely : Prop := pickSelsRow.holds Try.pinned (OpenSpec.ofChange pickSelsWrong)

/-- 'astrolabelaw03.PickOrders': WHATEVER THE INPUT: true; the input reads as it did. -/
def pickOrdersSpec : ChangeSpec := { name := "pickOrders", fn := fun _ => fun
  | [d1, d2] => { results := [.lit (.bool true)], args := [d1, d2] }
  | _ => none }
def pickOrdersRow : OpenClaim := { program := "ytoagijojmkcfnaa", sum := "bb16a62126c2182cfcf948f2f84dfaabe506473717ddfafc0871c4bc106bd5f5", func := "astrolabe/astrolabelaw03.PickOrders", spec := "pickOrders", unfollowed := true, recurses := true, apart := false }
def PickOrdersSaid : Prop := pickOrdersRow.holds Try.pinned (OpenSpec.ofChange pickOrdersSpec)

/-- ITS FALSE NEIGHBOUR: 'it returns false'. Refute it at one input. -/
def pickOrdersWrong : ChangeSpec := { name := "pickOrders", fn := fun _ => fun
  | [d1, d2] => { results := [.lit (.bool false)], args := [d1, d2] }
  | _ => none }
def PickOrdersWrongFalsely : Prop := pickOrdersRow.holds Try.pinned (OpenSpec.ofChange pickOrdersWrong)

/-- 'astrolabelaw03.PickFlips': WHATEVER THE INPUT: true; the input reads as it did. -/
def pickFlipsSpec : ChangeSpec := { name := "pickFlips", fn := fun _ => fun
  | [d] => { results := [.lit (.bool true)], args := [d] }
  | _ => none }
def pickFlipsRow : OpenClaim := { program := "ytoagijojmkcfnaa", sum := "bb16a62126c2182cfcf948f2f84dfaabe506473717ddfafc0871c4bc106bd5f5", func := "astrolabe/astrolabelaw03.PickFlips", spec := "pickFlips", unfollowed := true, recurses := true, apart := false }
def PickFlipsSaid : Prop := pickFlipsRow.holds Try.pinned (OpenSpec.ofChange pickFlipsSpec)

/-- ITS FALSE NEIGHBOUR: 'it returns false'. Refute it at one input. -/
def pickFlipsWrong : ChangeSpec := { name := "pickFlips", fn := fun _ => fun
  | [d] => { results := [.lit (.bool false)], args := [d] }
  | _ => none }
def PickFlipsWrongFalsely : Prop := pickFlipsRow.holds Try.pinned (OpenSpec.ofChange pickFlipsWrong)

/- THE SECOND FORM. 'bulk': how many values and letters a reading holds, each counted each time it is reached (what is shared counts as often as it is met; a slice's spare places count too). A statement '..UptoSaid' is the law's where the arguments, and the package variables that the reading takes, are together of bulk at most 1048576: NARROWER than '..Said'. Prove '..Said' where nothing that the law and all that it calls make is longer than what came in: it says more and counts as full. Else prove '..UptoSaid'. A law counts once. -/
mutual
def uptoBulk {H : Type} : DataW H → Nat
  | .lit (.string bytes) => bytes.length + 1
  | .lit _ => 1
  | .nil => 1
  | .ptr d => uptoBulk d + 1
  | .slice elems spare => uptoBulkAll elems + uptoBulkAll spare + 1
  | .agg parts => uptoBulkAll parts + 1
  | .iface _ d => uptoBulk d + 1
  | .map entries => uptoBulkEntries entries + 1
  | .held _ => 1
def uptoBulkAll {H : Type} : List (DataW H) → Nat
  | [] => 0
  | d :: r => uptoBulk d + uptoBulkAll r
def uptoBulkEntries {H : Type} : List (Lit × DataW H) → Nat
  | [] => 0
  | x :: r => uptoBulkEntry x + uptoBulkEntries r
def uptoBulkEntry {H : Type} : Lit × DataW H → Nat
  | (.string bytes, d) => bytes.length + uptoBulk d + 1
  | (_, d) => uptoBulk d + 1
 end
def uptoSmall : (H : Type) → List (DataW H) → Bool := fun _ ds => decide (uptoBulkAll ds ≤ 1048576)
def OpenSpec.upto (s : _root_.Go.ChangeSpec) : _root_.Go.OpenSpec := { _root_.Go.OpenSpec.ofChange s with cond := some uptoSmall }

/-- 'astrolabelaw03.PickTells', WHERE WHAT IT READS IS OF BULK AT MOST 1048576: true; the input reads as it did. -/
def pickTellsUptoRow : OpenClaim := { program := "ytoagijojmkcfnaa", sum := "bb16a62126c2182cfcf948f2f84dfaabe506473717ddfafc0871c4bc106bd5f5", func := "astrolabe/astrolabelaw03.PickTells", spec := "pickTells", unfollowed := true, recurses := true, apart := false, narrowed := true }
def PickTellsUptoSaid : Prop := pickTellsUptoRow.holds Try.pinned (OpenSpec.upto pickTellsSpec)

/-- 'astrolabelaw03.PickSels', WHERE WHAT IT READS IS OF BULK AT MOST 1048576: true; the input reads as it did. -/
def pickSelsUptoRow : OpenClaim := { program := "ytoagijojmkcfnaa", sum := "bb16a62126c2182cfcf948f2f84dfaabe506473717ddfafc0871c4bc106bd5f5", func := "astrolabe/astrolabelaw03.PickSels", spec := "pickSels", unfollowed := true, recurses := true, apart := false, narrowed := true }
def PickSelsUptoSaid : Prop := pickSelsUptoRow.holds Try.pinned (OpenSpec.upto pickSelsSpec)

/-- 'astrolabelaw03.PickOrders', WHERE WHAT IT READS IS OF BULK AT MOST 1048576: true; the input reads as it did. -/
def pickOrdersUptoRow : OpenClaim := { program := "ytoagijojmkcfnaa", sum := "bb16a62126c2182cfcf948f2f84dfaabe506473717ddfafc0871c4bc106bd5f5", func := "astrolabe/astrolabelaw03.PickOrders", spec := "pickOrders", unfollowed := true, recurses := true, apart := false, narrowed := true }
def PickOrdersUptoSaid : Prop := pickOrdersUptoRow.holds Try.pinned (OpenSpec.upto pickOrdersSpec)

/-- 'astrolabelaw03.PickFlips', WHERE WHAT IT READS IS OF BULK AT MOST 1048576: true; the input reads as it did. -/
def pickFlipsUptoRow : OpenClaim := { program := "ytoagijojmkcfnaa", sum := "bb16a62126c2182cfcf948f2f84dfaabe506473717ddfafc0871c4bc106bd5f5", func := "astrolabe/astrolabelaw03.PickFlips", spec := "pickFlips", unfollowed := true, recurses := true, apart := false, narrowed := true }
def PickFlipsUptoSaid : Prop := pickFlipsUptoRow.holds Try.pinned (OpenSpec.upto pickFlipsSpec)

end Rows
end Go.Proofs.Ytoagijojmkcfnaa
