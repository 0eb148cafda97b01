/- A call that only makes new memory, in a walk that began at w0. Nothing of any program. -/
import Derived.WalkKit
import Derived.PlainAid
namespace Go.Proofs.Ytbcfmlcfkihenaa
open Go.RowKit

/-- A call that only makes new memory, in a walk that began at w0. -/
theorem keep {P : Program} {f : FuncId} {args : Array Value} {w w0 : World} {B : Nat} {v : Value}
    (hc : Calls P f args w fun e w' => e = .returned v ∧ Below w.heap.size w w') (hb : Below B w0 w) (hB : B ≤ w.heap.size) :
    Calls P f args w fun e w' => e = .returned v ∧ Below B w0 w' ∧ B ≤ w'.heap.size :=
  hc.mono fun _ _ ⟨he, h⟩ => ⟨he, hb.trans (h.mono hB), Nat.le_trans hB h.size⟩
end Go.Proofs.Ytbcfmlcfkihenaa
