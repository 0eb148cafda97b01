/- Moves in memory. Nothing of any program. -/
import Derived.Test.YthmojdmdhabogaaRamM
namespace Go.Proofs.Ythmojdmdhabogaa
open Go.RowKit Go.OpenShut Go.ChangeShapes

/-- Moves that came in: what each cell holds. -/
structure MovesAt (w : World) (a : Option Addr) (n c : Nat) : Prop where
  cap : n ≤ c
  big : c ≤ maxLen
  nil : a = none → c = 0
  lie : ∀ i, i < n → ∃ b off s x u, a = some ⟨b, off, none⟩ ∧ w.cell? ⟨b, off + i * 3, none⟩ = some (.bool s) ∧ w.cell? ⟨b, off + i * 3 + 1, none⟩ = some (.int .i32 x) ∧ w.cell? ⟨b, off + i * 3 + 2, none⟩ = some (.int .i32 u) ∧ -2147483648 ≤ x ∧ x ≤ 2147483647
theorem MovesAt.keep {w w' : World} {a : Option Addr} {n c : Nat} (h : MovesAt w a n c) (k : Below w.heap.size w w') : MovesAt w' a n c := by
  refine ⟨h.cap, h.big, h.nil, fun i hi => ?_⟩
  obtain ⟨b, off, s, x, u, e, c0, c1, c2, hx⟩ := h.lie i hi
  exact ⟨b, off, s, x, u, e, (k.cell (p := ⟨b, _, none⟩) (cell_lt c0)).trans c0, (k.cell (p := ⟨b, _, none⟩) (cell_lt c1)).trans c1, (k.cell (p := ⟨b, _, none⟩) (cell_lt c2)).trans c2, hx⟩
end Go.Proofs.Ythmojdmdhabogaa
