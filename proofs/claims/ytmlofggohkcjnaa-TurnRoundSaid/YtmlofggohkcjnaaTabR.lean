/- What the document's own table of angles (package astrolaberef09) gives: a new list of 28 words. -/
import Derived.Test.YtmlofggohkcjnaaProg
import Derived.Test.YtmlofggohkcjnaaCircle
import Derived.Test.YtmlofggohkcjnaaNum
import Derived.Test.YtmlofggohkcjnaaLayers
import Derived.OwnWalk
import Derived.Laws.AppendOwn
import Derived.Handy
import Derived.Lib.Hide
namespace Go.Proofs.Ytmlofggohkcjnaa
open Go.RowKit

/-- A list of the table's words lies there. -/
def TabAt (w : World) (v : Value) : Prop := ∃ g cap, v = .slice (some ⟨g, 0, none⟩) 28 cap ∧ g < w.heap.size ∧ 28 ≤ cap ∧ ∀ i : Nat, i < 28 → w.cell? ⟨g, i, none⟩ = some (.int .i32 (tab i))
theorem TabAt.keep {w w' : World} {v : Value} {B : Nat} (h : TabAt w v) (hB : w.heap.size ≤ B) (hb : Below B w w') : TabAt w' v := by
  obtain ⟨g, cap, e, hg, hc, h⟩ := h
  exact ⟨g, cap, e, Nat.lt_of_lt_of_le hg hb.size, hc, fun i hi => (hb.cell (by show g < B; omega)).trans (h i hi)⟩

theorem infoI32 : (Try.prog.info? 21).map (fun i => (i.zero, i.size, i.bytes)) = some (some (.int .i32 0), 1, 4) := by kernel_rfl
/-- The number that stands ahead of the place k: 2^(29 - k). -/
def tabX (k : Nat) : Int := if k < 28 then tab k else 2
theorem tabX_ok : ((List.range 28).all fun k => decide (k < 10 ∨ (tabX k = tab k ∧ 4 ≤ tabX k ∧ tabX k ≤ 524288 ∧ tabX k / 2 = tabX (k + 1)))) = true := by decide +kernel
theorem take_tab {k : Nat} (h : k < 28) : (tabL.take k).map (Value.int .i32) ++ [.int .i32 (tab k)] = (tabL.take (k + 1)).map (Value.int .i32) := by
  have hl : tabL.length = 28 := rfl
  rw [List.take_succ_eq_append_getElem (by omega), List.map_append]
  congr 1
  unfold tab
  rw [List.getD, List.getElem?_eq_getElem (by omega)]
  rfl

end Go.Proofs.Ytmlofggohkcjnaa
