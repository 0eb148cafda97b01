/- What the document's own plain answers for operations (package astrolaberef06) give. Conditions: the numbers are of the parameters' kinds. -/
import Derived.Test.YtggiaopdgijgnaaGreatDoorProg
import Derived.Test.YtggiaopdgijgnaaGreatDoorNum
import Derived.Test.YtggiaopdgijgnaaGreatDoorLayers
import Derived.Test.YtggiaopdgijgnaaGreatDoorMem
import Derived.Handy
import Derived.Lib.Hide
import Derived.Laws.Rows
import Derived.PlainAid
namespace Go.Proofs.YtggiaopdgijgnaaGreatDoor
open Go.RowKit

/-- Is a number among some? -/
def inB (n : Int) (zs : List Int) : Bool := decide (n ∈ zs)
/-- The number at place k. -/
def at0 (zs : List Int) (k : Nat) : Int := zs.getD k 0
theorem at0_lt {zs : List Int} {k : Nat} (h : k < zs.length) : at0 zs k = zs[k] := by
  unfold at0; rw [List.getD, List.getElem?_eq_getElem h]; rfl
def intsC (zs : List Int) : Array Value := (zs.map fun z => Value.int .i64 z).toArray
def nmsC : Array Value := (nms.map Value.string).toArray
theorem intsC_at (w : World) (zs : List Int) (t : TypeId) {k : Nat} (h : k < zs.length) : (w.alloc (.cells (intsC zs) t)).cell? ⟨w.heap.size, k, none⟩ = some (.int .i64 (at0 zs k)) := by
  rw [cell_of_row _ _ _ _ _ _ (heap_alloc_new _ _)]
  rw [at0_lt h]; simp [intsC, List.getElem?_eq_getElem h]
theorem intsC_atb (w : World) (zs : List Int) (t : TypeId) (b : Nat) (hb : b = w.heap.size) {k : Nat} (h : k < zs.length) : (w.alloc (.cells (intsC zs) t)).cell? ⟨b, k, none⟩ = some (.int .i64 (at0 zs k)) := by
  subst hb; exact intsC_at w zs t h
theorem nmsC_at (w : World) (t : TypeId) {k : Nat} (h : k < 43) : (w.alloc (.cells nmsC t)).cell? ⟨w.heap.size, k, none⟩ = some (.string (nm k)) := by
  have hk : k < nms.length := h
  rw [cell_of_row _ _ _ _ _ _ (heap_alloc_new _ _), nm_at hk]
  simp [nmsC, List.getElem?_eq_getElem hk]

/-- The names lie in a row of their own. -/
def NamesAt (B : Nat) (w : World) (e : Ending) (w' : World) : Prop := ∃ b, e = .returned (.slice (some ⟨b, 0, none⟩) 43 43) ∧ (∀ k, k < 43 → w'.cell? ⟨b, k, none⟩ = some (.string (nm k))) ∧ Below B w w'
set_option maxHeartbeats 1000000 in
theorem refShape_is (n : Int) (w : World) :
    Calls Tryz.prog 30 #[.int .i64 n] w fun e w' => e = .returned (.string (wShape n)) ∧ w = w' := by
  go_enter Tryz.func30, Tryz.ntmps30
  go_wp2
  all_goals go_ret
  all_goals refine ⟨ret_str ?_, rfl⟩
  all_goals (try simp only [beq_iff_eq, beq_eq_false_iff_ne] at *)
  all_goals first
    | (symm; exact wShape_at (k := 0) (by decide) (by simp [loZ]; omega) (by simp [hiZ]; omega))
    | (symm; exact wShape_at (k := 1) (by decide) (by simp [loZ]; omega) (by simp [hiZ]; omega))
    | (subst_vars; rfl)
    | (symm; exact wShape_out (by omega))

end Go.Proofs.YtggiaopdgijgnaaGreatDoor
