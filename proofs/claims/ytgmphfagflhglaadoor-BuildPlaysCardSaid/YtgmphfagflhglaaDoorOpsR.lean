/- What the document's own plain answers for operations (package astrolaberef06) give. Conditions: the numbers are of the parameters' kinds. -/
import Derived.Test.YtgmphfagflhglaaDoorProg
import Derived.Test.YtgmphfagflhglaaDoorNum
import Derived.Test.YtgmphfagflhglaaDoorLayers
import Derived.Test.YtgmphfagflhglaaDoorMem
import Derived.Handy
import Derived.Lib.Hide
import Derived.Laws.Rows
import Derived.PlainAid
namespace Go.Proofs.YtgmphfagflhglaaDoor
open Go.RowKit

/-- Is a number among some? -/
def inB (n : Int) (zs : List Int) : Bool := decide (n ∈ zs)
/-- The number at place k. -/
def at0 (zs : List Int) (k : Nat) : Int := zs.getD k 0
theorem at0_lt {zs : List Int} {k : Nat} (h : k < zs.length) : at0 zs k = zs[k] := by
  unfold at0; rw [List.getD, List.getElem?_eq_getElem h]; rfl
def intsC (zs : List Int) : Array Value := (zs.map fun z => Value.int .i64 z).toArray
def nmsC : Array Value := (nms.map Value.string).toArray
theorem intsC_at (w : World) (zs : List Int) (t : TypeId) {k : Nat} (h : k < zs.length) : (w.alloc (.cells (intsC zs) t)).cell? ⟨w.heap.size, k, none⟩ = some (.int .i64 (at0 zs k)) := by
  rw [cell_of_row _ _ _ _ _ _ (heap_alloc_new _ _)]
  rw [at0_lt h]; simp [intsC, List.getElem?_eq_getElem h]
theorem intsC_atb (w : World) (zs : List Int) (t : TypeId) (b : Nat) (hb : b = w.heap.size) {k : Nat} (h : k < zs.length) : (w.alloc (.cells (intsC zs) t)).cell? ⟨b, k, none⟩ = some (.int .i64 (at0 zs k)) := by
  subst hb; exact intsC_at w zs t h
theorem nmsC_at (w : World) (t : TypeId) {k : Nat} (h : k < 43) : (w.alloc (.cells nmsC t)).cell? ⟨w.heap.size, k, none⟩ = some (.string (nm k)) := by
  have hk : k < nms.length := h
  rw [cell_of_row _ _ _ _ _ _ (heap_alloc_new _ _), nm_at hk]
  simp [nmsC, List.getElem?_eq_getElem hk]

theorem in_is (n : Int) (zs : List Int) (b : Nat) (w : World) (hl : zs.length ≤ 1000) (hc : ∀ k, k < zs.length → w.cell? ⟨b, k, none⟩ = some (.int .i64 (at0 zs k))) :
    Calls Tryd.prog 39 #[.int .i64 n, .slice (some ⟨b, 0, none⟩) zs.length zs.length] w fun e w' => e = .returned (.bool (inB n zs)) ∧ w = w' := by
  have HC := Lib.hid hc
  clear hc
  go_enter Tryd.func39, Tryd.ntmps39
  go_wp2
  go_loop [5] (fun i => ∃ k : Nat, k ≤ zs.length ∧ i = .int .i64 k ∧ ∀ j, j < k → at0 zs j ≠ n) (fun i => zs.length - (intOf i).toNat)
  case atStart => exact ⟨0, by omega, rfl, fun j hj => by omega⟩
  case round =>
    obtain ⟨k, hk, rfl, hn⟩ := hrel
    have HN := Lib.hid hn
    clear hn
    by_cases hlt : k < zs.length
    · have hx := HC.out k hlt
      by_cases h1 : at0 zs k = n
      · have E := Lib.hid (show inB n zs = true from decide_eq_true (by rw [← h1, at0_lt hlt]; exact List.getElem_mem _))
        have E1 : (at0 zs k == n) = true := by simpa using h1
        have H1 := Lib.hid h1
        clear h1
        go_wp2
        go_ret
        exact ⟨by rw [E.out]; rfl, rfl⟩
      · have E1 : (at0 zs k == n) = false := by simpa using h1
        have H1 := Lib.hid h1
        clear h1
        go_wp2
        go_round
        case rel => exact ⟨k + 1, by omega, by go_num, fun j hj => by
                      rcases (show j < k ∨ j = k by omega) with h | rfl
                      · exact HN.out j h
                      · exact H1.out⟩
        case measure => simp [intOf]; omega
    · have E := Lib.hid (show inB n zs = false from decide_eq_false (fun hm => by
        obtain ⟨j, hj, e⟩ := List.mem_iff_getElem.1 hm
        exact HN.out j (by omega) (by rw [at0_lt hj]; exact e)))
      go_wp2
      go_ret
      exact ⟨by rw [E.out]; rfl, rfl⟩

/-- The names lie in a row of their own. -/
def NamesAt (B : Nat) (w : World) (e : Ending) (w' : World) : Prop := ∃ b, e = .returned (.slice (some ⟨b, 0, none⟩) 43 43) ∧ (∀ k, k < 43 → w'.cell? ⟨b, k, none⟩ = some (.string (nm k))) ∧ Below B w w'
set_option maxHeartbeats 1000000 in
theorem refShape_is (n : Int) (w : World) :
    Calls Tryd.prog 52 #[.int .i64 n] w fun e w' => e = .returned (.string (wShape n)) ∧ w = w' := by
  go_enter Tryd.func52, Tryd.ntmps52
  go_wp2
  all_goals go_ret
  all_goals refine ⟨ret_str ?_, rfl⟩
  all_goals (try simp only [beq_iff_eq, beq_eq_false_iff_ne] at *)
  all_goals first
    | (symm; exact wShape_at (k := 0) (by decide) (by simp [loZ]; omega) (by simp [hiZ]; omega))
    | (symm; exact wShape_at (k := 1) (by decide) (by simp [loZ]; omega) (by simp [hiZ]; omega))
    | (subst_vars; rfl)
    | (symm; exact wShape_out (by omega))

theorem in_n (n : Int) (zs : List Int) (b : Nat) (w : World) {c : Bool} (hl : zs.length ≤ 1000) (hc : ∀ k, k < zs.length → w.cell? ⟨b, k, none⟩ = some (.int .i64 (at0 zs k))) (h : inB n zs = c) :
    Calls Tryd.prog 39 #[.int .i64 n, .slice (some ⟨b, 0, none⟩) zs.length zs.length] w fun e w' => e = .returned (.bool c) ∧ w = w' := by
  subst h; exact in_is n zs b w hl hc
end Go.Proofs.YtgmphfagflhglaaDoor
