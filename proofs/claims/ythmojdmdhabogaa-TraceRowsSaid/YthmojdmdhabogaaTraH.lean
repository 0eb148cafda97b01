/- Rows (place, address, times, cost) in memory: four cells each; a list of them sorted by the library. Nothing of any program. -/
import Derived.Test.YthmojdmdhabogaaElsM
import Derived.Test.YthmojdmdhabogaaTraD
import Derived.Shelf.SlSortFuncK.SWK
import Derived.Shelf.SlSortCmp.InsertionK
namespace Go.Proofs.Ythmojdmdhabogaa
open Go.RowKit Go.Sort

def htV (h : Ht) : List Value := [.int .i64 h.1, .int .i64 h.2.1, .int .i64 h.2.2.1, .int .i64 h.2.2.2]
def htK : Kd Ht where
  k := 4
  enc := htV
  len _ := rfl
  ones x v hv := by
    simp only [htV, List.mem_cons, List.not_mem_nil, or_false] at hv
    rcases hv with rfl | rfl | rfl | rfl <;> rfl
  pos := by decide
abbrev HtAt := ElAt htK
abbrev OwnHt := OwnEl htK
section
variable {w w' : World} {a : Option Addr} {n c base : Nat} {l : List Ht} {e : TypeId} {v : Value}
theorem HtAt.lie4 (h : HtAt w a n c l) (hn : 0 < n) : ∃ b off, a = some ⟨b, off, none⟩ ∧ ∀ i, i < n → w.cell? ⟨b, off + i * 4, none⟩ = some (.int .i64 (el l i).1) ∧ w.cell? ⟨b, off + i * 4 + 1, none⟩ = some (.int .i64 (el l i).2.1) ∧
    w.cell? ⟨b, off + i * 4 + 2, none⟩ = some (.int .i64 (el l i).2.2.1) ∧ w.cell? ⟨b, off + i * 4 + 3, none⟩ = some (.int .i64 (el l i).2.2.2) := by
  obtain ⟨b, off, e, hc⟩ := h.lie hn
  exact ⟨b, off, e, fun i hi => ⟨hc i hi 0 (by decide), hc i hi 1 (by decide), hc i hi 2 (by decide), hc i hi 3 (by decide)⟩⟩
theorem OwnHt.cells {g cap : Nat} (h : OwnHt w base e (.slice (some ⟨g, 0, none⟩) n cap) l) (hl : l.length = n) {i : Nat} (hi : i < n) : w.cell? ⟨g, i * 4, none⟩ = some (.int .i64 (el l i).1) ∧ w.cell? ⟨g, i * 4 + 1, none⟩ = some (.int .i64 (el l i).2.1) ∧
    w.cell? ⟨g, i * 4 + 2, none⟩ = some (.int .i64 (el l i).2.2.1) ∧ w.cell? ⟨g, i * 4 + 3, none⟩ = some (.int .i64 (el l i).2.2.2) :=
  ⟨h.cell hl hi (j := 0) (by decide), h.cell hl hi (j := 1) (by decide), h.cell hl hi (j := 2) (by decide), h.cell hl hi (j := 3) (by decide)⟩
theorem OwnHt.setTi {g cap : Nat} (h : OwnHt w base e (.slice (some ⟨g, 0, none⟩) n cap) l) (hl : l.length = n) {i : Nat} (hi : i < n) (u : Int) :
    OwnHt (w.setCell ⟨g, i * 4 + 2, none⟩ (.int .i64 u)) base e (.slice (some ⟨g, 0, none⟩) n cap) (l.set i ((el l i).1, (el l i).2.1, u, (el l i).2.2.2)) :=
  OwnEl.set (K := htK) h hl hi (j := 2) (by decide) rfl
theorem OwnHt.setCo {g cap : Nat} (h : OwnHt w base e (.slice (some ⟨g, 0, none⟩) n cap) l) (hl : l.length = n) {i : Nat} (hi : i < n) (u : Int) :
    OwnHt (w.setCell ⟨g, i * 4 + 3, none⟩ (.int .i64 u)) base e (.slice (some ⟨g, 0, none⟩) n cap) (l.set i ((el l i).1, (el l i).2.1, (el l i).2.2.1, u)) :=
  OwnEl.set (K := htK) h hl hi (j := 3) (by decide) rfl
end

/-! ### The library's sort of such a list -/
theorem flatK_list {α : Type} [Inhabited α] (K : Kd α) (l : List α) {t : Nat} (h : t < l.length * K.k) : (flatK K.enc K.k l.toArray)[t]? = (K.vs l)[t]? := by
  have hpos := K.pos
  have hq : t / K.k < l.length := Nat.div_lt_of_lt_mul (by rw [Nat.mul_comm]; exact h)
  have hr : t % K.k < K.k := Nat.mod_lt _ hpos
  have he : t / K.k * K.k + t % K.k = t := by rw [Nat.mul_comm]; exact Nat.div_add_mod t K.k
  have h2 := K.vs_at l hq hr
  rw [he] at h2
  rw [h2]
  have hs : t < (flatK K.enc K.k l.toArray).size := by simpa using h
  have hg := get_flatK K.enc K.k l.toArray t (by simpa using h)
  rw [Array.getElem?_eq_getElem hs]
  rw [getElem!_pos _ t hs] at hg
  rw [hg]
  have hl : (l.toArray)[t / K.k]! = el l (t / K.k) := by
    rw [← el_eq hq]
    simp [hq]
  rw [hl, List.getElem?_eq_getElem (by rw [K.len]; exact hr), getElem!_pos _ _ (by rw [K.len]; exact hr)]
theorem flatK_toList {α : Type} [Inhabited α] (K : Kd α) (l : List α) : (flatK K.enc K.k l.toArray).toList = K.vs l := by
  apply List.ext_getElem?
  intro t
  by_cases h : t < l.length * K.k
  · rw [Array.getElem?_toList]; exact flatK_list K l h
  · rw [List.getElem?_eq_none (by simp; omega), List.getElem?_eq_none (by rw [K.vs_len]; omega)]
section
variable {α : Type} [Inhabited α] {K : Kd α} {w w' : World} {n base : Nat} {l : List α} {e : TypeId}
theorem OwnEl.holds {g cap : Nat} (h : OwnEl K w base e (.slice (some ⟨g, 0, none⟩) n cap) l) (hl : l.length = n) : HoldsK K.enc K.k w g 0 l.toArray := by
  intro t ht
  have ht' : t < l.length * K.k := by simpa using ht
  rw [Nat.zero_add]
  refine ⟨?_, h.free hl t⟩
  subst hl
  rw [World.ownsRow.cellAt h t ht', ← flatK_list K l ht', Array.getElem?_eq_getElem ht, getElem!_pos _ t ht]
  rfl
/-- Behind a sort. -/
theorem OwnEl.sorted {g cap q : Nat} {os : Array Obj} {d : List α} (h : OwnEl K w base e (.slice (some ⟨g, 0, none⟩) n cap) l) (hl : l.length = n) (hd : d.length = n) (hw : w' = sortWorldK K.enc K.k w g 0 q d.toArray os) :
    OwnEl K w' base e (.slice (some ⟨g, 0, none⟩) n cap) d ∧ w.grownBy w' (some g) := by
  subst hl
  have hh : ∀ j, j < w.heap.size → w'.heap[j]? = (w.heap[j]?).map fun o => if j = g then onCells (putCells id 0 (flatK K.enc K.k d.toArray)) o else o := by
    intro j hj
    subst hw
    show ((w.heap.modify g (onCells (putCells id 0 (flatK K.enc K.k d.toArray)))) ++ os)[j]? = _
    rw [Array.getElem?_append_left (by simpa using hj), Array.getElem?_modify]
    by_cases e : g = j
    · subst e; simp
    · rw [if_neg e]; simp only [if_neg (show ¬ j = g from fun q => e q.symm), Option.map_id']
  have hsz : w.heap.size ≤ w'.heap.size := by
    subst hw
    show w.heap.size ≤ ((w.heap.modify g (onCells (putCells id 0 (flatK K.enc K.k d.toArray)))) ++ os).size
    simp
  refine ⟨?_, ?_⟩
  · obtain ⟨_, hcase⟩ := h
    rcases hcase with ⟨h0, _⟩ | ⟨g', cap', cur, hv, hb, hg, h1, h2, h3, h4⟩
    · cases h0
    · simp only [Value.slice.injEq, Option.some.injEq, Addr.mk.injEq, and_true] at hv
      obtain ⟨rfl, -, rfl⟩ := hv
      have hgl := (Array.getElem?_eq_some_iff.1 hg).1
      refine ⟨K.vs_len d, .inr ⟨g, cap, putCells id 0 (flatK K.enc K.k d.toArray) cur, by rw [hd], hb, ?_, by rw [hd]; exact h1, h2, by simp [putCells, h3], ?_⟩⟩
      · rw [hh g hgl, hg]; simp [onCells]
      · rw [← flatK_toList K d]
        have hFs : (flatK K.enc K.k d.toArray).size = l.length * K.k := by simp [hd]
        have hle : l.length * K.k ≤ cur.size := by rw [h3]; exact Nat.mul_le_mul_right _ h1
        apply List.ext_getElem?
        intro t
        rw [hd]
        by_cases ht : t < l.length * K.k
        · rw [List.getElem?_take, if_pos ht, Array.getElem?_toList, Array.getElem?_toList]
          simp only [putCells, Array.getElem?_mapIdx]
          rw [Array.getElem?_eq_getElem (by omega), Option.map_some, if_pos ⟨by omega, by omega⟩, Array.getElem?_eq_getElem (by omega), getElem!_pos _ _ (by omega)]
          rfl
        · rw [List.getElem?_take, if_neg ht, List.getElem?_eq_none (by simp; rw [hd]; omega)]
  · exact ⟨by subst hw; rfl, by subst hw; rfl, by subst hw; rfl, hsz, fun j hj hne => by
      rw [hh j hj]
      simp only [if_neg (show ¬ j = g from fun q => hne (by rw [q])), Option.map_id']⟩
end
end Go.Proofs.Ythmojdmdhabogaa
