/- A block of memory that a call alone writes, cell by cell; what stays beside it. Nothing of any program. -/
import Derived.Below
import Derived.Laws.Rows
import Derived.Lib.OthersKept
import Derived.Lib.Hide
namespace Go.Proofs.Ythmojdmdhabogaa
open Go.RowKit

/-- Block B holds the cells cs, of type T. -/
def BlkAt (B : Nat) (T : TypeId) (cs : Array Value) (w : World) : Prop := w.heap[B]? = some (.cells cs T (0, 0))
theorem BlkAt.lt {B : Nat} {T : TypeId} {cs : Array Value} {w : World} (h : BlkAt B T cs w) : B < w.heap.size := (Array.getElem?_eq_some_iff.1 h).1
theorem BlkAt.cell {B : Nat} {T : TypeId} {cs : Array Value} {w : World} (h : BlkAt B T cs w) (k : Nat) : w.cell? ⟨B, k, none⟩ = cs[k]? := cell_of_row w B k cs T (0, 0) h
theorem BlkAt.free {B : Nat} {T : TypeId} {cs : Array Value} {w : World} (h : BlkAt B T cs w) (k : Nat) : w.frozen? ⟨B, k, none⟩ = false := frozen_of_row w B k cs T h
theorem BlkAt.set {B : Nat} {T : TypeId} {cs : Array Value} {w : World} (h : BlkAt B T cs w) (k : Nat) (v : Value) : BlkAt B T (cs.setIfInBounds k v) (w.setCell ⟨B, k, none⟩ v) := by
  unfold BlkAt at *
  simp [World.setCell, Array.getElem?_modify, h]
theorem BlkAt.eq {B : Nat} {T : TypeId} {cs cs' : Array Value} {w : World} (h : BlkAt B T cs w) (e : cs = cs') : BlkAt B T cs' w := e ▸ h
theorem BlkAt.keep {B : Nat} {T : TypeId} {cs : Array Value} {w w' : World} (h : BlkAt B T cs w) (k : Below w.heap.size w w') : BlkAt B T cs w' := (k.block B h.lt).trans h
theorem BlkAt.new (w : World) (T : TypeId) (cs : Array Value) : BlkAt w.heap.size T cs (w.alloc (.cells cs T)) := by
  unfold BlkAt
  show (w.heap.push _)[w.heap.size]? = _
  simp

/-- Of all that was there, block B alone may read otherwise. -/
structure OnlyB (B : Nat) (w w' : World) : Prop where
  os : w'.os = w.os
  tape : w'.tape = w.tape
  output : w'.output = w.output
  size : w.heap.size ≤ w'.heap.size
  block : ∀ k, k ≠ B → k < w.heap.size → w'.heap[k]? = w.heap[k]?
theorem OnlyB.refl (B : Nat) (w : World) : OnlyB B w w := ⟨rfl, rfl, rfl, Nat.le_refl _, fun _ _ _ => rfl⟩
theorem OnlyB.trans {B : Nat} {a b c : World} (h : OnlyB B a b) (k : OnlyB B b c) : OnlyB B a c :=
  ⟨k.os.trans h.os, k.tape.trans h.tape, k.output.trans h.output, Nat.le_trans h.size k.size, fun i hi hl => (k.block i hi (Nat.lt_of_lt_of_le hl h.size)).trans (h.block i hi hl)⟩
theorem OnlyB.of {B : Nat} {w w' : World} (h : Below w.heap.size w w') : OnlyB B w w' := ⟨h.os, h.tape, h.output, h.size, fun k _ hl => h.block k hl⟩
theorem OnlyB.set (B k : Nat) (w : World) (v : Value) : OnlyB B w (w.setCell ⟨B, k, none⟩ v) :=
  ⟨rfl, rfl, rfl, by simp [World.setCell], fun i hi _ => Below.heap_setCell _ _ _ _ hi⟩
theorem OnlyB.on {B : Nat} {a b c : World} (h : OnlyB B a b) (k : Below b.heap.size b c) : OnlyB B a c := h.trans (.of k)
theorem OnlyB.next {B : Nat} {a b : World} (h : OnlyB B a b) (k : Nat) (v : Value) : OnlyB B a (b.setCell ⟨B, k, none⟩ v) := h.trans (.set B k b v)
theorem OnlyB.below {B B0 : Nat} {a w w' : World} (h : OnlyB B w w') (hb : Below B0 a w) (h0 : B0 ≤ B) (hs : B0 ≤ w.heap.size) : Below B0 a w' :=
  hb.trans ⟨h.os, h.tape, h.output, h.size, fun k hk => h.block k (by omega) (by omega)⟩
theorem OnlyB.iter {B : Nat} {w w' : World} {T : TypeId} {cs : Array Value} (h : OnlyB B w w') (hB : BlkAt B T cs w) {k : Nat} {s : ByteArray} {p : Nat} (hk : w.heap[k]? = some (.stringIter s p)) : w'.heap[k]? = some (.stringIter s p) := by
  refine (h.block k (fun e => ?_) (Array.getElem?_eq_some_iff.1 hk).1).trans hk
  subst e
  unfold BlkAt at hB
  rw [hB] at hk
  cases hk
/-- Texts of the call's own, elsewhere. -/
theorem own_off {w w' : World} {B base size n : Nat} {e T : TypeId} {cs : Array Value} {v : Value} {xs : List Value} (h : w.ownsRow base e size v n xs) (hB : BlkAt B T cs w) (hT : T ≠ e) (k : OnlyB B w w') : w'.ownsRow base e size v n xs := by
  refine ⟨h.1, h.2.imp id ?_⟩
  rintro ⟨g, cap, cur, hv, hb, hg, rest⟩
  refine ⟨g, cap, cur, hv, hb, (k.block g (fun e => ?_) (Array.getElem?_eq_some_iff.1 hg).1).trans hg, rest⟩
  subst e
  unfold BlkAt at hB
  rw [hB] at hg
  cases hg
  exact hT rfl
theorem own_keep {w w' : World} {base size n : Nat} {e : TypeId} {v : Value} {xs : List Value} (h : w.ownsRow base e size v n xs) (k : Below w.heap.size w w') : w'.ownsRow base e size v n xs := by
  refine ⟨h.1, h.2.imp id ?_⟩
  rintro ⟨g, cap, cur, hv, hb, hg, rest⟩
  exact ⟨g, cap, cur, hv, hb, (k.block g (Array.getElem?_eq_some_iff.1 hg).1).trans hg, rest⟩
theorem own_lower {w : World} {base base' size n : Nat} {e : TypeId} {v : Value} {xs : List Value} (h : w.ownsRow base e size v n xs) (k : base' ≤ base) : w.ownsRow base' e size v n xs := by
  refine ⟨h.1, h.2.imp id ?_⟩
  rintro ⟨g, cap, cur, hv, hb, rest⟩
  exact ⟨g, cap, cur, hv, Nat.le_trans k hb, rest⟩
/-- A text of a list of texts. -/
theorem own_text {w : World} {base n A c : Nat} {e : TypeId} {l : List ByteArray} (h : w.ownsRow base e 1 (.slice (some ⟨A, 0, none⟩) n c) n (l.map Value.string)) {j : Nat} {x : ByteArray} (hj : l[j]? = some x) : w.cell? ⟨A, j, none⟩ = some (.string x) := by
  obtain ⟨h1, h2⟩ := h
  rcases h2 with ⟨hv, _⟩ | ⟨g, cap, cur, hv, hb, hg, hn, hc, hs, ht⟩
  · cases hv
  · simp only [Value.slice.injEq, Option.some.injEq, Addr.mk.injEq, and_true] at hv
    obtain ⟨rfl, _, rfl⟩ := hv
    rw [cell_of_row _ _ _ _ _ _ hg]
    have hlt : j < l.length := (List.getElem?_eq_some_iff.1 hj).1
    have e : (l.map Value.string)[j]? = some (.string x) := by simp [hj]
    rw [← ht, List.getElem?_take] at e
    simp only [List.length_map, Nat.mul_one] at h1 e
    rw [if_pos (by omega)] at e
    simpa using e
end Go.Proofs.Ythmojdmdhabogaa
