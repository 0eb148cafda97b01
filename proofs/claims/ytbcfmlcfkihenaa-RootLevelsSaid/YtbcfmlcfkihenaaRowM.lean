/- Rows of integers in memory: an array of n integers of one kind as a function of the place; what storing one of them makes of it. Nothing of any program. -/
import Derived.WalkKit
import Derived.PlainAid
import Derived.Laws.Rows
import Derived.Laws.CopyOwn
namespace Go.Proofs.Ytbcfmlcfkihenaa
open Go.RowKit

/-- The cells of an array of n integers. -/
def row (n : Nat) (k : IntKind) (f : Nat → Int) : Array Value := Array.ofFn (n := n) fun i => Value.int k (f i.val)
/-- The place i holds v, the others what they held. -/
def upd (f : Nat → Int) (i : Nat) (v : Int) (j : Nat) : Int := if j = i then v else f j

theorem row_size (n : Nat) (k : IntKind) (f : Nat → Int) : (row n k f).size = n := by simp [row]
theorem row_get {n : Nat} (k : IntKind) (f : Nat → Int) {i : Nat} (h : i < n) : (row n k f)[i]? = some (.int k (f i)) := by
  simp [row, h]
theorem row_set {n : Nat} (k : IntKind) (f : Nat → Int) (i : Nat) (v : Int) : (row n k f).setIfInBounds i (.int k v) = row n k (upd f i v) := by
  apply Array.ext_getElem?
  intro j
  by_cases h : j < n
  · rw [row_get k _ h]
    by_cases hj : j = i
    · subst hj
      simp [upd, row_size, h]
    · simp [upd, Ne.symm hj, hj, row_get k f h]
  · have e1 : (row n k (upd f i v))[j]? = none := by simp [row_size, Nat.not_lt.1 h]
    have e2 : ((row n k f).setIfInBounds i (.int k v))[j]? = none := by simp [row_size, Nat.not_lt.1 h]
    rw [e1, e2]
theorem row_ext {n : Nat} (k : IntKind) {f g : Nat → Int} (h : ∀ i, i < n → f i = g i) : row n k f = row n k g := by
  unfold row
  congr 1
  funext i
  rw [h i.val i.isLt]
theorem row_ones (n : Nat) (k : IntKind) (f : Nat → Int) : (row n k f).all (·.oneCell') = true := by
  rw [Array.all_eq_true]
  intro i h
  simp [row, Value.oneCell']
theorem row_32 : #[Value.int .i64 0, Value.int .i64 0, Value.int .i64 0, Value.int .i64 0, Value.int .i64 0, Value.int .i64 0, Value.int .i64 0, Value.int .i64 0,
    Value.int .i64 0, Value.int .i64 0, Value.int .i64 0, Value.int .i64 0, Value.int .i64 0, Value.int .i64 0, Value.int .i64 0, Value.int .i64 0,
    Value.int .i64 0, Value.int .i64 0, Value.int .i64 0, Value.int .i64 0, Value.int .i64 0, Value.int .i64 0, Value.int .i64 0, Value.int .i64 0,
    Value.int .i64 0, Value.int .i64 0, Value.int .i64 0, Value.int .i64 0, Value.int .i64 0, Value.int .i64 0, Value.int .i64 0, Value.int .i64 0] = row 32 .i64 fun _ => 0 := by rfl

theorem setRow_alloc_new (w : World) (c c' : Array Value) (t : TypeId) : (w.alloc (.cells c t)).setRow w.heap.size c' = w.alloc (.cells c' t) := by
  unfold World.setRow World.alloc
  congr 1
  apply Array.ext_getElem?
  intro k
  rw [Array.getElem?_modify]
  by_cases hk : w.heap.size = k
  · subst hk; simp
  · have hk' : k ≠ w.heap.size := fun e => hk e.symm
    simp [hk, hk', Array.getElem?_push]
theorem setRow_alloc_past (w : World) (o : Obj) (g : Nat) (c : Array Value) (h : g < w.heap.size) : (w.alloc o).setRow g c = (w.setRow g c).alloc o := by
  unfold World.setRow World.alloc
  congr 1
  apply Array.ext_getElem?
  intro k
  simp only [Array.getElem?_modify, Array.getElem?_push, Array.size_modify]
  by_cases hk : k = w.heap.size
  · subst hk; simp [Nat.ne_of_lt h]
  · simp [hk]
theorem heap_at0 (w : World) (o o' : Obj) : ((w.alloc o).alloc o').heap[w.heap.size]? = some o := by
  rw [Below.heap_alloc _ _ _ (by simp)]; exact heap_alloc_new w o
theorem heap_at1 (w : World) (o o' : Obj) : ((w.alloc o).alloc o').heap[w.heap.size + 1]? = some o' := by
  have := heap_alloc_new (w.alloc o) o'
  rwa [World.size_alloc] at this
theorem heap_lt (w : World) (o : Obj) (n : Nat) (h : n < w.heap.size) : (w.alloc o).heap[n]? = w.heap[n]? := Below.heap_alloc w o n h
theorem heap_atn (w : World) (o : Obj) (n : Nat) (h : n = w.heap.size) : (w.alloc o).heap[n]? = some o := by
  subst h; exact heap_alloc_new w o
theorem setRow_atn (w : World) (c c' : Array Value) (t : TypeId) (n : Nat) (h : n = w.heap.size) : (w.alloc (.cells c t)).setRow n c' = w.alloc (.cells c' t) := by
  subst h; exact setRow_alloc_new w c c' t
end Go.Proofs.Ytbcfmlcfkihenaa
