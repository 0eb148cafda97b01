/- Memory: strings in a walk, bytes, structs' blocks, words, lists of marks. Nothing of any program. -/
import Derived.WalkKit
import Derived.Lib.Strings
import Derived.Test.YtekhgidbnpfmnaaGreatDoorNum
import Derived.Laws.BytesArg
import Derived.Laws.AppendOwn
import Derived.Laws.OwnMore
import Derived.OwnWalk
import Derived.OpenShut
import Derived.Below
import Derived.Laws.Rows
import Derived.Lib.OthersKept
import Derived.Lib.Hide
import Derived.Laws.CopyOwn
import Derived.Deep.AppendLies
namespace Go.Proofs.YtekhgidbnpfmnaaGreatDoor
open Go.RowKit

theorem str_same {a b : ByteArray} (h : a = b) : (a.toList == b.toList) = true := by rw [h]; exact beq_self_eq_true _
theorem str_apart {a b : ByteArray} (h : a ≠ b) : (a.toList == b.toList) = false := by
  rw [beq_eq_false_iff_ne]
  intro e
  rw [ByteArray.toList_eq, ByteArray.toList_eq] at e
  apply h
  cases a; cases b; congr 1; exact Array.toList_inj.1 e
theorem str_eq {a b : ByteArray} (h : (a.toList == b.toList) = true) : a = b := by
  by_cases e : a = b
  · exact e
  · rw [str_apart e] at h; cases h
theorem str_ne {a b : ByteArray} (h : (a.toList == b.toList) = false) : a ≠ b := fun e => by rw [str_same e] at h; cases h
theorem str_none {a : ByteArray} (h : a = ⟨#[]⟩) : a.toList.isEmpty = true := by rw [h, ByteArray.toList_eq]; rfl
theorem str_some {a : ByteArray} (h : a ≠ ⟨#[]⟩) : a.toList.isEmpty = false := by
  rw [ByteArray.toList_eq]
  cases e : a.data.toList with
  | nil => exact absurd (by cases a; congr 1; exact Array.toList_inj.1 (by simpa using e)) h
  | cons x l => rfl
/-- Held against a constant text (the walk writes such a text as its bytes). -/
theorem str_is {a : ByteArray} {l : List UInt8} (h : a.data.toList = l) : (a.toList == l) = true := by rw [ByteArray.toList_eq, h]; exact beq_self_eq_true _
theorem str_no {a : ByteArray} {l : List UInt8} (h : a.data.toList ≠ l) : (a.toList == l) = false := by rw [ByteArray.toList_eq, beq_eq_false_iff_ne]; exact h
theorem ret_str {a b : ByteArray} (h : a = b) : Ending.returned (.string a) = .returned (.string b) := by rw [h]
theorem str_ext {a b : ByteArray} (h : a.data.toList = b.data.toList) : a = b := by
  cases a; cases b; congr 1; exact Array.toList_inj.1 h
theorem str_take (s : ByteArray) (b : Nat) : s.extract 0 b = ⟨(s.data.toList.take b).toArray⟩ := by
  apply str_ext
  have := Lib.extract_toList s 0 b
  rw [ByteArray.toList_eq] at this
  rw [this]
  simp
theorem str_drop (s : ByteArray) (a : Nat) : s.extract a s.size = ⟨(s.data.toList.drop a).toArray⟩ := by
  apply str_ext
  have := Lib.extract_toList s a s.size
  rw [ByteArray.toList_eq] at this
  rw [this]
  show List.take (s.size - a) (s.data.toList.drop a) = s.data.toList.drop a
  rw [List.take_of_length_le]
  rw [List.length_drop]
  exact Nat.le_refl _

open Go.RowKit Go.OpenShut Go.ChangeShapes

/-- The byte at place i (behind a name, so that no walk turns it). -/
def byAt (l : List Int) (i : Nat) : Int := l.getD i 0
/-- The numbers of l are bytes. -/
def Bd8 (l : List Int) : Prop := ∀ x ∈ l, 0 ≤ x ∧ x ≤ 255
/-- The bytes l stand at the slice a, n, c. -/
structure By (w : World) (a : Option Addr) (n c : Nat) (l : List Int) : Prop where
  len : l.length = n
  cap : n ≤ c
  big : c ≤ maxLen
  nil : a = none → c = 0
  bd : Bd8 l
  lie : 0 < n → ∃ b off, a = some ⟨b, off, none⟩ ∧ ∀ i, i < n → w.cell? ⟨b, off + i, none⟩ = some (.int .u8 (byAt l i))

/-- What is told of a slice of integers that came in: it is nil; or it leads to a row of cap cells, the numbers zs, each fitting its kind. -/
def IsRow (k : IntKind) (w : World) (a : Option Addr) (len cap : Nat) (zs : List Int) : Prop :=
  (a = none ∧ len = 0 ∧ cap = 0 ∧ zs = []) ∨
  ∃ x, a = some x ∧ len ≤ cap ∧ cap ≤ maxLen ∧ zs.length = cap ∧ (∀ i, i < zs.length → w.cell? (x.add i) = some (.int k (zs.getD i 0))) ∧ ∀ n ∈ zs, (Lit.int k n).wf = true

theorem retI {k : IntKind} {a b : Int} (h : a = b) : Ending.returned (.int k a) = .returned (.int k b) := by rw [h]
theorem cell_lt {w : World} {p : Addr} {v : Value} (h : w.cell? p = some v) : p.block < w.heap.size := by
  rcases Nat.lt_or_ge p.block w.heap.size with h' | h'
  · exact h'
  · have e : w.heap[p.block]? = none := by simp [h']
    simp [World.cell?, e] at h
theorem Bd8.at {l : List Int} (h : Bd8 l) {i : Nat} (hi : i < l.length) : 0 ≤ byAt l i ∧ byAt l i ≤ 255 := by
  have : byAt l i ∈ l := by
    unfold byAt
    rw [List.getD_eq_getElem?_getD, List.getElem?_eq_getElem hi]; exact List.getElem_mem _
  exact h _ this
theorem Bd8.take {l : List Int} (h : Bd8 l) (k : Nat) : Bd8 (l.take k) := fun x hx => h x (List.mem_of_mem_take hx)
theorem Bd8.drop {l : List Int} (h : Bd8 l) (k : Nat) : Bd8 (l.drop k) := fun x hx => h x (List.mem_of_mem_drop hx)
theorem Bd8.append {l m : List Int} (h : Bd8 l) (k : Bd8 m) : Bd8 (l ++ m) := fun x hx => (List.mem_append.1 hx).elim (h x) (k x)
theorem Bd8.nil : Bd8 [] := fun _ h => by cases h
theorem Bd8.cons {x : Int} {l : List Int} (h1 : 0 ≤ x) (h2 : x ≤ 255) (h : Bd8 l) : Bd8 (x :: l) := fun y hy => (List.mem_cons.1 hy).elim (fun e => e ▸ ⟨h1, h2⟩) (h y)
theorem byAt_take {l : List Int} {k i : Nat} (h : i < k) : byAt (l.take k) i = byAt l i := by
  unfold byAt; simp only [List.getD_eq_getElem?_getD, List.getElem?_take, if_pos h]
theorem byAt_drop (l : List Int) (k i : Nat) : byAt (l.drop k) i = byAt l (k + i) := by
  unfold byAt; simp only [List.getD_eq_getElem?_getD, List.getElem?_drop]
theorem byAt_eq {l : List Int} {i : Nat} (h : i < l.length) : l[i] = byAt l i := by
  unfold byAt; rw [List.getD_eq_getElem?_getD, List.getElem?_eq_getElem h]; rfl
theorem take_snoc8 {l : List Int} {k : Nat} (h : k < l.length) : l.take (k + 1) = l.take k ++ [byAt l k] := by
  rw [List.take_succ_eq_append_getElem h, byAt_eq h]
theorem by_add (b off i : Nat) : Addr.add ⟨b, off, none⟩ i = ⟨b, off + i, none⟩ := by
  unfold Addr.add; by_cases h : i = 0 <;> simp [h]

theorem By.of_row {w : World} {a : Option Addr} {n c : Nat} {zs : List Int} (h : IsRow .u8 w a n c zs) : By w a n c (zs.take n) := by
  rcases h with ⟨rfl, rfl, rfl, rfl⟩ | ⟨x, rfl, hl, hm, hz, hcell, hwz⟩
  · exact ⟨rfl, Nat.le_refl _, by unfold maxLen; omega, fun _ => rfl, by simpa using Bd8.nil, fun h => absurd h (Nat.lt_irrefl _)⟩
  · refine ⟨by simp; omega, hl, hm, fun h => (nomatch h), Bd8.take (fun y hy => bounds_u8 (hwz y hy)) n, fun hn => ?_⟩
    obtain ⟨b, off, s⟩ := x
    obtain rfl : s = none := by simpa [Addr.add] using World.cell?_spot (hcell 0 (by omega))
    exact ⟨b, off, rfl, fun i hi => by rw [← by_add, hcell i (by omega), byAt_take hi]; rfl⟩
theorem By.keep {w w' : World} {a : Option Addr} {n c B : Nat} {l : List Int} (h : By w a n c l) (hb : Below B w w') (hB : w.heap.size ≤ B) : By w' a n c l := by
  refine ⟨h.len, h.cap, h.big, h.nil, h.bd, fun hn => ?_⟩
  obtain ⟨b, off, e, hc⟩ := h.lie hn
  exact ⟨b, off, e, fun i hi => by
    rw [hb.cell (p := ⟨b, off + i, none⟩) (Nat.lt_of_lt_of_le (cell_lt (hc i hi)) hB)]; exact hc i hi⟩
/-- Kept by whatever leaves its own block alone. -/
theorem By.keepB {w w' : World} {a : Option Addr} {n c B : Nat} {l : List Int} (h : By w a n c l) (hb : Below B w w') (hB : ∀ b off, a = some ⟨b, off, none⟩ → b < B) : By w' a n c l := by
  refine ⟨h.len, h.cap, h.big, h.nil, h.bd, fun hn => ?_⟩
  obtain ⟨b, off, e, hc⟩ := h.lie hn
  exact ⟨b, off, e, fun i hi => by
    rw [hb.cell (p := ⟨b, off + i, none⟩) (hB b off e)]; exact hc i hi⟩
/-- Its first k bytes. -/
theorem By.pre {w : World} {a : Option Addr} {n c : Nat} {l : List Int} (h : By w a n c l) {k : Nat} (hk : k ≤ n) : By w a k c (l.take k) := by
  refine ⟨by rw [List.length_take, h.len]; omega, Nat.le_trans hk h.cap, h.big, h.nil, h.bd.take k, fun hn => ?_⟩
  obtain ⟨b, off, e, hc⟩ := h.lie (by omega)
  exact ⟨b, off, e, fun i hi => by rw [hc i (by omega), byAt_take hi]⟩
/-- The bytes from place k on. -/
theorem By.post {w : World} {b off n c : Nat} {l : List Int} (h : By w (some ⟨b, off, none⟩) n c l) {k : Nat} (hk : k ≤ n) : By w (some ⟨b, off + k, none⟩) (n - k) (c - k) (l.drop k) := by
  have := h.cap; have := h.big
  refine ⟨by rw [List.length_drop, h.len], by omega, by omega, fun h => (nomatch h), h.bd.drop k, fun hn => ?_⟩
  obtain ⟨b', off', e, hc⟩ := h.lie (by omega)
  obtain ⟨rfl, rfl⟩ : b = b' ∧ off = off' := by simpa using e
  exact ⟨b, off + k, rfl, fun i hi => by rw [Nat.add_assoc, hc (k + i) (by omega), byAt_drop]⟩
theorem By.none_eq {w : World} {n c : Nat} {l : List Int} (h : By w none n c l) : n = 0 ∧ c = 0 ∧ l = [] := by
  have h1 := h.nil rfl
  have h2 := h.cap
  have h3 := h.len
  obtain rfl : n = 0 := by omega
  exact ⟨rfl, h1, List.eq_nil_of_length_eq_zero h3⟩
theorem By.emp (w : World) : By w none 0 0 [] := ⟨rfl, Nat.le_refl _, by unfold maxLen; omega, fun _ => rfl, Bd8.nil, fun h => absurd h (Nat.lt_irrefl _)⟩
theorem By.lt {w : World} {a : Option Addr} {n c : Nat} {l : List Int} (h : By w a n c l) (hn : 0 < n) : ∀ b off, a = some ⟨b, off, none⟩ → b < w.heap.size := by
  intro b off e
  obtain ⟨b', off', e', hc⟩ := h.lie hn
  obtain ⟨rfl, rfl⟩ : b = b' ∧ off = off' := by rw [e] at e'; simpa using e'
  exact cell_lt (hc 0 hn)
/-- As a string. -/
theorem By.str {P : Program} {w : World} {a : Option Addr} {n c : Nat} {l : List Int} (h : By w a n c l) (src e dst : TypeId)
    (hs : P.underlying src = some (.slice e)) (he : P.underlying e = some (.int .u8)) (hd : P.underlying dst = some .string) :
    (convert src dst (.slice a n c)).run P w = .ok (.string (strOfNums l)) w := by
  rcases Nat.eq_zero_or_pos n with hn | hn
  · subst hn
    obtain rfl : l = [] := List.eq_nil_of_length_eq_zero h.len
    rw [run_convert_bytes_string w src dst e _ 0 c hs he hd]
    cases a <;> simp [Conv.bytesToString, loadCells]
    all_goals rfl
  · obtain ⟨b, o, rfl, hc⟩ := h.lie hn
    exact run_convert_bytes_arg (P := P) w src e hs he b o n c l h.len (fun i hi => hc i hi) dst hd
theorem strOfNums_inj {l m : List Int} (hl : Bd8 l) (hm : Bd8 m) (h : strOfNums l = strOfNums m) : l = m := by
  have e : (l.map fun n => UInt8.ofNat n.toNat) = m.map fun n => UInt8.ofNat n.toNat := by
    rw [← strOfNums_data, ← strOfNums_data, h]
  have back : ∀ {k : List Int}, Bd8 k → (k.map fun n => UInt8.ofNat n.toNat).map (fun u => (u.toNat : Int)) = k := by
    intro k hk
    rw [List.map_map]
    conv => rhs; rw [← List.map_id k]
    apply List.map_congr_left
    intro x hx
    have := hk x hx
    simp only [Function.comp, UInt8.toNat_ofNat', id]
    omega
  rw [← back hl, ← back hm, e]
theorem str_same8 {l m : List Int} (h : l = m) : ((strOfNums l).toList == (strOfNums m).toList) = true := str_same (by rw [h])
theorem str_apart8 {l m : List Int} (hl : Bd8 l) (hm : Bd8 m) (h : l ≠ m) : ((strOfNums l).toList == (strOfNums m).toList) = false := str_apart fun e => h (strOfNums_inj hl hm e)
theorem str_const8 {l : List Int} {k : List UInt8} (h : (l.map fun n => UInt8.ofNat n.toNat) = k) : ((strOfNums l).toList == k) = true := str_is (by rw [strOfNums_data]; exact h)

/-- The bytes l are a call's own, in a block from base on. -/
def Own (w : World) (base : Nat) (e : TypeId) (v : Value) (l : List Int) : Prop := w.ownsRow base e 1 v l.length (l.map (Value.int .u8))
theorem Own.by {w : World} {base : Nat} {e : TypeId} {v : Value} {l : List Int} (h : Own w base e v l) (hl : Bd8 l) : ∃ a c, v = .slice a l.length c ∧ By w a l.length c l := by
  have h0 := h
  obtain ⟨_, hcase⟩ := h
  rcases hcase with ⟨rfl, h9⟩ | ⟨g, cap, cur, rfl, hg, hh, hn, hcap, hsz, htake⟩
  · obtain rfl : l = [] := List.eq_nil_of_length_eq_zero h9
    exact ⟨none, 0, rfl, By.emp w⟩
  · refine ⟨_, _, rfl, rfl, hn, hcap, fun h => (nomatch h), hl, fun _ => ⟨g, 0, rfl, fun i hi => ?_⟩⟩
    have hc := World.ownsRow.cellAt h0 i (by omega)
    rw [Nat.zero_add, hc, List.getElem?_map, List.getElem?_eq_getElem hi, byAt_eq hi]
    rfl
theorem Own.byn {w : World} {base : Nat} {e : TypeId} {v : Value} {l : List Int} (h : Own w base e v l) (hl : Bd8 l) : ∃ a n c, v = .slice a n c ∧ l.length = n ∧ By w a n c l := by
  obtain ⟨a, c, e, h⟩ := h.by hl
  exact ⟨a, _, c, e, rfl, h⟩
theorem Own.below {w w' : World} {base B : Nat} {e : TypeId} {v : Value} {l : List Int} (h : Own w base e v l) (hb : Below B w w') (hB : w.heap.size ≤ B) : Own w' base e v l := by
  obtain ⟨h1, hcase⟩ := h
  refine ⟨h1, ?_⟩
  rcases hcase with h2 | ⟨g, cap, cur, hv, hg, hh, r⟩
  · exact .inl h2
  · exact .inr ⟨g, cap, cur, hv, hg, by rw [hb.block g (Nat.lt_of_lt_of_le (Array.getElem?_eq_some_iff.1 hh).1 hB)]; exact hh, r⟩
theorem Own.mono {w : World} {base base' : Nat} {e : TypeId} {v : Value} {l : List Int} (h : Own w base e v l) (hb : base' ≤ base) : Own w base' e v l := by
  obtain ⟨h1, hcase⟩ := h
  refine ⟨h1, ?_⟩
  rcases hcase with h2 | ⟨g, cap, cur, hv, hg, r⟩
  · exact .inl h2
  · exact .inr ⟨g, cap, cur, hv, Nat.le_trans hb hg, r⟩
theorem Own.lt {w : World} {base : Nat} {e : TypeId} {v : Value} {l : List Int} (h : Own w base e v l) : ∀ k, v.ownBlock = some k → base ≤ k ∧ k < w.heap.size := World.ownsRow.lt h
theorem Own.form {w : World} {base : Nat} {e : TypeId} {v : Value} {l : List Int} {n : Nat} (h : Own w base e v l) (hl : l.length = n) (hn : 0 < n) : ∃ g cap, v = .slice (some ⟨g, 0, none⟩) n cap ∧ base ≤ g ∧ g < w.heap.size ∧ n ≤ cap ∧ cap ≤ maxLen := by
  subst hl
  obtain ⟨_, hcase⟩ := h
  rcases hcase with ⟨_, h0⟩ | ⟨g, cap, cur, hv, hb, hg, h1, h2, _⟩
  · omega
  · exact ⟨g, cap, hv, hb, (Array.getElem?_eq_some_iff.1 hg).1, h1, h2⟩
theorem Own.cell {w : World} {base g cap n : Nat} {e : TypeId} {l : List Int} (h : Own w base e (.slice (some ⟨g, 0, none⟩) n cap) l) (hl : l.length = n) {j : Nat} (hj : j < n) : w.cell? ⟨g, j, none⟩ = some (.int .u8 (byAt l j)) := by
  subst hl
  rw [World.ownsRow.cellAt h j (by omega), List.getElem?_map, List.getElem?_eq_getElem hj, byAt_eq hj]
  rfl
theorem Own.free {w : World} {base g cap n : Nat} {e : TypeId} {l : List Int} (h : Own w base e (.slice (some ⟨g, 0, none⟩) n cap) l) (hl : l.length = n) (j : Nat) : w.frozen? ⟨g, j, none⟩ = false := by
  subst hl
  exact World.ownsRow.frozenAt h j
theorem Own.set {w : World} {base g cap n : Nat} {e : TypeId} {l : List Int} (h : Own w base e (.slice (some ⟨g, 0, none⟩) n cap) l) (hl : l.length = n) (j : Nat) (u : Int) :
    Own (w.setCell ⟨g, j, none⟩ (.int .u8 u)) base e (.slice (some ⟨g, 0, none⟩) n cap) (l.set j u) := by
  subst hl
  have := (World.ownsRow.stored h j (.int .u8 u)).1
  unfold Own
  rw [List.length_set, List.map_set]
  exact this
theorem Own.nil (w : World) (base : Nat) (e : TypeId) : Own w base e (.slice none 0 0) [] := World.ownsRow_nil w base e 1
/-- A literal's block. -/
theorem Own.lit (w : World) (e : TypeId) {base : Nat} (hb : base ≤ w.heap.size) (l : List Int) (hm : l.length ≤ maxLen) (cs : Array Value) (hcs : cs.toList = l.map (Value.int .u8)) : Own (w.alloc (.cells cs e)) base e (.slice (some ⟨w.heap.size, 0, none⟩) l.length l.length) l := by
  have hs : cs.size = l.length := by rw [← Array.length_toList, hcs]; simp
  have := World.ownsRow_lit (base := base) (e := e) (size := 1) w cs l.length hb hm (by omega)
  rw [hcs] at this
  exact this
theorem By.lit (w : World) (e : TypeId) {n : Nat} {l : List Int} (hl : l.length = n) (hm : n ≤ maxLen) (hd : Bd8 l) {cs : Array Value} (hcs : cs.toList = l.map (Value.int .u8)) : By (w.alloc (.cells cs e)) (some ⟨w.heap.size, 0, none⟩) n n l := by
  subst hl
  obtain ⟨a, c, e', h⟩ := (Own.lit w e (Nat.le_refl _) l hm cs hcs).by hd
  simp only [Value.slice.injEq] at e'
  obtain ⟨rfl, -, rfl⟩ := e'
  exact h
/-- A literal's block that bears the run-time's mark. -/
theorem By.litm (w : World) (e : TypeId) (m : Nat × Nat) {n : Nat} {l : List Int} (hl : l.length = n) (hm : n ≤ maxLen) (hd : Bd8 l) {cs : Array Value} (hcs : cs.toList = l.map (Value.int .u8)) : By (w.alloc (.cells cs e m)) (some ⟨w.heap.size, 0, none⟩) n n l := by
  have h := By.lit w e hl hm hd hcs
  refine ⟨h.len, h.cap, h.big, h.nil, h.bd, fun hn => ?_⟩
  obtain ⟨b, off, e', hc⟩ := h.lie hn
  simp only [Option.some.injEq, Addr.mk.injEq, and_true] at e'
  obtain ⟨rfl, rfl⟩ := e'
  refine ⟨_, _, rfl, fun i hi => ?_⟩
  rw [← hc i hi, cell_of_row _ _ _ cs e m (heap_alloc_new w _), cell_of_row _ _ _ cs e (0, 0) (heap_alloc_new w _)]
/-- 'append(v, s...)', v a call's own. -/
theorem run_append_by {P : Program} {w : World} (base : Nat) (t ty e : TypeId) (i : TypeInfo) (z : Value) (ht : P.underlying t = some (.slice e)) (hi : P.info? e = some i) (hz : i.zero = some z)
    (hsize : i.size = 1) (hby : i.bytes = 1) (hzs : z.cells.size = 1) {v : Value} {l : List Int} (hown : Own w base e v l) {p : Option Addr} {m c : Nat} {k : List Int} (hk : By w p m c k)
    (hlen : l.length + m ≤ 140737488355328) (hbase : base ≤ w.heap.size) :
    ∃ v' w', (Builtin.append_ #[t, t] ty #[v, .slice p m c]).run P w = .ok v' w' ∧ Own w' base e v' (l ++ k) ∧ w.grownBy w' v.ownBlock := by
  cases p with
  | none =>
    obtain ⟨rfl, rfl, rfl⟩ := hk.none_eq
    exact ⟨v, w, run_append_owned_none w base t ty e i 1 ht hi v l.length (l.map (Value.int .u8)) hown, by rw [List.append_nil]; exact hown, ⟨rfl, rfl, rfl, Nat.le_refl _, fun _ _ _ => rfl⟩⟩
  | some ad =>
    obtain ⟨v', w', hr, h2, h3, -⟩ := run_append_own (P := P) w base t ty e i z 1 1 ht hi hz hsize hby hzs (by decide) v l.length (l.map (Value.int .u8)) hown ad m c (k.map (Value.int .u8)) (by simp [hk.len])
      (fun j u hj => by
        have hjk : j < k.length := by
          have := (List.getElem?_eq_some_iff.1 hj).1
          simpa using this
        obtain ⟨b, off, e', hc⟩ := hk.lie (by have := hk.len; omega)
        obtain rfl : ad = ⟨b, off, none⟩ := by simpa using e'
        rw [by_add, hc j (by have := hk.len; omega)]
        rw [List.getElem?_map, List.getElem?_eq_getElem hjk, byAt_eq hjk] at hj
        exact hj)
      (fun u hu => by obtain ⟨x, _, rfl⟩ := List.mem_map.1 hu; rfl) (by unfold maxLen; omega) (by omega) hbase
    refine ⟨v', w', hr, ?_, h3⟩
    unfold Own
    rw [List.length_append, hk.len, List.map_append]
    exact h2
/-- A law of the walk: 'append(v, s...)' of bytes; what is told of the world behind it is that below base it is as it was. -/
theorem wp_append_by {P : Program} {w w0 : World} {o : Oper} {a : Act} {K : Act → World → Prop} {Q : Exit → Act → World → Prop} (s x : Operand) (t : TypeId)
    (ho : o.op = .call { callee := .builtin .append, args := #[s, x], argTypes := #[t, t] })
    (base : Nat) (e : TypeId) (i : TypeInfo) (z : Value) (ht : P.underlying t = some (.slice e)) (hi : P.info? e = some i) (hz : i.zero = some z)
    (hsize : i.size = 1) (hby : i.bytes = 1) (hzs : z.cells.size = 1) {v : Value} {l : List Int} (hs : a.eval s = v) (hown : Own w base e v l) {p : Option Addr} {m c : Nat} {k : List Int} (hx : a.eval x = .slice p m c) (hk : By w p m c k)
    (hlen : l.length + m ≤ 140737488355328) (hbase : base ≤ w.heap.size) (hb : Below base w0 w)
    (h : ∀ v' w', Own w' base e v' (l ++ k) → Below base w0 w' → base ≤ w'.heap.size → K (a.put o.dst v') w') : o.wp P a w K Q := by
  obtain ⟨v', w', hr, h2, h3⟩ := run_append_by (P := P) (w := w) base t o.type e i z ht hi hz hsize hby hzs hown hk hlen hbase
  unfold Oper.wp execOp
  simp only [ho, resolve, invoke, builtin, Sem.run_bind, Sem.run_pure, Result.andThen_ok, List.map_toArray, List.map_cons, List.map_nil, hs, hx, hr]
  exact h v' w' h2 (hb.grown h3 hbase (fun q hq => (hown.lt q hq).1)) (Nat.le_trans hbase h3.size)
theorem wpList_append_by {P : Program} {w w0 : World} {ops : Array Oper} {rest : List Oper} {o : Oper} {a : Act} {Q : Exit → Act → World → Prop} (hgd : Region.wanted o (yielded ops a.tmps) = true) (s x : Operand) (t : TypeId)
    (ho : o.op = .call { callee := .builtin .append, args := #[s, x], argTypes := #[t, t] })
    (base : Nat) (e : TypeId) (i : TypeInfo) (z : Value) (ht : P.underlying t = some (.slice e)) (hi : P.info? e = some i) (hz : i.zero = some z)
    (hsize : i.size = 1) (hby : i.bytes = 1) (hzs : z.cells.size = 1) {v : Value} {l : List Int} (hs : a.eval s = v) (hown : Own w base e v l) {p : Option Addr} {m c : Nat} {k : List Int} (hx : a.eval x = .slice p m c) (hk : By w p m c k)
    (hlen : l.length + m ≤ 140737488355328) (hbase : base ≤ w.heap.size) (hb : Below base w0 w)
    (h : ∀ v' w', Own w' base e v' (l ++ k) → Below base w0 w' → base ≤ w'.heap.size → wpList P ops Q rest (a.put o.dst v') w') : wpList P ops Q (o :: rest) a w := by
  refine wpList_step fun K hK => ?_
  rw [if_pos hgd]
  exact wp_append_by s x t ho base e i z ht hi hz hsize hby hzs hs hown hx hk hlen hbase hb fun v' w' h1 h2 h3 => hK _ _ (h v' w' h1 h2 h3)
/-- The same within a region that draws its order. -/
theorem step_append_by {P : Program} {w w0 : World} {ops : Array Oper} {o : Oper} {a : Act} {K : Act → World → Prop} {Q : Exit → Act → World → Prop} {E : Prop} (hgd : Region.wanted o (yielded ops a.tmps) = true) (s x : Operand) (t : TypeId)
    (ho : o.op = .call { callee := .builtin .append, args := #[s, x], argTypes := #[t, t] })
    (base : Nat) (e : TypeId) (i : TypeInfo) (z : Value) (ht : P.underlying t = some (.slice e)) (hi : P.info? e = some i) (hz : i.zero = some z)
    (hsize : i.size = 1) (hby : i.bytes = 1) (hzs : z.cells.size = 1) {v : Value} {l : List Int} (hs : a.eval s = v) (hown : Own w base e v l) {p : Option Addr} {m c : Nat} {k : List Int} (hx : a.eval x = .slice p m c) (hk : By w p m c k)
    (hlen : l.length + m ≤ 140737488355328) (hbase : base ≤ w.heap.size) (hb : Below base w0 w)
    (h : ∀ v' w', Own w' base e v' (l ++ k) → Below base w0 w' → base ≤ w'.heap.size → K (a.put o.dst v') w') :
    if Region.wanted o (yielded ops a.tmps) = true then Oper.wp P o a w K Q else E := by
  rw [if_pos hgd]
  exact wp_append_by s x t ho base e i z ht hi hz hsize hby hzs hs hown hx hk hlen hbase hb h
/-- What a call answers: bytes of its own. -/
def RetOwn (w : World) (e : TypeId) (l : List Int) (r : Ending) (w' : World) : Prop := ∃ v, r = .returned v ∧ Own w' w.heap.size e v l ∧ Below w.heap.size w w'
/-- What a call answers: bytes of its own, and an error's number. -/
def RetOwnE (w : World) (e : TypeId) (l : List Int) (k : Int) (r : Ending) (w' : World) : Prop := ∃ v, r = .returned (.tuple #[v, .int .i64 k]) ∧ Own w' w.heap.size e v l ∧ Below w.heap.size w w'
/-- What a call answers: n bytes. -/
def RetBy (w : World) (n : Nat) (l : List Int) (r : Ending) (w' : World) : Prop := ∃ a c, r = .returned (.slice a n c) ∧ By w' a n c l ∧ Below w.heap.size w w'

/-- Block B holds the cells cs, of type T. -/
def BlkAt (B : Nat) (T : TypeId) (cs : Array Value) (w : World) : Prop := w.heap[B]? = some (.cells cs T (0, 0))
theorem BlkAt.lt {B : Nat} {T : TypeId} {cs : Array Value} {w : World} (h : BlkAt B T cs w) : B < w.heap.size := (Array.getElem?_eq_some_iff.1 h).1
theorem BlkAt.cell {B : Nat} {T : TypeId} {cs : Array Value} {w : World} (h : BlkAt B T cs w) (k : Nat) : w.cell? ⟨B, k, none⟩ = cs[k]? := cell_of_row w B k cs T (0, 0) h
theorem BlkAt.free {B : Nat} {T : TypeId} {cs : Array Value} {w : World} (h : BlkAt B T cs w) (k : Nat) : w.frozen? ⟨B, k, none⟩ = false := frozen_of_row w B k cs T h
theorem BlkAt.set {B : Nat} {T : TypeId} {cs : Array Value} {w : World} (h : BlkAt B T cs w) (k : Nat) (v : Value) : BlkAt B T (cs.setIfInBounds k v) (w.setCell ⟨B, k, none⟩ v) := by
  unfold BlkAt at *
  simp [World.setCell, Array.getElem?_modify, h]
theorem BlkAt.eq {B : Nat} {T : TypeId} {cs cs' : Array Value} {w : World} (h : BlkAt B T cs w) (e : cs = cs') : BlkAt B T cs' w := e ▸ h
theorem BlkAt.keep {B : Nat} {T : TypeId} {cs : Array Value} {w w' : World} (h : BlkAt B T cs w) (k : Below w.heap.size w w') : BlkAt B T cs w' := (k.block B h.lt).trans h
theorem BlkAt.new (w : World) (T : TypeId) (cs : Array Value) : BlkAt w.heap.size T cs (w.alloc (.cells cs T)) := by
  unfold BlkAt
  show (w.heap.push _)[w.heap.size]? = _
  simp

/-- Of all that was there, block B alone may read otherwise. -/
structure OnlyB (B : Nat) (w w' : World) : Prop where
  os : w'.os = w.os
  tape : w'.tape = w.tape
  output : w'.output = w.output
  size : w.heap.size ≤ w'.heap.size
  block : ∀ k, k ≠ B → k < w.heap.size → w'.heap[k]? = w.heap[k]?
theorem OnlyB.refl (B : Nat) (w : World) : OnlyB B w w := ⟨rfl, rfl, rfl, Nat.le_refl _, fun _ _ _ => rfl⟩
theorem OnlyB.trans {B : Nat} {a b c : World} (h : OnlyB B a b) (k : OnlyB B b c) : OnlyB B a c :=
  ⟨k.os.trans h.os, k.tape.trans h.tape, k.output.trans h.output, Nat.le_trans h.size k.size, fun i hi hl => (k.block i hi (Nat.lt_of_lt_of_le hl h.size)).trans (h.block i hi hl)⟩
theorem OnlyB.of {B : Nat} {w w' : World} (h : Below w.heap.size w w') : OnlyB B w w' := ⟨h.os, h.tape, h.output, h.size, fun k _ hl => h.block k hl⟩
theorem OnlyB.set (B k : Nat) (w : World) (v : Value) : OnlyB B w (w.setCell ⟨B, k, none⟩ v) :=
  ⟨rfl, rfl, rfl, by simp [World.setCell], fun i hi _ => Below.heap_setCell _ _ _ _ hi⟩
theorem OnlyB.on {B : Nat} {a b c : World} (h : OnlyB B a b) (k : Below b.heap.size b c) : OnlyB B a c := h.trans (.of k)
theorem OnlyB.next {B : Nat} {a b : World} (h : OnlyB B a b) (k : Nat) (v : Value) : OnlyB B a (b.setCell ⟨B, k, none⟩ v) := h.trans (.set B k b v)
theorem OnlyB.below {B B0 : Nat} {a w w' : World} (h : OnlyB B w w') (hb : Below B0 a w) (h0 : B0 ≤ B) (hs : B0 ≤ w.heap.size) : Below B0 a w' :=
  hb.trans ⟨h.os, h.tape, h.output, h.size, fun k hk => h.block k (by omega) (by omega)⟩
theorem OnlyB.iter {B : Nat} {w w' : World} {T : TypeId} {cs : Array Value} (h : OnlyB B w w') (hB : BlkAt B T cs w) {k : Nat} {s : ByteArray} {p : Nat} (hk : w.heap[k]? = some (.stringIter s p)) : w'.heap[k]? = some (.stringIter s p) := by
  refine (h.block k (fun e => ?_) (Array.getElem?_eq_some_iff.1 hk).1).trans hk
  subst e
  unfold BlkAt at hB
  rw [hB] at hk
  cases hk
/-- Texts of the call's own, elsewhere. -/
theorem own_off {w w' : World} {B base size n : Nat} {e T : TypeId} {cs : Array Value} {v : Value} {xs : List Value} (h : w.ownsRow base e size v n xs) (hB : BlkAt B T cs w) (hT : T ≠ e) (k : OnlyB B w w') : w'.ownsRow base e size v n xs := by
  refine ⟨h.1, h.2.imp id ?_⟩
  rintro ⟨g, cap, cur, hv, hb, hg, rest⟩
  refine ⟨g, cap, cur, hv, hb, (k.block g (fun e => ?_) (Array.getElem?_eq_some_iff.1 hg).1).trans hg, rest⟩
  subst e
  unfold BlkAt at hB
  rw [hB] at hg
  cases hg
  exact hT rfl
theorem own_keep {w w' : World} {base size n : Nat} {e : TypeId} {v : Value} {xs : List Value} (h : w.ownsRow base e size v n xs) (k : Below w.heap.size w w') : w'.ownsRow base e size v n xs := by
  refine ⟨h.1, h.2.imp id ?_⟩
  rintro ⟨g, cap, cur, hv, hb, hg, rest⟩
  exact ⟨g, cap, cur, hv, hb, (k.block g (Array.getElem?_eq_some_iff.1 hg).1).trans hg, rest⟩
theorem own_lower {w : World} {base base' size n : Nat} {e : TypeId} {v : Value} {xs : List Value} (h : w.ownsRow base e size v n xs) (k : base' ≤ base) : w.ownsRow base' e size v n xs := by
  refine ⟨h.1, h.2.imp id ?_⟩
  rintro ⟨g, cap, cur, hv, hb, rest⟩
  exact ⟨g, cap, cur, hv, Nat.le_trans k hb, rest⟩
/-- A text of a list of texts. -/
theorem own_text {w : World} {base n A c : Nat} {e : TypeId} {l : List ByteArray} (h : w.ownsRow base e 1 (.slice (some ⟨A, 0, none⟩) n c) n (l.map Value.string)) {j : Nat} {x : ByteArray} (hj : l[j]? = some x) : w.cell? ⟨A, j, none⟩ = some (.string x) := by
  obtain ⟨h1, h2⟩ := h
  rcases h2 with ⟨hv, _⟩ | ⟨g, cap, cur, hv, hb, hg, hn, hc, hs, ht⟩
  · cases hv
  · simp only [Value.slice.injEq, Option.some.injEq, Addr.mk.injEq, and_true] at hv
    obtain ⟨rfl, _, rfl⟩ := hv
    rw [cell_of_row _ _ _ _ _ _ hg]
    have hlt : j < l.length := (List.getElem?_eq_some_iff.1 hj).1
    have e : (l.map Value.string)[j]? = some (.string x) := by simp [hj]
    rw [← ht, List.getElem?_take] at e
    simp only [List.length_map, Nat.mul_one] at h1 e
    rw [if_pos (by omega)] at e
    simpa using e

open Go.RowKit Go.OpenShut Go.ChangeShapes

/-- The words l stand at the slice a, n, c. -/
structure Ws (κ : IntKind) (w : World) (a : Option Addr) (n c : Nat) (l : List Int) : Prop where
  len : l.length = n
  cap : n ≤ c
  big : c ≤ maxLen
  nil : a = none → c = 0
  lie : 0 < n → ∃ b off, a = some ⟨b, off, none⟩ ∧ ∀ i, i < n → w.cell? ⟨b, off + i, none⟩ = some (.int κ (byAt l i))
theorem Ws.of_row {κ : IntKind} {w : World} {a : Option Addr} {n c : Nat} {zs : List Int} (h : IsRow κ w a n c zs) : Ws κ w a n c (zs.take n) := by
  rcases h with ⟨rfl, rfl, rfl, rfl⟩ | ⟨x, rfl, hl, hm, hz, hcell, hwz⟩
  · exact ⟨rfl, Nat.le_refl _, by unfold maxLen; omega, fun _ => rfl, fun h => absurd h (Nat.lt_irrefl _)⟩
  · refine ⟨by simp; omega, hl, hm, fun h => (nomatch h), fun hn => ?_⟩
    obtain ⟨b, off, s⟩ := x
    obtain rfl : s = none := by simpa [Addr.add] using World.cell?_spot (hcell 0 (by omega))
    exact ⟨b, off, rfl, fun i hi => by rw [← by_add, hcell i (by omega), byAt_take hi]; rfl⟩
/-- Kept by whatever leaves its own block alone. -/
theorem Ws.on {κ : IntKind} {w w' : World} {a : Option Addr} {n c : Nat} {l : List Int} (h : Ws κ w a n c l) (hb : 0 < n → ∀ b off, a = some ⟨b, off, none⟩ → b < w.heap.size → w'.heap[b]? = w.heap[b]?) : Ws κ w' a n c l := by
  refine ⟨h.len, h.cap, h.big, h.nil, fun hn => ?_⟩
  obtain ⟨b, off, e, hc⟩ := h.lie hn
  exact ⟨b, off, e, fun i hi => by
    have hk := hb hn b off e (cell_lt (hc i hi))
    rw [← hc i hi]
    unfold World.cell?
    rw [hk]⟩
theorem Ws.keep {κ : IntKind} {w w' : World} {a : Option Addr} {n c : Nat} {l : List Int} (h : Ws κ w a n c l) (hb : Below w.heap.size w w') : Ws κ w' a n c l := h.on fun _ b _ _ hl => hb.block b hl
theorem Ws.none_eq {κ : IntKind} {w : World} {n c : Nat} {l : List Int} (h : Ws κ w none n c l) : n = 0 ∧ c = 0 ∧ l = [] := by
  have h1 := h.nil rfl
  have h2 := h.cap
  have h3 := h.len
  obtain rfl : n = 0 := by omega
  exact ⟨rfl, h1, List.eq_nil_of_length_eq_zero h3⟩
theorem Ws.emp {κ : IntKind} (w : World) : Ws κ w none 0 0 [] := ⟨rfl, Nat.le_refl _, by unfold maxLen; omega, fun _ => rfl, fun h => absurd h (Nat.lt_irrefl _)⟩
/-- Each cell that it holds, by its address. -/
theorem Ws.cells {κ : IntKind} {w : World} {ad : Addr} {n c : Nat} {l : List Int} (h : Ws κ w (some ad) n c l) {j : Nat} {u : Value} (hj : (l.map (Value.int κ))[j]? = some u) : w.cell? (ad.add j) = some u := by
  have hjk : j < l.length := by
    have := (List.getElem?_eq_some_iff.1 hj).1
    simpa using this
  obtain ⟨b, off, e', hc⟩ := h.lie (by have := h.len; omega)
  obtain rfl : ad = ⟨b, off, none⟩ := by simpa using e'
  rw [by_add, hc j (by have := h.len; omega)]
  rw [List.getElem?_map, List.getElem?_eq_getElem hjk, byAt_eq hjk] at hj
  exact hj

/-- The words l are a call's own, in a block from base on. -/
def OwnW (κ : IntKind) (w : World) (base : Nat) (e : TypeId) (v : Value) (l : List Int) : Prop := w.ownsRow base e 1 v l.length (l.map (Value.int κ))
theorem OwnW.ws {κ : IntKind} {w : World} {base : Nat} {e : TypeId} {v : Value} {l : List Int} (h : OwnW κ w base e v l) : ∃ a c, v = .slice a l.length c ∧ Ws κ w a l.length c l := by
  have h0 := h
  obtain ⟨_, hcase⟩ := h
  rcases hcase with ⟨rfl, h9⟩ | ⟨g, cap, cur, rfl, hg, hh, hn, hcap, hsz, htake⟩
  · obtain rfl : l = [] := List.eq_nil_of_length_eq_zero h9
    exact ⟨none, 0, rfl, Ws.emp w⟩
  · refine ⟨_, _, rfl, rfl, hn, hcap, fun h => (nomatch h), fun _ => ⟨g, 0, rfl, fun i hi => ?_⟩⟩
    have hc := World.ownsRow.cellAt h0 i (by omega)
    rw [Nat.zero_add, hc, List.getElem?_map, List.getElem?_eq_getElem hi, byAt_eq hi]
    rfl
theorem OwnW.below {κ : IntKind} {w w' : World} {base B : Nat} {e : TypeId} {v : Value} {l : List Int} (h : OwnW κ w base e v l) (hb : Below B w w') (hB : w.heap.size ≤ B) : OwnW κ w' base e v l := by
  obtain ⟨h1, hcase⟩ := h
  refine ⟨h1, ?_⟩
  rcases hcase with h2 | ⟨g, cap, cur, hv, hg, hh, r⟩
  · exact .inl h2
  · exact .inr ⟨g, cap, cur, hv, hg, by rw [hb.block g (Nat.lt_of_lt_of_le (Array.getElem?_eq_some_iff.1 hh).1 hB)]; exact hh, r⟩
theorem OwnW.mono {κ : IntKind} {w : World} {base base' : Nat} {e : TypeId} {v : Value} {l : List Int} (h : OwnW κ w base e v l) (hb : base' ≤ base) : OwnW κ w base' e v l := by
  obtain ⟨h1, hcase⟩ := h
  refine ⟨h1, ?_⟩
  rcases hcase with h2 | ⟨g, cap, cur, hv, hg, r⟩
  · exact .inl h2
  · exact .inr ⟨g, cap, cur, hv, Nat.le_trans hb hg, r⟩
theorem OwnW.lt {κ : IntKind} {w : World} {base : Nat} {e : TypeId} {v : Value} {l : List Int} (h : OwnW κ w base e v l) : ∀ k, v.ownBlock = some k → base ≤ k ∧ k < w.heap.size := World.ownsRow.lt h
theorem OwnW.form {κ : IntKind} {w : World} {base : Nat} {e : TypeId} {v : Value} {l : List Int} {n : Nat} (h : OwnW κ w base e v l) (hl : l.length = n) (hn : 0 < n) : ∃ g cap, v = .slice (some ⟨g, 0, none⟩) n cap ∧ base ≤ g ∧ g < w.heap.size ∧ n ≤ cap ∧ cap ≤ maxLen := by
  subst hl
  obtain ⟨_, hcase⟩ := h
  rcases hcase with ⟨_, h0⟩ | ⟨g, cap, cur, hv, hb, hg, h1, h2, _⟩
  · omega
  · exact ⟨g, cap, hv, hb, (Array.getElem?_eq_some_iff.1 hg).1, h1, h2⟩
theorem OwnW.cell {κ : IntKind} {w : World} {base g cap n : Nat} {e : TypeId} {l : List Int} (h : OwnW κ w base e (.slice (some ⟨g, 0, none⟩) n cap) l) (hl : l.length = n) {j : Nat} (hj : j < n) : w.cell? ⟨g, j, none⟩ = some (.int κ (byAt l j)) := by
  subst hl
  rw [World.ownsRow.cellAt h j (by omega), List.getElem?_map, List.getElem?_eq_getElem hj, byAt_eq hj]
  rfl
theorem OwnW.free {κ : IntKind} {w : World} {base g cap n : Nat} {e : TypeId} {l : List Int} (h : OwnW κ w base e (.slice (some ⟨g, 0, none⟩) n cap) l) (hl : l.length = n) (j : Nat) : w.frozen? ⟨g, j, none⟩ = false := by
  subst hl
  exact World.ownsRow.frozenAt h j
theorem OwnW.set {κ : IntKind} {w : World} {base g cap n : Nat} {e : TypeId} {l : List Int} (h : OwnW κ w base e (.slice (some ⟨g, 0, none⟩) n cap) l) (hl : l.length = n) (j : Nat) (u : Int) :
    OwnW κ (w.setCell ⟨g, j, none⟩ (.int κ u)) base e (.slice (some ⟨g, 0, none⟩) n cap) (l.set j u) := by
  subst hl
  have := (World.ownsRow.stored h j (.int κ u)).1
  unfold OwnW
  rw [List.length_set, List.map_set]
  exact this
theorem OwnW.nil {κ : IntKind} (w : World) (base : Nat) (e : TypeId) : OwnW κ w base e (.slice none 0 0) [] := World.ownsRow_nil w base e 1
/-- A literal's block. -/
theorem OwnW.lit {κ : IntKind} (w : World) (e : TypeId) {base : Nat} (hb : base ≤ w.heap.size) (l : List Int) (hm : l.length ≤ maxLen) (cs : Array Value) (hcs : cs.toList = l.map (Value.int κ)) : OwnW κ (w.alloc (.cells cs e)) base e (.slice (some ⟨w.heap.size, 0, none⟩) l.length l.length) l := by
  have hs : cs.size = l.length := by rw [← Array.length_toList, hcs]; simp
  have := World.ownsRow_lit (base := base) (e := e) (size := 1) w cs l.length hb hm (by omega)
  rw [hcs] at this
  exact this
/-- 'append(v, s...)', v a call's own. -/
theorem run_append_ws {κ : IntKind} {P : Program} {w : World} (base : Nat) (t ty e : TypeId) (i : TypeInfo) (z : Value) (ht : P.underlying t = some (.slice e)) (hi : P.info? e = some i) (hz : i.zero = some z)
    (hsize : i.size = 1) (hby : i.bytes = 4) (hzs : z.cells.size = 1) {v : Value} {l : List Int} (hown : OwnW κ w base e v l) {p : Option Addr} {m c : Nat} {k : List Int} (hk : Ws κ w p m c k)
    (hlen : (l.length + m) * 4 ≤ 140737488355328) (hbase : base ≤ w.heap.size) :
    ∃ v' w', (Builtin.append_ #[t, t] ty #[v, .slice p m c]).run P w = .ok v' w' ∧ OwnW κ w' base e v' (l ++ k) ∧ w.grownBy w' v.ownBlock := by
  cases p with
  | none =>
    obtain ⟨rfl, rfl, rfl⟩ := hk.none_eq
    exact ⟨v, w, run_append_owned_none w base t ty e i 1 ht hi v l.length (l.map (Value.int κ)) hown, by rw [List.append_nil]; exact hown, ⟨rfl, rfl, rfl, Nat.le_refl _, fun _ _ _ => rfl⟩⟩
  | some ad =>
    obtain ⟨v', w', hr, h2, h3, -⟩ := run_append_own (P := P) w base t ty e i z 1 4 ht hi hz hsize hby hzs (by decide) v l.length (l.map (Value.int κ)) hown ad m c (k.map (Value.int κ)) (by simp [hk.len])
      (fun j u hj => by
        have hjk : j < k.length := by
          have := (List.getElem?_eq_some_iff.1 hj).1
          simpa using this
        obtain ⟨b, off, e', hc⟩ := hk.lie (by have := hk.len; omega)
        obtain rfl : ad = ⟨b, off, none⟩ := by simpa using e'
        rw [by_add, hc j (by have := hk.len; omega)]
        rw [List.getElem?_map, List.getElem?_eq_getElem hjk, byAt_eq hjk] at hj
        exact hj)
      (fun u hu => by obtain ⟨x, _, rfl⟩ := List.mem_map.1 hu; rfl) (by unfold maxLen; omega) (by omega) hbase
    refine ⟨v', w', hr, ?_, h3⟩
    unfold OwnW
    rw [List.length_append, hk.len, List.map_append]
    exact h2
/-- A law of the walk: 'append(v, s...)' of words; what is told of the world behind it is that below base it is as it was. -/
theorem wp_append_ws {κ : IntKind} {P : Program} {w w0 : World} {o : Oper} {a : Act} {K : Act → World → Prop} {Q : Exit → Act → World → Prop} (s x : Operand) (t : TypeId)
    (ho : o.op = .call { callee := .builtin .append, args := #[s, x], argTypes := #[t, t] })
    (base : Nat) (e : TypeId) (i : TypeInfo) (z : Value) (ht : P.underlying t = some (.slice e)) (hi : P.info? e = some i) (hz : i.zero = some z)
    (hsize : i.size = 1) (hby : i.bytes = 4) (hzs : z.cells.size = 1) {v : Value} {l : List Int} (hs : a.eval s = v) (hown : OwnW κ w base e v l) {p : Option Addr} {m c : Nat} {k : List Int} (hx : a.eval x = .slice p m c) (hk : Ws κ w p m c k)
    (hlen : (l.length + m) * 4 ≤ 140737488355328) (hbase : base ≤ w.heap.size) (hb : Below base w0 w)
    (h : ∀ v' w', OwnW κ w' base e v' (l ++ k) → Below base w0 w' → base ≤ w'.heap.size → K (a.put o.dst v') w') : o.wp P a w K Q := by
  obtain ⟨v', w', hr, h2, h3⟩ := run_append_ws (P := P) (w := w) base t o.type e i z ht hi hz hsize hby hzs hown hk hlen hbase
  unfold Oper.wp execOp
  simp only [ho, resolve, invoke, builtin, Sem.run_bind, Sem.run_pure, Result.andThen_ok, List.map_toArray, List.map_cons, List.map_nil, hs, hx, hr]
  exact h v' w' h2 (hb.grown h3 hbase (fun q hq => (hown.lt q hq).1)) (Nat.le_trans hbase h3.size)
theorem wpList_append_ws {κ : IntKind} {P : Program} {w w0 : World} {ops : Array Oper} {rest : List Oper} {o : Oper} {a : Act} {Q : Exit → Act → World → Prop} (hgd : Region.wanted o (yielded ops a.tmps) = true) (s x : Operand) (t : TypeId)
    (ho : o.op = .call { callee := .builtin .append, args := #[s, x], argTypes := #[t, t] })
    (base : Nat) (e : TypeId) (i : TypeInfo) (z : Value) (ht : P.underlying t = some (.slice e)) (hi : P.info? e = some i) (hz : i.zero = some z)
    (hsize : i.size = 1) (hby : i.bytes = 4) (hzs : z.cells.size = 1) {v : Value} {l : List Int} (hs : a.eval s = v) (hown : OwnW κ w base e v l) {p : Option Addr} {m c : Nat} {k : List Int} (hx : a.eval x = .slice p m c) (hk : Ws κ w p m c k)
    (hlen : (l.length + m) * 4 ≤ 140737488355328) (hbase : base ≤ w.heap.size) (hb : Below base w0 w)
    (h : ∀ v' w', OwnW κ w' base e v' (l ++ k) → Below base w0 w' → base ≤ w'.heap.size → wpList P ops Q rest (a.put o.dst v') w') : wpList P ops Q (o :: rest) a w := by
  refine wpList_step fun K hK => ?_
  rw [if_pos hgd]
  exact wp_append_ws s x t ho base e i z ht hi hz hsize hby hzs hs hown hx hk hlen hbase hb fun v' w' h1 h2 h3 => hK _ _ (h v' w' h1 h2 h3)
/-- The same within a region that draws its order. -/
theorem step_append_ws {κ : IntKind} {P : Program} {w w0 : World} {ops : Array Oper} {o : Oper} {a : Act} {K : Act → World → Prop} {Q : Exit → Act → World → Prop} {E : Prop} (hgd : Region.wanted o (yielded ops a.tmps) = true) (s x : Operand) (t : TypeId)
    (ho : o.op = .call { callee := .builtin .append, args := #[s, x], argTypes := #[t, t] })
    (base : Nat) (e : TypeId) (i : TypeInfo) (z : Value) (ht : P.underlying t = some (.slice e)) (hi : P.info? e = some i) (hz : i.zero = some z)
    (hsize : i.size = 1) (hby : i.bytes = 4) (hzs : z.cells.size = 1) {v : Value} {l : List Int} (hs : a.eval s = v) (hown : OwnW κ w base e v l) {p : Option Addr} {m c : Nat} {k : List Int} (hx : a.eval x = .slice p m c) (hk : Ws κ w p m c k)
    (hlen : (l.length + m) * 4 ≤ 140737488355328) (hbase : base ≤ w.heap.size) (hb : Below base w0 w)
    (h : ∀ v' w', OwnW κ w' base e v' (l ++ k) → Below base w0 w' → base ≤ w'.heap.size → K (a.put o.dst v') w') :
    if Region.wanted o (yielded ops a.tmps) = true then Oper.wp P o a w K Q else E := by
  rw [if_pos hgd]
  exact wp_append_ws s x t ho base e i z ht hi hz hsize hby hzs hs hown hx hk hlen hbase hb h

/-- What a place of a memory reads, and whether there is one; the memory behind a word put there. -/
def ldB (L : List Int) (x : Int) : Bool := decide (0 ≤ x ∧ x < L.length)
def ldV (L : List Int) (x : Int) : Int := if 0 ≤ x ∧ x < L.length then byAt L x.toNat else 0
def stL (L : List Int) (x u : Int) : List Int := if 0 ≤ x ∧ x < L.length then L.set x.toNat u else L
theorem ld_in {L : List Int} {k : Nat} (h : k < L.length) : ldB L (k : Int) = true ∧ ldV L (k : Int) = byAt L k ∧ ∀ u, stL L (k : Int) u = L.set k u := by
  have hk : 0 ≤ (k : Int) ∧ (k : Int) < L.length := by omega
  exact ⟨decide_eq_true hk, by unfold ldV; rw [if_pos hk]; rfl, fun u => by unfold stL; rw [if_pos hk]; rfl⟩
theorem ld_out {L : List Int} {x : Int} (h : ¬ (0 ≤ x ∧ x < L.length)) : ldB L x = false ∧ ldV L x = 0 ∧ ∀ u, stL L x u = L :=
  ⟨decide_eq_false h, by unfold ldV; rw [if_neg h], fun u => by unfold stL; rw [if_neg h]⟩
theorem stL_len (L : List Int) (x u : Int) : (stL L x u).length = L.length := by
  unfold stL; split
  · exact List.length_set
  · rfl

/-- A memory of words: block b holds the slice v, whose words are L, and its own place; all of it is from base on. -/
structure RamAt (T e : TypeId) (w : World) (base b : Nat) (v : Value) (L : List Int) : Prop where
  blk : BlkAt b T #[v, .pointer (some ⟨b, 0, none⟩)] w
  own : OwnW .i32 w base e v L
  ge : base ≤ b
  ne : v.ownBlock ≠ some b
theorem RamAt.keep {T e : TypeId} {w w' : World} {base b : Nat} {v : Value} {L : List Int} (h : RamAt T e w base b v L) (k : Below w.heap.size w w') : RamAt T e w' base b v L :=
  ⟨h.blk.keep k, own_keep h.own k, h.ge, h.ne⟩
theorem RamAt.mono {T e : TypeId} {w : World} {base base' b : Nat} {v : Value} {L : List Int} (h : RamAt T e w base b v L) (k : base' ≤ base) : RamAt T e w base' b v L :=
  ⟨h.blk, h.own.mono k, Nat.le_trans k h.ge, h.ne⟩

open Go.RowKit Go.OpenShut Go.ChangeShapes

/-- n cells, each by its place. -/
def fnArr (n : Nat) (f : Nat → Value) : Array Value := Array.ofFn (n := n) fun i => f i.val
theorem fnArr_size (n : Nat) (f : Nat → Value) : (fnArr n f).size = n := by simp [fnArr]
theorem fnArr_get {n : Nat} (f : Nat → Value) {i : Nat} (h : i < n) : (fnArr n f)[i]? = some (f i) := by simp [fnArr, h]
theorem fnArr_ext {n : Nat} {f g : Nat → Value} (h : ∀ i, i < n → f i = g i) : fnArr n f = fnArr n g := by
  unfold fnArr
  congr 1
  funext i
  exact h i.val i.isLt
theorem fnArr_set {n : Nat} (f : Nat → Value) (k : Nat) (v : Value) : (fnArr n f).setIfInBounds k v = fnArr n fun i => if i = k then v else f i := by
  apply Array.ext_getElem?
  intro j
  by_cases h : j < n
  · rw [fnArr_get _ h, Array.getElem?_setIfInBounds, fnArr_size]
    by_cases e : k = j
    · subst e; rw [if_pos rfl, if_pos h, if_pos rfl]
    · rw [if_neg e, if_neg (fun q => e q.symm), fnArr_get f h]
  · rw [Array.getElem?_eq_none (by simp [fnArr_size]; omega), Array.getElem?_eq_none (by simp [fnArr_size]; omega)]
theorem BlkAt.fcell {B n : Nat} {T : TypeId} {f : Nat → Value} {w : World} (h : BlkAt B T (fnArr n f) w) {k : Nat} (hk : k < n) : w.cell? ⟨B, k, none⟩ = some (f k) := (h.cell k).trans (fnArr_get f hk)
theorem BlkAt.fset {B n : Nat} {T : TypeId} {f : Nat → Value} {w : World} (h : BlkAt B T (fnArr n f) w) (k : Nat) (v : Value) {g : Nat → Value} (e : ∀ i, i < n → g i = if i = k then v else f i) : BlkAt B T (fnArr n g) (w.setCell ⟨B, k, none⟩ v) :=
  (h.set k v).eq ((fnArr_set f k v).trans (fnArr_ext fun i hi => (e i hi).symm))

/-- Of all that was there, F's blocks alone may read otherwise. -/
structure Keeps (F : Nat → Prop) (w w' : World) : Prop where
  os : w'.os = w.os
  tape : w'.tape = w.tape
  output : w'.output = w.output
  size : w.heap.size ≤ w'.heap.size
  block : ∀ j, j < w.heap.size → ¬ F j → w'.heap[j]? = w.heap[j]?
theorem Keeps.refl (F : Nat → Prop) (w : World) : Keeps F w w := ⟨rfl, rfl, rfl, Nat.le_refl _, fun _ _ _ => rfl⟩
theorem Keeps.next {F G : Nat → Prop} {a b c : World} (h : Keeps F a b) (k : Keeps G b c) (e : ∀ j, j < a.heap.size → G j → F j) : Keeps F a c :=
  ⟨k.os.trans h.os, k.tape.trans h.tape, k.output.trans h.output, Nat.le_trans h.size k.size, fun j hj hn => (k.block j (Nat.lt_of_lt_of_le hj h.size) (fun g => hn (e j hj g))).trans (h.block j hj hn)⟩
theorem Keeps.trans {F : Nat → Prop} {a b c : World} (h : Keeps F a b) (k : Keeps F b c) : Keeps F a c := h.next k fun _ _ e => e
theorem Keeps.of_below {w w' : World} (F : Nat → Prop) (h : Below w.heap.size w w') : Keeps F w w' := ⟨h.os, h.tape, h.output, h.size, fun j hj _ => h.block j hj⟩
theorem Keeps.of_grown {F : Nat → Prop} {w w' : World} {row : Option Nat} (h : w.grownBy w' row) (e : ∀ j, row = some j → F j) : Keeps F w w' :=
  ⟨h.os, h.tape, h.output, h.size, fun j hj hn => h.block j hj (fun q => hn (e j q.symm))⟩
theorem Keeps.set {F : Nat → Prop} {b : Nat} (h : F b) (w : World) (k : Nat) (v : Value) : Keeps F w (w.setCell ⟨b, k, none⟩ v) :=
  ⟨rfl, rfl, rfl, by simp [World.setCell], fun j _ hn => Below.heap_setCell _ _ _ _ (fun e => hn (by rw [e]; exact h))⟩
theorem Keeps.set1 (w : World) (b k : Nat) (v : Value) : Keeps (fun j => j = b) w (w.setCell ⟨b, k, none⟩ v) := Keeps.set (F := fun j => j = b) rfl w k v
theorem Keeps.mono {F G : Nat → Prop} {w w' : World} (h : Keeps F w w') (e : ∀ j, j < w.heap.size → F j → G j) : Keeps G w w' := ⟨h.os, h.tape, h.output, h.size, fun j hj hn => h.block j hj (fun f => hn (e j hj f))⟩
theorem Keeps.below {F : Nat → Prop} {B : Nat} {a w w' : World} (k : Keeps F w w') (h : Below B a w) (hB : B ≤ w.heap.size) (e : ∀ j, F j → B ≤ j) : Below B a w' :=
  h.trans ⟨k.os, k.tape, k.output, k.size, fun j hj => k.block j (Nat.lt_of_lt_of_le hj hB) (fun f => absurd (e j f) (by omega))⟩
theorem Keeps.nought {w w' : World} (k : Keeps (fun _ => False) w w') : Below w.heap.size w w' := ⟨k.os, k.tape, k.output, k.size, fun j hj => k.block j hj (fun f => f)⟩
theorem BlkAt.kept {B : Nat} {T : TypeId} {cs : Array Value} {F : Nat → Prop} {w w' : World} (h : BlkAt B T cs w) (k : Keeps F w w') (hn : ¬ F B) : BlkAt B T cs w' := (k.block B h.lt hn).trans h
theorem own_kept {F : Nat → Prop} {w w' : World} {base size n : Nat} {e : TypeId} {v : Value} {xs : List Value} (h : w.ownsRow base e size v n xs) (k : Keeps F w w') (hn : ∀ j, v.ownBlock = some j → ¬ F j) : w'.ownsRow base e size v n xs := by
  refine ⟨h.1, h.2.imp id ?_⟩
  rintro ⟨g, cap, cur, hv, hb, hg, rest⟩
  exact ⟨g, cap, cur, hv, hb, (k.block g (Array.getElem?_eq_some_iff.1 hg).1 (hn g (by rw [hv]; rfl))).trans hg, rest⟩
theorem Keeps.cell {F : Nat → Prop} {w w' : World} (k : Keeps F w w') {b i : Nat} {v : Value} (hn : ¬ F b) (h : w.cell? ⟨b, i, none⟩ = some v) : w'.cell? ⟨b, i, none⟩ = some v := (World.cell?_of_block (a := ⟨b, i, none⟩) (k.block b (cell_lt h) hn)).trans h
theorem Ws.kept {K : IntKind} {F : Nat → Prop} {w w' : World} {a : Option Addr} {n c : Nat} {l : List Int} (h : Ws K w a n c l) (k : Keeps F w w') (hn : ∀ b off, a = some ⟨b, off, none⟩ → ¬ F b) : Ws K w' a n c l :=
  h.on fun _ b off e hl => k.block b hl (hn b off e)

/-- What owns F's blocks has turned: none but these may read otherwise; what it owns now was its own, or is new. -/
structure Grows (F : Nat → Prop) (w : World) (F' : Nat → Prop) (w' : World) : Prop where
  keeps : Keeps F w w'
  new : ∀ j, F' j → F j ∨ w.heap.size ≤ j
theorem Grows.refl (F : Nat → Prop) (w : World) : Grows F w F w := ⟨Keeps.refl F w, fun _ h => .inl h⟩
theorem Grows.of_below {w w' : World} (F : Nat → Prop) (h : Below w.heap.size w w') : Grows F w F w' := ⟨Keeps.of_below F h, fun _ h => .inl h⟩
theorem Grows.set {F : Nat → Prop} {b : Nat} (h : F b) (w : World) (k : Nat) (v : Value) : Grows F w F (w.setCell ⟨b, k, none⟩ v) := ⟨Keeps.set h w k v, fun _ h => .inl h⟩
theorem Grows.trans {F G H : Nat → Prop} {a b c : World} (h : Grows F a G b) (k : Grows G b H c) : Grows F a H c :=
  ⟨h.keeps.next k.keeps fun j hj g => (h.new j g).elim id fun e => absurd e (by omega), fun j hj => (k.new j hj).elim (h.new j) fun e => .inr (Nat.le_trans h.keeps.size e)⟩
/-- What another owns stays apart. -/
theorem Grows.apart {F G H : Nat → Prop} {a b : World} (h : Grows F a G b) (hH : ∀ j, H j → ¬ F j ∧ j < a.heap.size) : ∀ j, H j → ¬ G j := fun j hj g => (h.new j g).elim (hH j hj).1 fun e => by have := (hH j hj).2; omega

/-- A mark: where, which address, what it cost. -/
abbrev Mk := Int × Int × Int
def mkV (m : Mk) : List Value := [.int .i64 m.1, .int .i64 m.2.1, .int .i64 m.2.2]
def mkVs (l : List Mk) : List Value := l.flatMap mkV
theorem mkVs_len (l : List Mk) : (mkVs l).length = l.length * 3 := by
  induction l with
  | nil => rfl
  | cons m l ih => simp only [mkVs, List.flatMap_cons, List.length_append, List.length_cons] at *; rw [ih]; simp [mkV]; omega
theorem mkVs_app (l k : List Mk) : mkVs (l ++ k) = mkVs l ++ mkVs k := by simp [mkVs]
theorem mkVs_one (m : Mk) : mkVs [m] = mkV m := by simp [mkVs]
theorem mkVs_ones (l : List Mk) : ∀ u ∈ mkVs l, u.oneCell' = true := by
  intro u hu
  obtain ⟨m, _, hm⟩ := List.mem_flatMap.1 hu
  simp only [mkV, List.mem_cons, List.not_mem_nil, or_false] at hm
  rcases hm with rfl | rfl | rfl <;> rfl
/-- The mark i of a list. -/
def mkAt (l : List Mk) (i : Nat) : Mk := l.getD i (0, 0, 0)
theorem mkAt_eq {l : List Mk} {i : Nat} (h : i < l.length) : l[i] = mkAt l i := by simp [mkAt, List.getD, h]
theorem mkVs_at (l : List Mk) {i : Nat} (h : i < l.length) : (mkVs l)[i * 3]? = some (.int .i64 (mkAt l i).1) ∧ (mkVs l)[i * 3 + 1]? = some (.int .i64 (mkAt l i).2.1) ∧ (mkVs l)[i * 3 + 2]? = some (.int .i64 (mkAt l i).2.2) := by
  induction l generalizing i with
  | nil => exact absurd h (Nat.not_lt_zero _)
  | cons m l ih =>
    have e : mkVs (m :: l) = Value.int .i64 m.1 :: Value.int .i64 m.2.1 :: Value.int .i64 m.2.2 :: mkVs l := by simp [mkVs, mkV]
    cases i with
    | zero => rw [e]; exact ⟨rfl, rfl, rfl⟩
    | succ i =>
      obtain ⟨h0, h1, h2⟩ := ih (i := i) (by simpa using h)
      have q : mkAt (m :: l) (i + 1) = mkAt l i := by simp [mkAt, List.getD]
      rw [e, q, show (i + 1) * 3 = i * 3 + 1 + 1 + 1 by omega, show i * 3 + 1 + 1 + 1 + 1 = (i * 3 + 1) + 1 + 1 + 1 by omega, show i * 3 + 1 + 1 + 1 + 2 = (i * 3 + 2) + 1 + 1 + 1 by omega]
      simp only [List.getElem?_cons_succ]
      exact ⟨h0, h1, h2⟩

/-- Marks that are a call's own, in a block from base on. -/
def OwnMk (w : World) (base : Nat) (e : TypeId) (v : Value) (l : List Mk) : Prop := w.ownsRow base e 3 v l.length (mkVs l)
theorem OwnMk.nil (w : World) (base : Nat) (e : TypeId) : OwnMk w base e (.slice none 0 0) [] := World.ownsRow_nil w base e 3
theorem OwnMk.lt {w : World} {base : Nat} {e : TypeId} {v : Value} {l : List Mk} (h : OwnMk w base e v l) : ∀ k, v.ownBlock = some k → base ≤ k ∧ k < w.heap.size := World.ownsRow.lt h
theorem OwnMk.keep {w w' : World} {base : Nat} {e : TypeId} {v : Value} {l : List Mk} (h : OwnMk w base e v l) (k : Below w.heap.size w w') : OwnMk w' base e v l := own_keep h k
theorem OwnMk.kept {F : Nat → Prop} {w w' : World} {base : Nat} {e : TypeId} {v : Value} {l : List Mk} (h : OwnMk w base e v l) (k : Keeps F w w') (hn : ∀ j, v.ownBlock = some j → ¬ F j) : OwnMk w' base e v l := own_kept h k hn
theorem OwnMk.mono {w : World} {base base' : Nat} {e : TypeId} {v : Value} {l : List Mk} (h : OwnMk w base e v l) (hb : base' ≤ base) : OwnMk w base' e v l := by
  obtain ⟨h1, hcase⟩ := h
  refine ⟨h1, ?_⟩
  rcases hcase with h2 | ⟨g, cap, cur, hv, hg, r⟩
  · exact .inl h2
  · exact .inr ⟨g, cap, cur, hv, Nat.le_trans hb hg, r⟩
/-- Marks that can be read at the slice a, n, c. -/
structure MkAt (w : World) (a : Option Addr) (n c : Nat) (l : List Mk) : Prop where
  len : l.length = n
  cap : n ≤ c
  big : c ≤ maxLen
  nil : a = none → c = 0
  lie : 0 < n → ∃ b off, a = some ⟨b, off, none⟩ ∧ ∀ i, i < n → w.cell? ⟨b, off + i * 3, none⟩ = some (.int .i64 (mkAt l i).1) ∧ w.cell? ⟨b, off + i * 3 + 1, none⟩ = some (.int .i64 (mkAt l i).2.1) ∧ w.cell? ⟨b, off + i * 3 + 2, none⟩ = some (.int .i64 (mkAt l i).2.2)
theorem MkAt.keep {w w' : World} {a : Option Addr} {n c : Nat} {l : List Mk} (h : MkAt w a n c l) (k : Below w.heap.size w w') : MkAt w' a n c l := by
  refine ⟨h.len, h.cap, h.big, h.nil, fun hn => ?_⟩
  obtain ⟨b, off, e, hc⟩ := h.lie hn
  refine ⟨b, off, e, fun i hi => ?_⟩
  obtain ⟨c0, c1, c2⟩ := hc i hi
  exact ⟨(k.cell (p := ⟨b, _, none⟩) (cell_lt c0)).trans c0, (k.cell (p := ⟨b, _, none⟩) (cell_lt c1)).trans c1, (k.cell (p := ⟨b, _, none⟩) (cell_lt c2)).trans c2⟩
theorem MkAt.emp (w : World) : MkAt w none 0 0 [] := ⟨rfl, Nat.le_refl _, by unfold maxLen; omega, fun _ => rfl, fun h => absurd h (Nat.lt_irrefl _)⟩
theorem MkAt.none_eq {w : World} {n c : Nat} {l : List Mk} (h : MkAt w none n c l) : n = 0 ∧ c = 0 ∧ l = [] := by
  have h1 := h.nil rfl
  have h2 := h.cap
  have h3 := h.len
  obtain rfl : n = 0 := by omega
  exact ⟨rfl, h1, List.eq_nil_of_length_eq_zero h3⟩
theorem OwnMk.at {w : World} {base : Nat} {e : TypeId} {v : Value} {l : List Mk} (h : OwnMk w base e v l) : ∃ a c, v = .slice a l.length c ∧ MkAt w a l.length c l := by
  have h0 := h
  obtain ⟨_, hcase⟩ := h
  rcases hcase with ⟨rfl, h9⟩ | ⟨g, cap, cur, rfl, hg, hh, hn, hcap, hsz, htake⟩
  · obtain rfl : l = [] := List.eq_nil_of_length_eq_zero h9
    exact ⟨none, 0, rfl, MkAt.emp w⟩
  · refine ⟨_, _, rfl, rfl, hn, hcap, fun h => (nomatch h), fun _ => ⟨g, 0, rfl, fun i hi => ?_⟩⟩
    obtain ⟨e0, e1, e2⟩ := mkVs_at l hi
    refine ⟨?_, ?_, ?_⟩
    · rw [Nat.zero_add, World.ownsRow.cellAt h0 (i * 3) (by omega)]; exact e0
    · rw [Nat.zero_add, World.ownsRow.cellAt h0 (i * 3 + 1) (by omega)]; exact e1
    · rw [Nat.zero_add, World.ownsRow.cellAt h0 (i * 3 + 2) (by omega)]; exact e2
/-- A literal of no marks. -/
theorem OwnMk.lit0 (w : World) (e : TypeId) {base : Nat} (hb : base ≤ w.heap.size) : OwnMk (w.alloc (.cells #[] e)) base e (.slice (some ⟨w.heap.size, 0, none⟩) 0 0) [] :=
  World.ownsRow_lit (base := base) (e := e) (size := 3) w #[] 0 hb (by unfold maxLen; omega) (by simp)
/-- 'append(v, m)', v a call's own, at a step of a region that draws its order. -/
theorem step_append_mk {P : Program} (w : World) {ops : Array Oper} {o : Oper} {a : Act} {K : Act → World → Prop} {Q : Exit → Act → World → Prop} {E : Prop} (hgd : o.guard = none) (s x : Operand) (t : TypeId)
    (ho : o.op = .call { callee := .builtin .append, args := #[s, x], argTypes := #[t, t] }) (base : Nat) (e : TypeId) (i : TypeInfo) (z : Value) (ht : P.underlying t = some (.slice e)) (hi : P.info? e = some i) (hz : i.zero = some z)
    (hsize : i.size = 3) (hby : i.bytes = 24) (hzs : z.cells.size = 3) (v : Value) (l : List Mk) (m : Mk) (b : Nat) (hs : a.eval s = v) (hx : a.eval x = .slice (some ⟨b, 0, none⟩) 1 1)
    (hown : OwnMk w base e v l) (hu : ∃ T, w.heap[b]? = some (.cells #[.int .i64 m.1, .int .i64 m.2.1, .int .i64 m.2.2] T (0, 0))) (hm : l.length < 1048576) (hbase : base ≤ w.heap.size)
    (h : ∀ g cap w', OwnMk w' base e (.slice (some ⟨g, 0, none⟩) (l.length + 1) cap) (l ++ [m]) → w.grownBy w' v.ownBlock → (v.ownBlock = some g ∨ g = w.heap.size) → K (a.put o.dst (.slice (some ⟨g, 0, none⟩) (l.length + 1) cap)) w') :
    if Region.wanted o (yielded ops a.tmps) = true then Oper.wp P o a w K Q else E := by
  obtain ⟨T, hu⟩ := hu
  refine step_append_lies _ hgd s x t ho base e i z 3 24 ht hi hz hsize hby hzs (by decide) v l.length (mkVs l) hs hown ⟨b, 0, none⟩ 1 1 (mkV m) hx rfl (World.news_of_block hu) ?_ (by decide) (by unfold maxLen; omega) (by omega) hbase _ rfl (fun g cap w' h1 h2 h3 _ => h g cap w' ?_ h2 h3)
  · intro u' hu'
    simp only [mkV, List.mem_cons, List.not_mem_nil, or_false] at hu'
    rcases hu' with rfl | rfl | rfl <;> rfl
  · unfold OwnMk
    rw [List.length_append, List.length_singleton, mkVs_app, mkVs_one]
    exact h1
/-- 'append(v, s...)', v a call's own. -/
theorem run_append_mks {P : Program} {w : World} (base : Nat) (t ty e : TypeId) (i : TypeInfo) (z : Value) (ht : P.underlying t = some (.slice e)) (hi : P.info? e = some i) (hz : i.zero = some z)
    (hsize : i.size = 3) (hby : i.bytes = 24) (hzs : z.cells.size = 3) {v : Value} {l : List Mk} (hown : OwnMk w base e v l) {p : Option Addr} {m c : Nat} {k : List Mk} (hk : MkAt w p m c k)
    (hlen : l.length + m ≤ 1048576) (hbase : base ≤ w.heap.size) :
    ∃ v' w', (Builtin.append_ #[t, t] ty #[v, .slice p m c]).run P w = .ok v' w' ∧ OwnMk w' base e v' (l ++ k) ∧ w.grownBy w' v.ownBlock := by
  cases p with
  | none =>
    obtain ⟨rfl, rfl, rfl⟩ := hk.none_eq
    exact ⟨v, w, run_append_owned_none w base t ty e i 3 ht hi v l.length (mkVs l) hown, by rw [List.append_nil]; exact hown, ⟨rfl, rfl, rfl, Nat.le_refl _, fun _ _ _ => rfl⟩⟩
  | some ad =>
    obtain ⟨v', w', hr, h2, h3, -⟩ := run_append_own (P := P) w base t ty e i z 3 24 ht hi hz hsize hby hzs (by decide) v l.length (mkVs l) hown ad m c (mkVs k) (by rw [mkVs_len, hk.len])
      (fun j u hj => by
        have hjk : j < k.length * 3 := by
          have := (List.getElem?_eq_some_iff.1 hj).1
          rwa [mkVs_len] at this
        have hkl := hk.len
        obtain ⟨b, off, e', hc⟩ := hk.lie (by omega)
        obtain rfl : ad = ⟨b, off, none⟩ := by simpa using e'
        obtain ⟨c0, c1, c2⟩ := hc (j / 3) (by omega)
        obtain ⟨e0, e1, e2⟩ := mkVs_at k (i := j / 3) (by omega)
        rw [by_add]
        rcases (show j = j / 3 * 3 ∨ j = j / 3 * 3 + 1 ∨ j = j / 3 * 3 + 2 by omega) with q | q | q
        · rw [q] at hj; rw [e0] at hj; rw [q, ← hj]; exact c0
        · rw [q] at hj; rw [e1] at hj; rw [q, ← hj, ← Nat.add_assoc]; exact c1
        · rw [q] at hj; rw [e2] at hj; rw [q, ← hj, ← Nat.add_assoc]; exact c2)
      (mkVs_ones k) (by unfold maxLen; omega) (by omega) hbase
    refine ⟨v', w', hr, ?_, h3⟩
    unfold OwnMk
    rw [List.length_append, hk.len, mkVs_app]
    exact h2
theorem wpList_append_mks {P : Program} {w w0 : World} {ops : Array Oper} {rest : List Oper} {o : Oper} {a : Act} {Q : Exit → Act → World → Prop} (hgd : Region.wanted o (yielded ops a.tmps) = true) (s x : Operand) (t : TypeId)
    (ho : o.op = .call { callee := .builtin .append, args := #[s, x], argTypes := #[t, t] })
    (base : Nat) (e : TypeId) (i : TypeInfo) (z : Value) (ht : P.underlying t = some (.slice e)) (hi : P.info? e = some i) (hz : i.zero = some z)
    (hsize : i.size = 3) (hby : i.bytes = 24) (hzs : z.cells.size = 3) {v : Value} {l : List Mk} (hs : a.eval s = v) (hown : OwnMk w base e v l) {p : Option Addr} {m c : Nat} {k : List Mk} (hx : a.eval x = .slice p m c) (hk : MkAt w p m c k)
    (hlen : l.length + m ≤ 1048576) (hbase : base ≤ w.heap.size) (hb : Below base w0 w)
    (h : ∀ v' w', OwnMk w' base e v' (l ++ k) → Below base w0 w' → base ≤ w'.heap.size → wpList P ops Q rest (a.put o.dst v') w') : wpList P ops Q (o :: rest) a w := by
  refine wpList_step fun K hK => ?_
  rw [if_pos hgd]
  obtain ⟨v', w', hr, h2, h3⟩ := run_append_mks (P := P) (w := w) base t o.type e i z ht hi hz hsize hby hzs hown hk hlen hbase
  unfold Oper.wp execOp
  simp only [ho, resolve, invoke, builtin, Sem.run_bind, Sem.run_pure, Result.andThen_ok, List.map_toArray, List.map_cons, List.map_nil, hs, hx, hr]
  exact hK _ _ (h v' w' h2 (hb.grown h3 hbase (fun q hq => (hown.lt q hq).1)) (Nat.le_trans hbase h3.size))

end Go.Proofs.YtekhgidbnpfmnaaGreatDoor
