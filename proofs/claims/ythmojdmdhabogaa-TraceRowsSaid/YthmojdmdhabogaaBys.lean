/- Slices of bytes that lie in memory: what keeps them, pieces of them, as a string, appended to what is a call's own. Nothing of any program. -/
import Derived.Test.YthmojdmdhabogaaNum
import Derived.Test.YthmojdmdhabogaaStr
import Derived.Laws.BytesArg
import Derived.Laws.AppendOwn
import Derived.Laws.OwnMore
import Derived.OwnWalk
import Derived.OpenShut
import Derived.Below
namespace Go.Proofs.Ythmojdmdhabogaa
open Go.RowKit Go.OpenShut Go.ChangeShapes

/-- The byte at place i (behind a name, so that no walk turns it). -/
def byAt (l : List Int) (i : Nat) : Int := l.getD i 0
/-- The numbers of l are bytes. -/
def Bd8 (l : List Int) : Prop := ∀ x ∈ l, 0 ≤ x ∧ x ≤ 255
/-- The bytes l stand at the slice a, n, c. -/
structure By (w : World) (a : Option Addr) (n c : Nat) (l : List Int) : Prop where
  len : l.length = n
  cap : n ≤ c
  big : c ≤ maxLen
  nil : a = none → c = 0
  bd : Bd8 l
  lie : 0 < n → ∃ b off, a = some ⟨b, off, none⟩ ∧ ∀ i, i < n → w.cell? ⟨b, off + i, none⟩ = some (.int .u8 (byAt l i))

/-- What is told of a slice of integers that came in: it is nil; or it leads to a row of cap cells, the numbers zs, each fitting its kind. -/
def IsRow (k : IntKind) (w : World) (a : Option Addr) (len cap : Nat) (zs : List Int) : Prop :=
  (a = none ∧ len = 0 ∧ cap = 0 ∧ zs = []) ∨
  ∃ x, a = some x ∧ len ≤ cap ∧ cap ≤ maxLen ∧ zs.length = cap ∧ (∀ i, i < zs.length → w.cell? (x.add i) = some (.int k (zs.getD i 0))) ∧ ∀ n ∈ zs, (Lit.int k n).wf = true

theorem retI {k : IntKind} {a b : Int} (h : a = b) : Ending.returned (.int k a) = .returned (.int k b) := by rw [h]
theorem cell_lt {w : World} {p : Addr} {v : Value} (h : w.cell? p = some v) : p.block < w.heap.size := by
  rcases Nat.lt_or_ge p.block w.heap.size with h' | h'
  · exact h'
  · have e : w.heap[p.block]? = none := by simp [h']
    simp [World.cell?, e] at h
theorem Bd8.at {l : List Int} (h : Bd8 l) {i : Nat} (hi : i < l.length) : 0 ≤ byAt l i ∧ byAt l i ≤ 255 := by
  have : byAt l i ∈ l := by
    unfold byAt
    rw [List.getD_eq_getElem?_getD, List.getElem?_eq_getElem hi]; exact List.getElem_mem _
  exact h _ this
theorem Bd8.take {l : List Int} (h : Bd8 l) (k : Nat) : Bd8 (l.take k) := fun x hx => h x (List.mem_of_mem_take hx)
theorem Bd8.drop {l : List Int} (h : Bd8 l) (k : Nat) : Bd8 (l.drop k) := fun x hx => h x (List.mem_of_mem_drop hx)
theorem Bd8.append {l m : List Int} (h : Bd8 l) (k : Bd8 m) : Bd8 (l ++ m) := fun x hx => (List.mem_append.1 hx).elim (h x) (k x)
theorem Bd8.nil : Bd8 [] := fun _ h => by cases h
theorem Bd8.cons {x : Int} {l : List Int} (h1 : 0 ≤ x) (h2 : x ≤ 255) (h : Bd8 l) : Bd8 (x :: l) := fun y hy => (List.mem_cons.1 hy).elim (fun e => e ▸ ⟨h1, h2⟩) (h y)
theorem byAt_take {l : List Int} {k i : Nat} (h : i < k) : byAt (l.take k) i = byAt l i := by
  unfold byAt; simp only [List.getD_eq_getElem?_getD, List.getElem?_take, if_pos h]
theorem byAt_drop (l : List Int) (k i : Nat) : byAt (l.drop k) i = byAt l (k + i) := by
  unfold byAt; simp only [List.getD_eq_getElem?_getD, List.getElem?_drop]
theorem byAt_eq {l : List Int} {i : Nat} (h : i < l.length) : l[i] = byAt l i := by
  unfold byAt; rw [List.getD_eq_getElem?_getD, List.getElem?_eq_getElem h]; rfl
theorem take_snoc8 {l : List Int} {k : Nat} (h : k < l.length) : l.take (k + 1) = l.take k ++ [byAt l k] := by
  rw [List.take_succ_eq_append_getElem h, byAt_eq h]
theorem by_add (b off i : Nat) : Addr.add ⟨b, off, none⟩ i = ⟨b, off + i, none⟩ := by
  unfold Addr.add; by_cases h : i = 0 <;> simp [h]

theorem By.of_row {w : World} {a : Option Addr} {n c : Nat} {zs : List Int} (h : IsRow .u8 w a n c zs) : By w a n c (zs.take n) := by
  rcases h with ⟨rfl, rfl, rfl, rfl⟩ | ⟨x, rfl, hl, hm, hz, hcell, hwz⟩
  · exact ⟨rfl, Nat.le_refl _, by unfold maxLen; omega, fun _ => rfl, by simpa using Bd8.nil, fun h => absurd h (Nat.lt_irrefl _)⟩
  · refine ⟨by simp; omega, hl, hm, fun h => (nomatch h), Bd8.take (fun y hy => bounds_u8 (hwz y hy)) n, fun hn => ?_⟩
    obtain ⟨b, off, s⟩ := x
    obtain rfl : s = none := by simpa [Addr.add] using World.cell?_spot (hcell 0 (by omega))
    exact ⟨b, off, rfl, fun i hi => by rw [← by_add, hcell i (by omega), byAt_take hi]; rfl⟩
theorem By.keep {w w' : World} {a : Option Addr} {n c B : Nat} {l : List Int} (h : By w a n c l) (hb : Below B w w') (hB : w.heap.size ≤ B) : By w' a n c l := by
  refine ⟨h.len, h.cap, h.big, h.nil, h.bd, fun hn => ?_⟩
  obtain ⟨b, off, e, hc⟩ := h.lie hn
  exact ⟨b, off, e, fun i hi => by
    rw [hb.cell (p := ⟨b, off + i, none⟩) (Nat.lt_of_lt_of_le (cell_lt (hc i hi)) hB)]; exact hc i hi⟩
/-- Kept by whatever leaves its own block alone. -/
theorem By.keepB {w w' : World} {a : Option Addr} {n c B : Nat} {l : List Int} (h : By w a n c l) (hb : Below B w w') (hB : ∀ b off, a = some ⟨b, off, none⟩ → b < B) : By w' a n c l := by
  refine ⟨h.len, h.cap, h.big, h.nil, h.bd, fun hn => ?_⟩
  obtain ⟨b, off, e, hc⟩ := h.lie hn
  exact ⟨b, off, e, fun i hi => by
    rw [hb.cell (p := ⟨b, off + i, none⟩) (hB b off e)]; exact hc i hi⟩
/-- Its first k bytes. -/
theorem By.pre {w : World} {a : Option Addr} {n c : Nat} {l : List Int} (h : By w a n c l) {k : Nat} (hk : k ≤ n) : By w a k c (l.take k) := by
  refine ⟨by rw [List.length_take, h.len]; omega, Nat.le_trans hk h.cap, h.big, h.nil, h.bd.take k, fun hn => ?_⟩
  obtain ⟨b, off, e, hc⟩ := h.lie (by omega)
  exact ⟨b, off, e, fun i hi => by rw [hc i (by omega), byAt_take hi]⟩
/-- The bytes from place k on. -/
theorem By.post {w : World} {b off n c : Nat} {l : List Int} (h : By w (some ⟨b, off, none⟩) n c l) {k : Nat} (hk : k ≤ n) : By w (some ⟨b, off + k, none⟩) (n - k) (c - k) (l.drop k) := by
  have := h.cap; have := h.big
  refine ⟨by rw [List.length_drop, h.len], by omega, by omega, fun h => (nomatch h), h.bd.drop k, fun hn => ?_⟩
  obtain ⟨b', off', e, hc⟩ := h.lie (by omega)
  obtain ⟨rfl, rfl⟩ : b = b' ∧ off = off' := by simpa using e
  exact ⟨b, off + k, rfl, fun i hi => by rw [Nat.add_assoc, hc (k + i) (by omega), byAt_drop]⟩
theorem By.none_eq {w : World} {n c : Nat} {l : List Int} (h : By w none n c l) : n = 0 ∧ c = 0 ∧ l = [] := by
  have h1 := h.nil rfl
  have h2 := h.cap
  have h3 := h.len
  obtain rfl : n = 0 := by omega
  exact ⟨rfl, h1, List.eq_nil_of_length_eq_zero h3⟩
theorem By.emp (w : World) : By w none 0 0 [] := ⟨rfl, Nat.le_refl _, by unfold maxLen; omega, fun _ => rfl, Bd8.nil, fun h => absurd h (Nat.lt_irrefl _)⟩
theorem By.lt {w : World} {a : Option Addr} {n c : Nat} {l : List Int} (h : By w a n c l) (hn : 0 < n) : ∀ b off, a = some ⟨b, off, none⟩ → b < w.heap.size := by
  intro b off e
  obtain ⟨b', off', e', hc⟩ := h.lie hn
  obtain ⟨rfl, rfl⟩ : b = b' ∧ off = off' := by rw [e] at e'; simpa using e'
  exact cell_lt (hc 0 hn)
/-- As a string. -/
theorem By.str {P : Program} {w : World} {a : Option Addr} {n c : Nat} {l : List Int} (h : By w a n c l) (src e dst : TypeId)
    (hs : P.underlying src = some (.slice e)) (he : P.underlying e = some (.int .u8)) (hd : P.underlying dst = some .string) :
    (convert src dst (.slice a n c)).run P w = .ok (.string (strOfNums l)) w := by
  rcases Nat.eq_zero_or_pos n with hn | hn
  · subst hn
    obtain rfl : l = [] := List.eq_nil_of_length_eq_zero h.len
    rw [run_convert_bytes_string w src dst e _ 0 c hs he hd]
    cases a <;> simp [Conv.bytesToString, loadCells]
    all_goals rfl
  · obtain ⟨b, o, rfl, hc⟩ := h.lie hn
    exact run_convert_bytes_arg (P := P) w src e hs he b o n c l h.len (fun i hi => hc i hi) dst hd
theorem strOfNums_inj {l m : List Int} (hl : Bd8 l) (hm : Bd8 m) (h : strOfNums l = strOfNums m) : l = m := by
  have e : (l.map fun n => UInt8.ofNat n.toNat) = m.map fun n => UInt8.ofNat n.toNat := by
    rw [← strOfNums_data, ← strOfNums_data, h]
  have back : ∀ {k : List Int}, Bd8 k → (k.map fun n => UInt8.ofNat n.toNat).map (fun u => (u.toNat : Int)) = k := by
    intro k hk
    rw [List.map_map]
    conv => rhs; rw [← List.map_id k]
    apply List.map_congr_left
    intro x hx
    have := hk x hx
    simp only [Function.comp, UInt8.toNat_ofNat', id]
    omega
  rw [← back hl, ← back hm, e]
theorem str_same8 {l m : List Int} (h : l = m) : ((strOfNums l).toList == (strOfNums m).toList) = true := str_same (by rw [h])
theorem str_apart8 {l m : List Int} (hl : Bd8 l) (hm : Bd8 m) (h : l ≠ m) : ((strOfNums l).toList == (strOfNums m).toList) = false := str_apart fun e => h (strOfNums_inj hl hm e)
theorem str_const8 {l : List Int} {k : List UInt8} (h : (l.map fun n => UInt8.ofNat n.toNat) = k) : ((strOfNums l).toList == k) = true := str_is (by rw [strOfNums_data]; exact h)

/-- The bytes l are a call's own, in a block from base on. -/
def Own (w : World) (base : Nat) (e : TypeId) (v : Value) (l : List Int) : Prop := w.ownsRow base e 1 v l.length (l.map (Value.int .u8))
theorem Own.by {w : World} {base : Nat} {e : TypeId} {v : Value} {l : List Int} (h : Own w base e v l) (hl : Bd8 l) : ∃ a c, v = .slice a l.length c ∧ By w a l.length c l := by
  have h0 := h
  obtain ⟨_, hcase⟩ := h
  rcases hcase with ⟨rfl, h9⟩ | ⟨g, cap, cur, rfl, hg, hh, hn, hcap, hsz, htake⟩
  · obtain rfl : l = [] := List.eq_nil_of_length_eq_zero h9
    exact ⟨none, 0, rfl, By.emp w⟩
  · refine ⟨_, _, rfl, rfl, hn, hcap, fun h => (nomatch h), hl, fun _ => ⟨g, 0, rfl, fun i hi => ?_⟩⟩
    have hc := World.ownsRow.cellAt h0 i (by omega)
    rw [Nat.zero_add, hc, List.getElem?_map, List.getElem?_eq_getElem hi, byAt_eq hi]
    rfl
theorem Own.byn {w : World} {base : Nat} {e : TypeId} {v : Value} {l : List Int} (h : Own w base e v l) (hl : Bd8 l) : ∃ a n c, v = .slice a n c ∧ l.length = n ∧ By w a n c l := by
  obtain ⟨a, c, e, h⟩ := h.by hl
  exact ⟨a, _, c, e, rfl, h⟩
theorem Own.below {w w' : World} {base B : Nat} {e : TypeId} {v : Value} {l : List Int} (h : Own w base e v l) (hb : Below B w w') (hB : w.heap.size ≤ B) : Own w' base e v l := by
  obtain ⟨h1, hcase⟩ := h
  refine ⟨h1, ?_⟩
  rcases hcase with h2 | ⟨g, cap, cur, hv, hg, hh, r⟩
  · exact .inl h2
  · exact .inr ⟨g, cap, cur, hv, hg, by rw [hb.block g (Nat.lt_of_lt_of_le (Array.getElem?_eq_some_iff.1 hh).1 hB)]; exact hh, r⟩
theorem Own.mono {w : World} {base base' : Nat} {e : TypeId} {v : Value} {l : List Int} (h : Own w base e v l) (hb : base' ≤ base) : Own w base' e v l := by
  obtain ⟨h1, hcase⟩ := h
  refine ⟨h1, ?_⟩
  rcases hcase with h2 | ⟨g, cap, cur, hv, hg, r⟩
  · exact .inl h2
  · exact .inr ⟨g, cap, cur, hv, Nat.le_trans hb hg, r⟩
theorem Own.lt {w : World} {base : Nat} {e : TypeId} {v : Value} {l : List Int} (h : Own w base e v l) : ∀ k, v.ownBlock = some k → base ≤ k ∧ k < w.heap.size := World.ownsRow.lt h
theorem Own.form {w : World} {base : Nat} {e : TypeId} {v : Value} {l : List Int} {n : Nat} (h : Own w base e v l) (hl : l.length = n) (hn : 0 < n) : ∃ g cap, v = .slice (some ⟨g, 0, none⟩) n cap ∧ base ≤ g ∧ g < w.heap.size ∧ n ≤ cap ∧ cap ≤ maxLen := by
  subst hl
  obtain ⟨_, hcase⟩ := h
  rcases hcase with ⟨_, h0⟩ | ⟨g, cap, cur, hv, hb, hg, h1, h2, _⟩
  · omega
  · exact ⟨g, cap, hv, hb, (Array.getElem?_eq_some_iff.1 hg).1, h1, h2⟩
theorem Own.cell {w : World} {base g cap n : Nat} {e : TypeId} {l : List Int} (h : Own w base e (.slice (some ⟨g, 0, none⟩) n cap) l) (hl : l.length = n) {j : Nat} (hj : j < n) : w.cell? ⟨g, j, none⟩ = some (.int .u8 (byAt l j)) := by
  subst hl
  rw [World.ownsRow.cellAt h j (by omega), List.getElem?_map, List.getElem?_eq_getElem hj, byAt_eq hj]
  rfl
theorem Own.free {w : World} {base g cap n : Nat} {e : TypeId} {l : List Int} (h : Own w base e (.slice (some ⟨g, 0, none⟩) n cap) l) (hl : l.length = n) (j : Nat) : w.frozen? ⟨g, j, none⟩ = false := by
  subst hl
  exact World.ownsRow.frozenAt h j
theorem Own.set {w : World} {base g cap n : Nat} {e : TypeId} {l : List Int} (h : Own w base e (.slice (some ⟨g, 0, none⟩) n cap) l) (hl : l.length = n) (j : Nat) (u : Int) :
    Own (w.setCell ⟨g, j, none⟩ (.int .u8 u)) base e (.slice (some ⟨g, 0, none⟩) n cap) (l.set j u) := by
  subst hl
  have := (World.ownsRow.stored h j (.int .u8 u)).1
  unfold Own
  rw [List.length_set, List.map_set]
  exact this
theorem Own.nil (w : World) (base : Nat) (e : TypeId) : Own w base e (.slice none 0 0) [] := World.ownsRow_nil w base e 1
/-- A literal's block. -/
theorem Own.lit (w : World) (e : TypeId) {base : Nat} (hb : base ≤ w.heap.size) (l : List Int) (hm : l.length ≤ maxLen) (cs : Array Value) (hcs : cs.toList = l.map (Value.int .u8)) : Own (w.alloc (.cells cs e)) base e (.slice (some ⟨w.heap.size, 0, none⟩) l.length l.length) l := by
  have hs : cs.size = l.length := by rw [← Array.length_toList, hcs]; simp
  have := World.ownsRow_lit (base := base) (e := e) (size := 1) w cs l.length hb hm (by omega)
  rw [hcs] at this
  exact this
theorem By.lit (w : World) (e : TypeId) {n : Nat} {l : List Int} (hl : l.length = n) (hm : n ≤ maxLen) (hd : Bd8 l) {cs : Array Value} (hcs : cs.toList = l.map (Value.int .u8)) : By (w.alloc (.cells cs e)) (some ⟨w.heap.size, 0, none⟩) n n l := by
  subst hl
  obtain ⟨a, c, e', h⟩ := (Own.lit w e (Nat.le_refl _) l hm cs hcs).by hd
  simp only [Value.slice.injEq] at e'
  obtain ⟨rfl, -, rfl⟩ := e'
  exact h
/-- A literal's block that bears the run-time's mark. -/
theorem By.litm (w : World) (e : TypeId) (m : Nat × Nat) {n : Nat} {l : List Int} (hl : l.length = n) (hm : n ≤ maxLen) (hd : Bd8 l) {cs : Array Value} (hcs : cs.toList = l.map (Value.int .u8)) : By (w.alloc (.cells cs e m)) (some ⟨w.heap.size, 0, none⟩) n n l := by
  have h := By.lit w e hl hm hd hcs
  refine ⟨h.len, h.cap, h.big, h.nil, h.bd, fun hn => ?_⟩
  obtain ⟨b, off, e', hc⟩ := h.lie hn
  simp only [Option.some.injEq, Addr.mk.injEq, and_true] at e'
  obtain ⟨rfl, rfl⟩ := e'
  refine ⟨_, _, rfl, fun i hi => ?_⟩
  rw [← hc i hi, cell_of_row _ _ _ cs e m (heap_alloc_new w _), cell_of_row _ _ _ cs e (0, 0) (heap_alloc_new w _)]
/-- 'append(v, s...)', v a call's own. -/
theorem run_append_by {P : Program} {w : World} (base : Nat) (t ty e : TypeId) (i : TypeInfo) (z : Value) (ht : P.underlying t = some (.slice e)) (hi : P.info? e = some i) (hz : i.zero = some z)
    (hsize : i.size = 1) (hby : i.bytes = 1) (hzs : z.cells.size = 1) {v : Value} {l : List Int} (hown : Own w base e v l) {p : Option Addr} {m c : Nat} {k : List Int} (hk : By w p m c k)
    (hlen : l.length + m ≤ 140737488355328) (hbase : base ≤ w.heap.size) :
    ∃ v' w', (Builtin.append_ #[t, t] ty #[v, .slice p m c]).run P w = .ok v' w' ∧ Own w' base e v' (l ++ k) ∧ w.grownBy w' v.ownBlock := by
  cases p with
  | none =>
    obtain ⟨rfl, rfl, rfl⟩ := hk.none_eq
    exact ⟨v, w, run_append_owned_none w base t ty e i 1 ht hi v l.length (l.map (Value.int .u8)) hown, by rw [List.append_nil]; exact hown, ⟨rfl, rfl, rfl, Nat.le_refl _, fun _ _ _ => rfl⟩⟩
  | some ad =>
    obtain ⟨v', w', hr, h2, h3, -⟩ := run_append_own (P := P) w base t ty e i z 1 1 ht hi hz hsize hby hzs (by decide) v l.length (l.map (Value.int .u8)) hown ad m c (k.map (Value.int .u8)) (by simp [hk.len])
      (fun j u hj => by
        have hjk : j < k.length := by
          have := (List.getElem?_eq_some_iff.1 hj).1
          simpa using this
        obtain ⟨b, off, e', hc⟩ := hk.lie (by have := hk.len; omega)
        obtain rfl : ad = ⟨b, off, none⟩ := by simpa using e'
        rw [by_add, hc j (by have := hk.len; omega)]
        rw [List.getElem?_map, List.getElem?_eq_getElem hjk, byAt_eq hjk] at hj
        exact hj)
      (fun u hu => by obtain ⟨x, _, rfl⟩ := List.mem_map.1 hu; rfl) (by unfold maxLen; omega) (by omega) hbase
    refine ⟨v', w', hr, ?_, h3⟩
    unfold Own
    rw [List.length_append, hk.len, List.map_append]
    exact h2
/-- A law of the walk: 'append(v, s...)' of bytes; what is told of the world behind it is that below base it is as it was. -/
theorem wp_append_by {P : Program} {w w0 : World} {o : Oper} {a : Act} {K : Act → World → Prop} {Q : Exit → Act → World → Prop} (s x : Operand) (t : TypeId)
    (ho : o.op = .call { callee := .builtin .append, args := #[s, x], argTypes := #[t, t] })
    (base : Nat) (e : TypeId) (i : TypeInfo) (z : Value) (ht : P.underlying t = some (.slice e)) (hi : P.info? e = some i) (hz : i.zero = some z)
    (hsize : i.size = 1) (hby : i.bytes = 1) (hzs : z.cells.size = 1) {v : Value} {l : List Int} (hs : a.eval s = v) (hown : Own w base e v l) {p : Option Addr} {m c : Nat} {k : List Int} (hx : a.eval x = .slice p m c) (hk : By w p m c k)
    (hlen : l.length + m ≤ 140737488355328) (hbase : base ≤ w.heap.size) (hb : Below base w0 w)
    (h : ∀ v' w', Own w' base e v' (l ++ k) → Below base w0 w' → base ≤ w'.heap.size → K (a.put o.dst v') w') : o.wp P a w K Q := by
  obtain ⟨v', w', hr, h2, h3⟩ := run_append_by (P := P) (w := w) base t o.type e i z ht hi hz hsize hby hzs hown hk hlen hbase
  unfold Oper.wp execOp
  simp only [ho, resolve, invoke, builtin, Sem.run_bind, Sem.run_pure, Result.andThen_ok, List.map_toArray, List.map_cons, List.map_nil, hs, hx, hr]
  exact h v' w' h2 (hb.grown h3 hbase (fun q hq => (hown.lt q hq).1)) (Nat.le_trans hbase h3.size)
theorem wpList_append_by {P : Program} {w w0 : World} {ops : Array Oper} {rest : List Oper} {o : Oper} {a : Act} {Q : Exit → Act → World → Prop} (hgd : Region.wanted o (yielded ops a.tmps) = true) (s x : Operand) (t : TypeId)
    (ho : o.op = .call { callee := .builtin .append, args := #[s, x], argTypes := #[t, t] })
    (base : Nat) (e : TypeId) (i : TypeInfo) (z : Value) (ht : P.underlying t = some (.slice e)) (hi : P.info? e = some i) (hz : i.zero = some z)
    (hsize : i.size = 1) (hby : i.bytes = 1) (hzs : z.cells.size = 1) {v : Value} {l : List Int} (hs : a.eval s = v) (hown : Own w base e v l) {p : Option Addr} {m c : Nat} {k : List Int} (hx : a.eval x = .slice p m c) (hk : By w p m c k)
    (hlen : l.length + m ≤ 140737488355328) (hbase : base ≤ w.heap.size) (hb : Below base w0 w)
    (h : ∀ v' w', Own w' base e v' (l ++ k) → Below base w0 w' → base ≤ w'.heap.size → wpList P ops Q rest (a.put o.dst v') w') : wpList P ops Q (o :: rest) a w := by
  refine wpList_step fun K hK => ?_
  rw [if_pos hgd]
  exact wp_append_by s x t ho base e i z ht hi hz hsize hby hzs hs hown hx hk hlen hbase hb fun v' w' h1 h2 h3 => hK _ _ (h v' w' h1 h2 h3)
/-- The same within a region that draws its order. -/
theorem step_append_by {P : Program} {w w0 : World} {ops : Array Oper} {o : Oper} {a : Act} {K : Act → World → Prop} {Q : Exit → Act → World → Prop} {E : Prop} (hgd : Region.wanted o (yielded ops a.tmps) = true) (s x : Operand) (t : TypeId)
    (ho : o.op = .call { callee := .builtin .append, args := #[s, x], argTypes := #[t, t] })
    (base : Nat) (e : TypeId) (i : TypeInfo) (z : Value) (ht : P.underlying t = some (.slice e)) (hi : P.info? e = some i) (hz : i.zero = some z)
    (hsize : i.size = 1) (hby : i.bytes = 1) (hzs : z.cells.size = 1) {v : Value} {l : List Int} (hs : a.eval s = v) (hown : Own w base e v l) {p : Option Addr} {m c : Nat} {k : List Int} (hx : a.eval x = .slice p m c) (hk : By w p m c k)
    (hlen : l.length + m ≤ 140737488355328) (hbase : base ≤ w.heap.size) (hb : Below base w0 w)
    (h : ∀ v' w', Own w' base e v' (l ++ k) → Below base w0 w' → base ≤ w'.heap.size → K (a.put o.dst v') w') :
    if Region.wanted o (yielded ops a.tmps) = true then Oper.wp P o a w K Q else E := by
  rw [if_pos hgd]
  exact wp_append_by s x t ho base e i z ht hi hz hsize hby hzs hs hown hx hk hlen hbase hb h
/-- What a call answers: bytes of its own. -/
def RetOwn (w : World) (e : TypeId) (l : List Int) (r : Ending) (w' : World) : Prop := ∃ v, r = .returned v ∧ Own w' w.heap.size e v l ∧ Below w.heap.size w w'
/-- What a call answers: bytes of its own, and an error's number. -/
def RetOwnE (w : World) (e : TypeId) (l : List Int) (k : Int) (r : Ending) (w' : World) : Prop := ∃ v, r = .returned (.tuple #[v, .int .i64 k]) ∧ Own w' w.heap.size e v l ∧ Below w.heap.size w w'
/-- What a call answers: n bytes. -/
def RetBy (w : World) (n : Nat) (l : List Int) (r : Ending) (w' : World) : Prop := ∃ a c, r = .returned (.slice a n c) ∧ By w' a n c l ∧ Below w.heap.size w w'
end Go.Proofs.Ythmojdmdhabogaa
