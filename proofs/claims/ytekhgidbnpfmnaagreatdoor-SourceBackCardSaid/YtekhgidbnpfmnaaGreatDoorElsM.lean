/- Elements of several cells each: lists of such in memory, a call's own, appended, cut, stored into. Nothing of any program. -/
import Derived.Test.YtekhgidbnpfmnaaGreatDoorMem
namespace Go.Proofs.YtekhgidbnpfmnaaGreatDoor
open Go.RowKit Go.OpenShut Go.ChangeShapes

/-- A kind of elements: each lies as k cells. -/
structure Kd (α : Type) where
  k : Nat
  enc : α → List Value
  len : ∀ x, (enc x).length = k
  ones : ∀ x, ∀ v ∈ enc x, v.oneCell' = true
  pos : 0 < k
/-- The element i of a list. -/
def el {α : Type} [Inhabited α] (l : List α) (i : Nat) : α := l.getD i default
section
variable {α : Type} [Inhabited α]
theorem el_eq {l : List α} {i : Nat} (h : i < l.length) : l[i] = el l i := by
  unfold el
  rw [List.getD_eq_getElem?_getD, List.getElem?_eq_getElem h]
  rfl
theorem el_set (l : List α) (i j : Nat) (x : α) (h : i < l.length) : el (l.set i x) j = if j = i then x else el l j := by
  unfold el
  rw [List.getD_eq_getElem?_getD, List.getD_eq_getElem?_getD, List.getElem?_set]
  by_cases e : i = j
  · subst e
    simp [h]
  · rw [if_neg e, if_neg fun q => e q.symm]
theorem el_take {l : List α} {k i : Nat} (h : i < k) : el (l.take k) i = el l i := by
  unfold el; simp only [List.getD_eq_getElem?_getD, List.getElem?_take, if_pos h]
theorem el_drop (l : List α) (k i : Nat) : el (l.drop k) i = el l (k + i) := by
  unfold el; simp only [List.getD_eq_getElem?_getD, List.getElem?_drop]
theorem el_left {l m : List α} {i : Nat} (h : i < l.length) : el (l ++ m) i = el l i := by
  unfold el; rw [List.getD_eq_getElem?_getD, List.getD_eq_getElem?_getD, List.getElem?_append_left h]
theorem el_last (l : List α) (x : α) : el (l ++ [x]) l.length = x := by
  unfold el; rw [List.getD_eq_getElem?_getD, List.getElem?_append_right (Nat.le_refl _)]; simp
theorem take_el {l : List α} {k : Nat} (h : k < l.length) : l.take (k + 1) = l.take k ++ [el l k] := by
  rw [List.take_succ_eq_append_getElem h, el_eq h]
end
section
variable {α : Type} (K : Kd α)
def Kd.vs (l : List α) : List Value := l.flatMap K.enc
theorem Kd.vs_len (l : List α) : (K.vs l).length = l.length * K.k := by
  induction l with
  | nil => simp [Kd.vs]
  | cons x l ih =>
    have e : K.vs (x :: l) = K.enc x ++ K.vs l := by simp [Kd.vs]
    rw [e, List.length_append, ih, K.len, List.length_cons, Nat.add_mul, Nat.one_mul, Nat.add_comm]
theorem Kd.vs_app (l m : List α) : K.vs (l ++ m) = K.vs l ++ K.vs m := by simp [Kd.vs]
theorem Kd.vs_one (x : α) : K.vs [x] = K.enc x := by simp [Kd.vs]
theorem Kd.vs_ones (l : List α) : ∀ u ∈ K.vs l, u.oneCell' = true := by
  intro u hu
  obtain ⟨x, _, hx⟩ := List.mem_flatMap.1 hu
  exact K.ones x u hx
theorem Kd.vs_at [Inhabited α] (l : List α) {i j : Nat} (h : i < l.length) (hj : j < K.k) : (K.vs l)[i * K.k + j]? = (K.enc (el l i))[j]? := by
  induction l generalizing i with
  | nil => exact absurd h (Nat.not_lt_zero _)
  | cons x l ih =>
    have e : K.vs (x :: l) = K.enc x ++ K.vs l := by simp [Kd.vs]
    rw [e]
    cases i with
    | zero =>
      rw [Nat.zero_mul, Nat.zero_add, List.getElem?_append_left (by rw [K.len]; exact hj)]
      rfl
    | succ i =>
      rw [List.getElem?_append_right (by rw [K.len, Nat.add_mul]; omega), K.len, show (i + 1) * K.k + j - K.k = i * K.k + j by rw [Nat.add_mul]; omega, ih (by simpa using h)]
      rfl
theorem Kd.vs_set [Inhabited α] (l : List α) {i j : Nat} (h : i < l.length) (hj : j < K.k) {x : α} {u : Value} (hx : K.enc x = (K.enc (el l i)).set j u) : K.vs (l.set i x) = (K.vs l).set (i * K.k + j) u := by
  induction l generalizing i with
  | nil => exact absurd h (Nat.not_lt_zero _)
  | cons y l ih =>
    have e : ∀ (z : α) (m : List α), K.vs (z :: m) = K.enc z ++ K.vs m := by simp [Kd.vs]
    cases i with
    | zero =>
      rw [List.set_cons_zero, e, e, Nat.zero_mul, Nat.zero_add, List.set_append_left _ _ (by rw [K.len]; exact hj), hx]
      rfl
    | succ i =>
      rw [List.set_cons_succ, e, e, List.set_append_right _ _ (by rw [K.len, Nat.add_mul]; omega), K.len, show (i + 1) * K.k + j - K.k = i * K.k + j by rw [Nat.add_mul]; omega, ih (by simpa using h) hx]
theorem Kd.cell_lt {i j n : Nat} (h : i < n) (hj : j < K.k) : i * K.k + j < n * K.k := by
  have := Nat.mul_le_mul_right K.k (show i + 1 ≤ n from h)
  rw [Nat.add_mul, Nat.one_mul] at this
  omega
end

/-- Elements that can be read at the slice a, n, c. -/
structure ElAt {α : Type} [Inhabited α] (K : Kd α) (w : World) (a : Option Addr) (n c : Nat) (l : List α) : Prop where
  len : l.length = n
  cap : n ≤ c
  big : c ≤ maxLen
  nil : a = none → c = 0
  lie : 0 < n → ∃ b off, a = some ⟨b, off, none⟩ ∧ ∀ i, i < n → ∀ j, j < K.k → w.cell? ⟨b, off + i * K.k + j, none⟩ = (K.enc (el l i))[j]?
/-- Elements that are a call's own, in a block from base on. -/
def OwnEl {α : Type} (K : Kd α) (w : World) (base : Nat) (e : TypeId) (v : Value) (l : List α) : Prop := w.ownsRow base e K.k v l.length (K.vs l)
section
variable {α : Type} [Inhabited α] {K : Kd α} {w w' : World} {a : Option Addr} {n c base base' : Nat} {l : List α} {e : TypeId} {v : Value}
theorem ElAt.keep (h : ElAt K w a n c l) (k : Below w.heap.size w w') : ElAt K w' a n c l := by
  refine ⟨h.len, h.cap, h.big, h.nil, fun hn => ?_⟩
  obtain ⟨b, off, e, hc⟩ := h.lie hn
  refine ⟨b, off, e, fun i hi j hj => ?_⟩
  have q := hc i hi j hj
  have hl : j < (K.enc (el l i)).length := by rw [K.len]; exact hj
  rw [List.getElem?_eq_getElem hl] at q ⊢
  exact (k.cell (p := ⟨b, _, none⟩) (Proofs.YtekhgidbnpfmnaaGreatDoor.cell_lt q)).trans q
theorem ElAt.emp (K : Kd α) (w : World) : ElAt K w none 0 0 [] := ⟨rfl, Nat.le_refl _, by unfold maxLen; omega, fun _ => rfl, fun h => absurd h (Nat.lt_irrefl _)⟩
theorem ElAt.none_eq (h : ElAt K w none n c l) : n = 0 ∧ c = 0 ∧ l = [] := by
  have h1 := h.nil rfl
  have h2 := h.cap
  have h3 := h.len
  obtain rfl : n = 0 := by omega
  exact ⟨rfl, h1, List.eq_nil_of_length_eq_zero h3⟩
theorem ElAt.lt (h : ElAt K w a n c l) (hn : 0 < n) : ∀ b off, a = some ⟨b, off, none⟩ → b < w.heap.size := by
  intro b off e
  obtain ⟨b', off', e', hc⟩ := h.lie hn
  obtain ⟨rfl, rfl⟩ : b = b' ∧ off = off' := by rw [e] at e'; simpa using e'
  have q := hc 0 hn 0 K.pos
  rw [List.getElem?_eq_getElem (by rw [K.len]; exact K.pos)] at q
  exact Proofs.YtekhgidbnpfmnaaGreatDoor.cell_lt q
/-- Its first k elements. -/
theorem ElAt.pre (h : ElAt K w a n c l) {k : Nat} (hk : k ≤ n) : ElAt K w a k c (l.take k) := by
  refine ⟨by rw [List.length_take, h.len]; omega, Nat.le_trans hk h.cap, h.big, h.nil, fun hn => ?_⟩
  obtain ⟨b, off, e, hc⟩ := h.lie (by omega)
  exact ⟨b, off, e, fun i hi j hj => by rw [hc i (by omega) j hj, el_take hi]⟩
/-- The elements from place k on. -/
theorem ElAt.post {b off : Nat} (h : ElAt K w (some ⟨b, off, none⟩) n c l) {k : Nat} (hk : k ≤ n) : ElAt K w (some ⟨b, off + k * K.k, none⟩) (n - k) (c - k) (l.drop k) := by
  have := h.cap; have := h.big
  refine ⟨by rw [List.length_drop, h.len], by omega, by omega, fun h => (nomatch h), fun hn => ?_⟩
  obtain ⟨b', off', e, hc⟩ := h.lie (by omega)
  obtain ⟨rfl, rfl⟩ : b = b' ∧ off = off' := by simpa using e
  exact ⟨b, off + k * K.k, rfl, fun i hi j hj => by
    rw [show off + k * K.k + i * K.k + j = off + (k + i) * K.k + j by rw [Nat.add_mul]; omega, hc (k + i) (by omega) j hj, el_drop]⟩
/-- Of another capacity. -/
theorem ElAt.clip (h : ElAt K w a n c l) {c' : Nat} (h1 : n ≤ c') (h2 : c' ≤ c) : ElAt K w a n c' l := ⟨h.len, h1, Nat.le_trans h2 h.big, fun e => by have := h.nil e; omega, h.lie⟩
omit [Inhabited α] in
theorem OwnEl.nil (K : Kd α) (w : World) (base : Nat) (e : TypeId) : OwnEl K w base e (.slice none 0 0) [] := World.ownsRow_nil w base e K.k
omit [Inhabited α] in
theorem OwnEl.lt (h : OwnEl K w base e v l) : ∀ k, v.ownBlock = some k → base ≤ k ∧ k < w.heap.size := World.ownsRow.lt h
omit [Inhabited α] in
theorem OwnEl.keep (h : OwnEl K w base e v l) (k : Below w.heap.size w w') : OwnEl K w' base e v l := own_keep h k
omit [Inhabited α] in
theorem OwnEl.kept {F : Nat → Prop} (h : OwnEl K w base e v l) (k : Keeps F w w') (hn : ∀ j, v.ownBlock = some j → ¬ F j) : OwnEl K w' base e v l := own_kept h k hn
omit [Inhabited α] in
theorem OwnEl.mono (h : OwnEl K w base e v l) (hb : base' ≤ base) : OwnEl K w base' e v l := by
  obtain ⟨h1, hcase⟩ := h
  refine ⟨h1, ?_⟩
  rcases hcase with h2 | ⟨g, cap, cur, hv, hg, r⟩
  · exact .inl h2
  · exact .inr ⟨g, cap, cur, hv, Nat.le_trans hb hg, r⟩
theorem OwnEl.at (h : OwnEl K w base e v l) : ∃ a c, v = .slice a l.length c ∧ ElAt K w a l.length c l := by
  have h0 := h
  obtain ⟨_, hcase⟩ := h
  rcases hcase with ⟨rfl, h9⟩ | ⟨g, cap, cur, rfl, hg, hh, hn, hcap, hsz, htake⟩
  · obtain rfl : l = [] := List.eq_nil_of_length_eq_zero h9
    exact ⟨none, 0, rfl, ElAt.emp K w⟩
  · refine ⟨_, _, rfl, rfl, hn, hcap, fun h => (nomatch h), fun _ => ⟨g, 0, rfl, fun i hi j hj => ?_⟩⟩
    rw [Nat.zero_add, World.ownsRow.cellAt h0 (i * K.k + j) (K.cell_lt hi hj), K.vs_at l hi hj]
omit [Inhabited α] in
/-- Where there are some, they lie in a block of the call's own, from its first cell on. -/
theorem OwnEl.form (h : OwnEl K w base e v l) (hl : l.length = n) (hn : 0 < n) : ∃ g cap, v = .slice (some ⟨g, 0, none⟩) n cap ∧ base ≤ g ∧ g < w.heap.size ∧ n ≤ cap ∧ cap ≤ maxLen := by
  subst hl
  obtain ⟨_, hcase⟩ := h
  rcases hcase with ⟨_, h0⟩ | ⟨g, cap, cur, hv, hb, hg, h1, h2, _⟩
  · omega
  · exact ⟨g, cap, hv, hb, (Array.getElem?_eq_some_iff.1 hg).1, h1, h2⟩
theorem OwnEl.cell {g cap : Nat} (h : OwnEl K w base e (.slice (some ⟨g, 0, none⟩) n cap) l) (hl : l.length = n) {i j : Nat} (hi : i < n) (hj : j < K.k) : w.cell? ⟨g, i * K.k + j, none⟩ = (K.enc (el l i))[j]? := by
  subst hl
  rw [World.ownsRow.cellAt h (i * K.k + j) (K.cell_lt hi hj), K.vs_at l hi hj]
omit [Inhabited α] in
theorem OwnEl.free {g cap : Nat} (h : OwnEl K w base e (.slice (some ⟨g, 0, none⟩) n cap) l) (hl : l.length = n) (j : Nat) : w.frozen? ⟨g, j, none⟩ = false := by
  subst hl
  exact World.ownsRow.frozenAt h j
/-- One cell of one element stored. -/
theorem OwnEl.set {g cap : Nat} (h : OwnEl K w base e (.slice (some ⟨g, 0, none⟩) n cap) l) (hl : l.length = n) {i j : Nat} (hi : i < n) (hj : j < K.k) {x : α} {u : Value} (hx : K.enc x = (K.enc (el l i)).set j u) :
    OwnEl K (w.setCell ⟨g, i * K.k + j, none⟩ u) base e (.slice (some ⟨g, 0, none⟩) n cap) (l.set i x) := by
  subst hl
  have := (World.ownsRow.stored h (i * K.k + j) u).1
  unfold OwnEl
  rw [List.length_set, K.vs_set l hi hj hx]
  exact this
omit [Inhabited α] in
/-- A literal's block. -/
theorem OwnEl.lit (w : World) (e : TypeId) (hb : base ≤ w.heap.size) (l : List α) (hm : l.length ≤ maxLen) (cs : Array Value) (hcs : cs.toList = K.vs l) : OwnEl K (w.alloc (.cells cs e)) base e (.slice (some ⟨w.heap.size, 0, none⟩) l.length l.length) l := by
  have hs : cs.size = l.length * K.k := by rw [← Array.length_toList, hcs, K.vs_len]
  have := World.ownsRow_lit (base := base) (e := e) (size := K.k) w cs l.length hb hm hs
  rw [hcs] at this
  exact this
/-- One element, in a block of its own. -/
theorem ElAt.one (w : World) (e : TypeId) (x : α) (cs : Array Value) (hcs : cs.toList = K.enc x) : ElAt K (w.alloc (.cells cs e)) (some ⟨w.heap.size, 0, none⟩) 1 1 [x] := by
  obtain ⟨a, c, e', h⟩ := (OwnEl.lit (K := K) w e (Nat.le_refl _) [x] (by unfold maxLen; simp) cs (by rw [K.vs_one]; exact hcs)).at
  simp only [Value.slice.injEq, List.length_singleton] at e'
  obtain ⟨rfl, -, rfl⟩ := e'
  exact h
/-- 'append(v, s...)', v a call's own. -/
theorem run_append_els {P : Program} (base : Nat) (t ty e : TypeId) (i : TypeInfo) (z : Value) (ht : P.underlying t = some (.slice e)) (hi : P.info? e = some i) (hz : i.zero = some z)
    (hsize : i.size = K.k) (hby : i.bytes ≤ 1000) (hzs : z.cells.size = K.k) {v : Value} {l : List α} (hown : OwnEl K w base e v l) {p : Option Addr} {m c : Nat} {k : List α} (hk : ElAt K w p m c k)
    (hlen : l.length + m ≤ 1048576) (hbase : base ≤ w.heap.size) :
    ∃ v' w', (Builtin.append_ #[t, t] ty #[v, .slice p m c]).run P w = .ok v' w' ∧ OwnEl K w' base e v' (l ++ k) ∧ w.grownBy w' v.ownBlock := by
  cases p with
  | none =>
    obtain ⟨rfl, rfl, rfl⟩ := hk.none_eq
    exact ⟨v, w, run_append_owned_none w base t ty e i K.k ht hi v l.length (K.vs l) hown, by rw [List.append_nil]; exact hown, ⟨rfl, rfl, rfl, Nat.le_refl _, fun _ _ _ => rfl⟩⟩
  | some ad =>
    obtain ⟨v', w', hr, h2, h3, -⟩ := run_append_own (P := P) w base t ty e i z K.k i.bytes ht hi hz hsize rfl hzs K.pos v l.length (K.vs l) hown ad m c (K.vs k) (by rw [K.vs_len, hk.len])
      (fun j u hj => by
        have hjk : j < k.length * K.k := by
          have := (List.getElem?_eq_some_iff.1 hj).1
          rwa [K.vs_len] at this
        have hkl := hk.len
        have hpos := K.pos
        have hm : 0 < m := by
          rcases Nat.eq_zero_or_pos k.length with h0 | h0
          · rw [h0] at hjk; simp at hjk
          · omega
        obtain ⟨b, off, e', hc⟩ := hk.lie hm
        obtain rfl : ad = ⟨b, off, none⟩ := by simpa using e'
        have hq : j / K.k < k.length := Nat.div_lt_of_lt_mul (by rw [Nat.mul_comm]; exact hjk)
        have hr : j % K.k < K.k := Nat.mod_lt _ hpos
        have he : j / K.k * K.k + j % K.k = j := by rw [Nat.mul_comm]; exact Nat.div_add_mod j K.k
        have h1 := hc (j / K.k) (by omega) (j % K.k) hr
        have h2 := K.vs_at k hq hr
        rw [he] at h2
        rw [by_add, ← hj, h2, ← h1, Nat.add_assoc, he])
      (K.vs_ones k) (by unfold maxLen; omega) (by
        have : (l.length + m) * i.bytes ≤ 1048576 * 1000 := Nat.mul_le_mul hlen hby
        omega) hbase
    refine ⟨v', w', hr, ?_, h3⟩
    unfold OwnEl
    rw [List.length_append, hk.len, K.vs_app]
    exact h2
theorem wpList_append_els {P : Program} {ops : Array Oper} {rest : List Oper} {o : Oper} {a : Act} {Q : Exit → Act → World → Prop} (hgd : Region.wanted o (yielded ops a.tmps) = true) (s x : Operand) (t : TypeId)
    (ho : o.op = .call { callee := .builtin .append, args := #[s, x], argTypes := #[t, t] })
    (base : Nat) (e : TypeId) (i : TypeInfo) (z : Value) (ht : P.underlying t = some (.slice e)) (hi : P.info? e = some i) (hz : i.zero = some z)
    (hsize : i.size = K.k) (hby : i.bytes ≤ 1000) (hzs : z.cells.size = K.k) {v : Value} {l : List α} (hs : a.eval s = v) (hown : OwnEl K w base e v l) {p : Option Addr} {m c : Nat} {k : List α} (hx : a.eval x = .slice p m c) (hk : ElAt K w p m c k)
    (hlen : l.length + m ≤ 1048576) (hbase : base ≤ w.heap.size)
    (h : ∀ v' w', OwnEl K w' base e v' (l ++ k) → w.grownBy w' v.ownBlock → wpList P ops Q rest (a.put o.dst v') w') : wpList P ops Q (o :: rest) a w := by
  refine wpList_step fun K' hK => ?_
  rw [if_pos hgd]
  obtain ⟨v', w', hr, h2, h3⟩ := run_append_els (P := P) (w := w) base t o.type e i z ht hi hz hsize hby hzs hown hk hlen hbase
  unfold Oper.wp execOp
  simp only [ho, resolve, invoke, builtin, Sem.run_bind, Sem.run_pure, Result.andThen_ok, List.map_toArray, List.map_cons, List.map_nil, hs, hx, hr]
  exact hK _ _ (h v' w' h2 h3)
end

/-! ### Cut -/
theorem run_cut_from {P : Program} (t : TypeId) {s : Nat} (ht : P.underlying t = some (.slice (P.elem t))) (hs : ∀ w, (Go.sizeOf (P.elem t)).run P w = .ok s w) (a : Option Addr) (n c m : Nat) (hm : m ≤ n) (w : World) :
    (Instr.slice t (.slice a n c) (some (.int .i64 m)) none none).run P w = .ok (sliced a m n c s) w := by
  rw [run_slice_l (w := w) t a n c ht .i64 m (by omega) (by omega), hs]
  rfl
theorem run_cut_to {P : Program} (t : TypeId) {s : Nat} (ht : P.underlying t = some (.slice (P.elem t))) (hs : ∀ w, (Go.sizeOf (P.elem t)).run P w = .ok s w) (a : Option Addr) (n c m : Nat) (hm : m ≤ c) (w : World) :
    (Instr.slice t (.slice a n c) none (some (.int .i64 m)) none).run P w = .ok (sliced a 0 m c s) w := by
  rw [run_slice_h (w := w) t a n c ht .i64 m (by omega) (by omega), hs]
  rfl
theorem add_nought (a : Option Addr) : a.map (·.add 0) = a := by
  cases a <;> simp [Addr.add]
theorem sliced_to (a : Option Addr) (m c s : Nat) : sliced a 0 m c s = .slice a m c := by
  unfold sliced
  rw [Nat.zero_mul, add_nought]
  simp
theorem ElAt.from {α : Type} [Inhabited α] {K : Kd α} {w : World} {a : Option Addr} {n c m : Nat} {l : List α} (h : ElAt K w a n c l) (hm : m ≤ n) : ∃ a' c', sliced a m n c K.k = .slice a' (n - m) c' ∧ ElAt K w a' (n - m) c' (l.drop m) := by
  have hc := h.cap
  have hb := h.big
  have hl := h.len
  rcases Nat.eq_zero_or_pos n with h0 | h0
  · subst h0
    obtain rfl : m = 0 := by omega
    obtain rfl : l = [] := List.eq_nil_of_length_eq_zero hl
    refine ⟨a, c, ?_, h⟩
    unfold sliced
    rw [Nat.zero_mul, add_nought]
    simp
  · obtain ⟨b, off, rfl, _⟩ := h.lie h0
    by_cases e : c = m
    · refine ⟨some ⟨b, off, none⟩, c - m, by unfold sliced; rw [if_pos e], ⟨by rw [List.length_drop, hl], by omega, by omega, fun q => (nomatch q), fun q => by omega⟩⟩
    · refine ⟨some ⟨b, off + m * K.k, none⟩, c - m, ?_, h.post hm⟩
      unfold sliced
      rw [if_neg e, Option.map_some, by_add]
theorem MkAt.from {w : World} {a : Option Addr} {n c m : Nat} {l : List Mk} (h : MkAt w a n c l) (hm : m ≤ n) : ∃ a' c', sliced a m n c 3 = .slice a' (n - m) c' ∧ MkAt w a' (n - m) c' (l.drop m) := by
  have hc := h.cap
  have hb := h.big
  have hl := h.len
  rcases Nat.eq_zero_or_pos n with h0 | h0
  · subst h0
    obtain rfl : m = 0 := by omega
    obtain rfl : l = [] := List.eq_nil_of_length_eq_zero hl
    refine ⟨a, c, ?_, h⟩
    unfold sliced
    rw [Nat.zero_mul, add_nought]
    simp
  · obtain ⟨b, off, rfl, hcell⟩ := h.lie h0
    by_cases e : c = m
    · refine ⟨some ⟨b, off, none⟩, c - m, by unfold sliced; rw [if_pos e], ⟨by rw [List.length_drop, hl], by omega, by omega, fun q => (nomatch q), fun q => by omega⟩⟩
    · refine ⟨some ⟨b, off + m * 3, none⟩, c - m, ?_, ⟨by rw [List.length_drop, hl], by omega, by omega, fun q => (nomatch q), fun _ => ⟨b, off + m * 3, rfl, fun i hi => ?_⟩⟩⟩
      · unfold sliced
        rw [if_neg e, Option.map_some, by_add]
      · have := hcell (m + i) (by omega)
        rw [show off + m * 3 + i * 3 = off + (m + i) * 3 by omega, show mkAt (l.drop m) i = mkAt l (m + i) from el_drop l m i]
        exact this
theorem MkAt.to {w : World} {a : Option Addr} {n c m : Nat} {l : List Mk} (h : MkAt w a n c l) (hm : m ≤ n) : MkAt w a m c (l.take m) := by
  refine ⟨by rw [List.length_take, h.len]; omega, Nat.le_trans hm h.cap, h.big, h.nil, fun hn => ?_⟩
  obtain ⟨b, off, e, hc⟩ := h.lie (by omega)
  exact ⟨b, off, e, fun i hi => by rw [show mkAt (l.take m) i = mkAt l i from el_take hi]; exact hc i (by omega)⟩
end Go.Proofs.YtekhgidbnpfmnaaGreatDoor
