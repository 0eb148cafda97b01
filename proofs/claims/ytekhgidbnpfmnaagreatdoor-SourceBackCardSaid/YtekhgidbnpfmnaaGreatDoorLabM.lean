/- Texts, rows, uses, fixes in memory. Nothing of any program. -/
import Derived.Test.YtekhgidbnpfmnaaGreatDoorLabP
import Derived.Test.YtekhgidbnpfmnaaGreatDoorIts
import Derived.Test.YtekhgidbnpfmnaaGreatDoorMak
import Derived.Maps.RangeWalk
namespace Go.Proofs.YtekhgidbnpfmnaaGreatDoor
open Go.RowKit Go.Maps

instance : Inhabited ByteArray := ⟨⟨#[]⟩⟩
/-- Texts. -/
def strK : Kd ByteArray where
  k := 1
  enc s := [.string s]
  len _ := rfl
  ones := by intro x v hv; simp at hv; subst hv; rfl
  pos := by decide
/-- A name and a place. -/
def rowK : Kd (ByteArray × Int) where
  k := 2
  enc r := [.string r.1, .int .i64 r.2]
  len _ := rfl
  ones := by intro x v hv; simp at hv; rcases hv with rfl | rfl <;> rfl
  pos := by decide
/-- A block and a place. -/
def useK : Kd (Nat × Int) where
  k := 2
  enc r := [.pointer (some ⟨r.1, 0, none⟩), .int .i64 r.2]
  len _ := rfl
  ones := by intro x v hv; simp at hv; rcases hv with rfl | rfl <;> rfl
  pos := by decide
/-- Two numbers. -/
def fixK : Kd (Int × Int) where
  k := 2
  enc r := [.int .i64 r.1, .int .i64 r.2]
  len _ := rfl
  ones := by intro x v hv; simp at hv; rcases hv with rfl | rfl <;> rfl
  pos := by decide
/-- A mark, a name, a place. -/
def actK : Kd (Bool × ByteArray × Int) where
  k := 3
  enc r := [.bool r.1, .string r.2.1, .int .i64 r.2.2]
  len _ := rfl
  ones := by intro x v hv; simp at hv; rcases hv with rfl | rfl | rfl <;> rfl
  pos := by decide
theorem strK_vs (l : List ByteArray) : strK.vs l = l.map Value.string := by
  induction l with
  | nil => rfl
  | cons x l ih =>
    have e : strK.vs (x :: l) = strK.enc x ++ strK.vs l := by simp [Kd.vs]
    rw [e, ih]; rfl
section
variable {w : World} {a : Option Addr} {n c : Nat}
/-- The cells of element i. -/
theorem ElAt.two {α : Type} [Inhabited α] {K : Kd α} {l : List α} (h : ElAt K w a n c l) {i : Nat} (hi : i < n) : ∃ b off, a = some ⟨b, off, none⟩ ∧ ∀ j, j < K.k → w.cell? ⟨b, off + i * K.k + j, none⟩ = (K.enc (el l i))[j]? := by
  obtain ⟨b, off, e, hc⟩ := h.lie (by omega)
  exact ⟨b, off, e, hc i hi⟩
theorem ElAt.str {l : List ByteArray} (h : ElAt strK w a n c l) {i : Nat} (hi : i < n) : ∃ b off, a = some ⟨b, off, none⟩ ∧ w.cell? ⟨b, off + i, none⟩ = some (.string (el l i)) := by
  obtain ⟨b, off, e, hc⟩ := h.two hi
  refine ⟨b, off, e, ?_⟩
  have := hc 0 (by decide)
  simpa [strK] using this
theorem ElAt.row {l : List (ByteArray × Int)} (h : ElAt rowK w a n c l) {i : Nat} (hi : i < n) : ∃ b off, a = some ⟨b, off, none⟩ ∧ w.cell? ⟨b, off + i * 2, none⟩ = some (.string (el l i).1) ∧ w.cell? ⟨b, off + i * 2 + 1, none⟩ = some (.int .i64 (el l i).2) := by
  obtain ⟨b, off, e, hc⟩ := h.two hi
  exact ⟨b, off, e, hc 0 (by decide), hc 1 (by decide)⟩
theorem ElAt.use {l : List (Nat × Int)} (h : ElAt useK w a n c l) {i : Nat} (hi : i < n) : ∃ b off, a = some ⟨b, off, none⟩ ∧ w.cell? ⟨b, off + i * 2, none⟩ = some (.pointer (some ⟨(el l i).1, 0, none⟩)) ∧ w.cell? ⟨b, off + i * 2 + 1, none⟩ = some (.int .i64 (el l i).2) := by
  obtain ⟨b, off, e, hc⟩ := h.two hi
  exact ⟨b, off, e, hc 0 (by decide), hc 1 (by decide)⟩
theorem ElAt.fix {l : List (Int × Int)} (h : ElAt fixK w a n c l) {i : Nat} (hi : i < n) : ∃ b off, a = some ⟨b, off, none⟩ ∧ w.cell? ⟨b, off + i * 2, none⟩ = some (.int .i64 (el l i).1) ∧ w.cell? ⟨b, off + i * 2 + 1, none⟩ = some (.int .i64 (el l i).2) := by
  obtain ⟨b, off, e, hc⟩ := h.two hi
  exact ⟨b, off, e, hc 0 (by decide), hc 1 (by decide)⟩
theorem ElAt.act {l : List (Bool × ByteArray × Int)} (h : ElAt actK w a n c l) {i : Nat} (hi : i < n) : ∃ b off, a = some ⟨b, off, none⟩ ∧ w.cell? ⟨b, off + i * 3, none⟩ = some (.bool (el l i).1) ∧ w.cell? ⟨b, off + i * 3 + 1, none⟩ = some (.string (el l i).2.1) ∧ w.cell? ⟨b, off + i * 3 + 2, none⟩ = some (.int .i64 (el l i).2.2) := by
  obtain ⟨b, off, e, hc⟩ := h.two hi
  exact ⟨b, off, e, hc 0 (by decide), hc 1 (by decide), hc 2 (by decide)⟩
end
/-- 'append(v, u...)', one element of some cells: what is owned next is the same block, or a new one. -/
theorem run_append_near {P : Program} (w : World) (base : Nat) (t ty e : TypeId) (i : TypeInfo) (z : Value) (size bytes : Nat) (ht : P.underlying t = some (.slice e)) (hi : P.info? e = some i) (hz : i.zero = some z)
    (hsize : i.size = size) (hby : i.bytes = bytes) (hzs : z.cells.size = size) (hpos : 0 < size) (v : Value) (n : Nat) (xs : List Value) (hown : w.ownsRow base e size v n xs)
    (a : Addr) (c : Nat) (us : List Value) (hl : us.length = 1 * size) (hnews : ∀ j u', us[j]? = some u' → w.cell? (a.add j) = some u') (h1' : ∀ u' ∈ us, u'.oneCell' = true) (h63 : n + 1 ≤ maxLen) (hbytes : (n + 1) * bytes ≤ 140737488355328) (hbase : base ≤ w.heap.size) :
    ∃ v' w', (Builtin.append_ #[t, t] ty #[v, .slice (some a) 1 c]).run P w = .ok v' w' ∧ w'.ownsRow base e size v' (n + 1) (xs ++ us) ∧ w.grownBy w' v.ownBlock ∧ (v'.ownBlock = v.ownBlock ∨ v'.ownBlock = some w.heap.size) := by
  obtain ⟨v', w', hr, h2, h3, -⟩ := run_append_own (P := P) w base t ty e i z size bytes ht hi hz hsize hby hzs hpos v n xs hown a 1 c us hl hnews h1' h63 hbytes hbase
  refine ⟨v', w', hr, h2, h3, ?_⟩
  have hm : n + 1 ≤ 9223372036854775807 := by unfold maxLen at h63; omega
  rcases hown.2 with ⟨rfl, rfl⟩ | ⟨g, cap, cur, rfl, hbg, hg, hnc, hcm, hcs, htake⟩
  · have hr2 := run_append_nil (P := P) w t ty e i z ht hi hz a 1 c us (by rw [hsize]; exact hl) hnews (by omega) (by omega) (by rw [hby]; omega)
    rw [hr] at hr2
    simp only [Result.ok.injEq] at hr2
    rw [hr2.1]
    exact .inr rfl
  · by_cases hroom : n + 1 ≤ cap
    · have hr2 := run_append_room (P := P) w t ty e i ht hi g n cap cur hg a 1 c us (by rw [hsize]; exact hl) hnews h1' hroom (by rw [hsize, hl, hcs, ← Nat.add_mul]; exact Nat.mul_le_mul_right _ hroom)
      rw [hr] at hr2
      simp only [Result.ok.injEq] at hr2
      rw [hr2.1]
      exact .inl rfl
    · have holds : ∀ j u, xs[j]? = some u → w.cell? ((⟨g, 0, none⟩ : Addr).add j) = some u := hown.cells (g := g) rfl
      have hr2 := run_append_grow (P := P) w t ty e i z ht hi hz ⟨g, 0, none⟩ n cap xs (by rw [hown.1, hsize]) holds a 1 c us (by rw [hsize]; exact hl) hnews (by omega) (by omega) (growslice_fits (by omega) (by rw [hby]; exact hbytes))
      rw [hr] at hr2
      simp only [Result.ok.injEq] at hr2
      rw [hr2.1]
      exact .inr rfl
/-- 'append(v, x)', v a call's own: what is owned next lies where v lay, or is new. -/
theorem wpList_append_el1 {α : Type} [Inhabited α] {K : Kd α} {P : Program} {w : World} {ops : Array Oper} {rest : List Oper} {o : Oper} {a : Act} {Q : Exit → Act → World → Prop} (hgd : Region.wanted o (yielded ops a.tmps) = true) (s x : Operand) (t : TypeId)
    (ho : o.op = .call { callee := .builtin .append, args := #[s, x], argTypes := #[t, t] })
    (base : Nat) (e : TypeId) (i : TypeInfo) (z : Value) (ht : P.underlying t = some (.slice e)) (hi : P.info? e = some i) (hz : i.zero = some z)
    (hsize : i.size = K.k) (hby : i.bytes ≤ 1000) (hzs : z.cells.size = K.k) {v : Value} {l : List α} (hs : a.eval s = v) (hown : OwnEl K w base e v l) {p : Option Addr} {c : Nat} {y : α} (hx : a.eval x = .slice p 1 c) (hk : ElAt K w p 1 c [y])
    (hlen : l.length + 1 ≤ 1048576) (hbase : base ≤ w.heap.size)
    (h : ∀ v' w', OwnEl K w' base e v' (l ++ [y]) → w.grownBy w' v.ownBlock → Nexts w v v' → wpList P ops Q rest (a.put o.dst v') w') : wpList P ops Q (o :: rest) a w := by
  refine wpList_step fun K' hK => ?_
  rw [if_pos hgd]
  obtain ⟨b, off, rfl, hc⟩ := hk.two (i := 0) (by omega)
  have hyl : (K.enc y).length = K.k := K.len y
  obtain ⟨v', w', hr, h2, h3, h4⟩ := run_append_near (P := P) w base t o.type e i z K.k i.bytes ht hi hz hsize rfl hzs K.pos v l.length (K.vs l) hown ⟨b, off, none⟩ c (K.enc y) (by rw [hyl, Nat.one_mul])
    (fun j u hj => by
      have hjk : j < K.k := by rw [← hyl]; exact (List.getElem?_eq_some_iff.1 hj).1
      have := hc j hjk
      rw [by_add]
      simp only [Nat.zero_mul, Nat.add_zero] at this
      rw [this, show el [y] 0 = y from rfl]; exact hj)
    (K.ones y) (by unfold maxLen; omega) (by
      have : (l.length + 1) * i.bytes ≤ 1048576 * 1000 := Nat.mul_le_mul hlen hby
      omega) hbase
  unfold Oper.wp execOp
  simp only [ho, resolve, invoke, builtin, Sem.run_bind, Sem.run_pure, Result.andThen_ok, List.map_toArray, List.map_cons, List.map_nil, hs, hx, hr]
  refine hK _ _ (h v' w' ?_ h3 (fun j hj => h4.elim (fun q => .inl (q ▸ hj)) fun q => .inr (by rw [q] at hj; cases hj; exact Nat.le_refl _)))
  unfold OwnEl
  rw [List.length_append, K.vs_app, K.vs_one]
  exact h2
/-- 'append(v, x)' at a step of a region that draws its order. -/
theorem step_append_el1 {α : Type} [Inhabited α] {K : Kd α} {P : Program} {w : World} {ops : Array Oper} {o : Oper} {a : Act} {K' : Act → World → Prop} {Q : Exit → Act → World → Prop} {E : Prop} (hgd : Region.wanted o (yielded ops a.tmps) = true) (s x : Operand) (t : TypeId)
    (ho : o.op = .call { callee := .builtin .append, args := #[s, x], argTypes := #[t, t] })
    (base : Nat) (e : TypeId) (i : TypeInfo) (z : Value) (ht : P.underlying t = some (.slice e)) (hi : P.info? e = some i) (hz : i.zero = some z)
    (hsize : i.size = K.k) (hby : i.bytes ≤ 1000) (hzs : z.cells.size = K.k) {v : Value} {l : List α} (hs : a.eval s = v) (hown : OwnEl K w base e v l) {p : Option Addr} {c : Nat} {y : α} (hx : a.eval x = .slice p 1 c) (hk : ElAt K w p 1 c [y])
    (hlen : l.length + 1 ≤ 1048576) (hbase : base ≤ w.heap.size)
    (h : ∀ v' w', OwnEl K w' base e v' (l ++ [y]) → w.grownBy w' v.ownBlock → Nexts w v v' → K' (a.put o.dst v') w') : if Region.wanted o (yielded ops a.tmps) = true then Oper.wp P o a w K' Q else E := by
  rw [if_pos hgd]
  obtain ⟨b, off, rfl, hc⟩ := hk.two (i := 0) (by omega)
  have hyl : (K.enc y).length = K.k := K.len y
  obtain ⟨v', w', hr, h2, h3, h4⟩ := run_append_near (P := P) w base t o.type e i z K.k i.bytes ht hi hz hsize rfl hzs K.pos v l.length (K.vs l) hown ⟨b, off, none⟩ c (K.enc y) (by rw [hyl, Nat.one_mul])
    (fun j u hj => by
      have hjk : j < K.k := by rw [← hyl]; exact (List.getElem?_eq_some_iff.1 hj).1
      have := hc j hjk
      rw [by_add]
      simp only [Nat.zero_mul, Nat.add_zero] at this
      rw [this, show el [y] 0 = y from rfl]; exact hj)
    (K.ones y) (by unfold maxLen; omega) (by
      have : (l.length + 1) * i.bytes ≤ 1048576 * 1000 := Nat.mul_le_mul hlen hby
      omega) hbase
  unfold Oper.wp execOp
  simp only [ho, resolve, invoke, builtin, Sem.run_bind, Sem.run_pure, Result.andThen_ok, List.map_toArray, List.map_cons, List.map_nil, hs, hx, hr]
  refine h v' w' ?_ h3 (fun j hj => h4.elim (fun q => .inl (q ▸ hj)) fun q => .inr (by rw [q] at hj; cases hj; exact Nat.le_refl _))
  unfold OwnEl
  rw [List.length_append, K.vs_app, K.vs_one]
  exact h2
/-- Two own lists of one kind that lie apart. -/
def Apart (v u : Value) : Prop := ∀ j, v.ownBlock = some j → u.ownBlock ≠ some j
theorem Apart.nil (v : Value) : Apart v (.slice none 0 0) := fun _ _ h => by cases h
theorem Apart.symm {v u : Value} (h : Apart v u) : Apart u v := fun j p q => h j q p
theorem Apart.next {w : World} {v v' u : Value} (h : Apart v u) (n : Nexts w v v') (hu : ∀ j, u.ownBlock = some j → j < w.heap.size) : Apart v' u := fun j p q => by
  rcases n j p with r | r
  · exact h j r q
  · have := hu j q; omega
end Go.Proofs.YtekhgidbnpfmnaaGreatDoor
