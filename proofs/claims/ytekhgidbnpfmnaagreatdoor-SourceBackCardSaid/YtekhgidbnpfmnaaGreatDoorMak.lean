/- What 'make' makes: a block of n elements, all zero; what is known of a type's elements. Nothing of any program. -/
import Derived.Test.YtekhgidbnpfmnaaGreatDoorElsM
import Derived.OwnWalk
import Derived.Test.YtekhgidbnpfmnaaGreatDoorIts
namespace Go.Proofs.YtekhgidbnpfmnaaGreatDoor
open Go.RowKit Go.OpenShut Go.ChangeShapes

/-- 'make([]T, n)': n elements, all zero. -/
theorem wpList_make_blk {P : Program} (w : World) {ops : Array Oper} {rest : List Oper} {o : Oper} {a : Act} {Q : Exit → Act → World → Prop}
    (hg : o.guard = none) (l c : Operand) (t : TypeId) (hop : o.op = Op.makeSlice t l c)
    (e : TypeId) (i : TypeInfo) (z : Value) (size : Nat) (h1 : P.underlying t = some (.slice e)) (h2 : P.info? e = some i) (h3 : i.zero = some z) (h4 : i.size = size)
    (kl kc : IntKind) (L C : Int) (n : Nat) (hl : a.eval l = .int kl L) (hc : a.eval c = .int kc C) (hL : L = (n : Int)) (hC : C = (n : Int)) (b2 : i.bytes * n ≤ 281474976710656) (b3 : n ≤ maxLen)
    (hK : wpList P ops Q rest (a.put o.dst (.slice (some ⟨w.heap.size, 0, none⟩) n n)) (w.alloc (.cells (madeCells z.cells (n * size)) e))) :
    wpList P ops Q (o :: rest) a w := by
  refine wpList_plain hg fun K hK' => ?_
  subst hL hC h4
  have b3' : (n : Int) ≤ 9223372036854775807 := by unfold maxLen at b3; omega
  have b2' : (i.bytes : Int) * (n : Int) ≤ 281474976710656 := by rw [← Int.natCast_mul]; omega
  have hrun := run_make (P := P) w t e i z h1 h2 h3 kl kc n n (Int.natCast_nonneg _) (Int.le_refl _) b2' b3'
  simp only [Int.toNat_natCast] at hrun
  unfold Oper.wp
  simp [execOp, hop, hl, hc, hrun, Result.andThen]
  exact hK' _ _ hK
theorem made_fn {z : Value} {k n : Nat} {cs : Array Value} (hk : cs.size = k) (hz : ∀ j, j < k → cs[j]? = some z) (h0 : 0 < k) : madeCells cs n = fnArr n fun _ => z := by
  apply Array.ext_getElem?
  intro i
  by_cases h : i < n
  · rw [fnArr_get _ h]
    unfold madeCells
    have hm : i % cs.size < cs.size := Nat.mod_lt _ (by omega)
    have hv := hz (i % cs.size) (by omega)
    rw [Array.getElem?_map, Array.getElem?_range, if_pos h]
    simp only [Option.map_some, getElem!_def, hv]
  · rw [Array.getElem?_eq_none (by rw [size_madeCells]; omega), Array.getElem?_eq_none (by rw [fnArr_size]; omega)]
theorem BlkAt.newb {b : Nat} (w : World) (T : TypeId) (cs : Array Value) (h : w.heap.size = b) : BlkAt b T cs (w.alloc (.cells cs T)) := by subst h; exact BlkAt.new w T cs

/-! ### Numbers of one kind, each by its place -/
def upn {α : Type} (f : Nat → α) (k : Nat) (v : α) : Nat → α := fun i => if i = k then v else f i
theorem upn_at {α : Type} (f : Nat → α) (k : Nat) (v : α) : upn f k v k = v := if_pos rfl
theorem upn_off {α : Type} (f : Nat → α) {k i : Nat} (v : α) (h : i ≠ k) : upn f k v i = f i := if_neg h
/-- n numbers in block b. -/
def Ar (κ : IntKind) (T : TypeId) (b n : Nat) (f : Nat → Int) (w : World) : Prop := BlkAt b T (fnArr n fun i => .int κ (f i)) w
section
variable {κ : IntKind} {T : TypeId} {b n : Nat} {f : Nat → Int} {w w' : World}
theorem Ar.lt (h : Ar κ T b n f w) : b < w.heap.size := BlkAt.lt h
theorem Ar.cell (h : Ar κ T b n f w) {i : Nat} (hi : i < n) : w.cell? ⟨b, i, none⟩ = some (.int κ (f i)) := BlkAt.fcell h hi
theorem Ar.free (h : Ar κ T b n f w) (i : Nat) : w.frozen? ⟨b, i, none⟩ = false := BlkAt.free h i
theorem Ar.set (h : Ar κ T b n f w) (k : Nat) (v : Int) : Ar κ T b n (upn f k v) (w.setCell ⟨b, k, none⟩ (.int κ v)) :=
  BlkAt.fset h k _ fun i _ => by unfold upn; split <;> rfl
theorem Ar.keep (h : Ar κ T b n f w) (k : Below w.heap.size w w') : Ar κ T b n f w' := BlkAt.keep h k
theorem Ar.kept {F : Nat → Prop} (h : Ar κ T b n f w) (k : Keeps F w w') (hn : ¬ F b) : Ar κ T b n f w' := BlkAt.kept h k hn
theorem Ar.eq {g : Nat → Int} (h : Ar κ T b n f w) (e : ∀ i, i < n → f i = g i) : Ar κ T b n g w := BlkAt.eq h (fnArr_ext fun i hi => by rw [e i hi])
theorem Ar.made (κ : IntKind) (T : TypeId) (w : World) (n : Nat) : Ar κ T w.heap.size n (fun _ => 0) (w.alloc (.cells (madeCells #[.int κ 0] n) T)) := by
  rw [made_fn (k := 1) (z := .int κ 0) rfl (fun j hj => by obtain rfl : j = 0 := (by omega); rfl) (by omega)]
  exact BlkAt.new w T _
/-- It reads as a list. -/
theorem Ar.ws (h : Ar κ T b n f w) (hn : n ≤ maxLen) : Ws κ w (some ⟨b, 0, none⟩) n n ((List.range n).map f) :=
  ⟨by simp, Nat.le_refl _, hn, fun e => (nomatch e), fun _ => ⟨b, 0, rfl, fun i hi => by
    rw [Nat.zero_add, h.cell hi]
    simp [byAt, List.getD, hi]⟩⟩
end
/-- The part from lo up to hi. -/
theorem Ws.mid {κ : IntKind} {w : World} {a : Option Addr} {n c lo hi : Nat} {l : List Int} (h : Ws κ w a n c l) (h1 : lo ≤ hi) (h2 : hi ≤ n) :
    ∃ a' c', sliced a lo hi c 1 = .slice a' (hi - lo) c' ∧ Ws κ w a' (hi - lo) c' ((l.drop lo).take (hi - lo)) ∧ ∀ b off, a' = some ⟨b, off, none⟩ → ∃ off', a = some ⟨b, off', none⟩ := by
  have hc := h.cap
  have hb := h.big
  have hl := h.len
  rcases Nat.eq_zero_or_pos n with h0 | h0
  · obtain rfl : hi = 0 := by omega
    obtain rfl : lo = 0 := by omega
    exact ⟨a, c, by unfold sliced; rw [Nat.zero_mul, add_nought]; simp, ⟨by simp, by omega, hb, h.nil, fun h => absurd h (Nat.lt_irrefl _)⟩, fun b off e => ⟨off, e⟩⟩
  · obtain ⟨b, off, rfl, hcell⟩ := h.lie h0
    by_cases e : c = lo
    · refine ⟨some ⟨b, off, none⟩, c - lo, by unfold sliced; rw [if_pos e], ⟨by rw [List.length_take, List.length_drop]; omega, by omega, by omega, fun q => (nomatch q), fun q => by omega⟩, fun b' o' q => ⟨off, by cases q; rfl⟩⟩
    · refine ⟨some ⟨b, off + lo, none⟩, c - lo, ?_, ⟨by rw [List.length_take, List.length_drop]; omega, by omega, by omega, fun q => (nomatch q), fun _ => ⟨b, off + lo, rfl, fun i hi' => ?_⟩⟩, fun b' o' q => ⟨off, by cases q; rfl⟩⟩
      · unfold sliced
        rw [if_neg e, Option.map_some, by_add, Nat.mul_one]
      · rw [Nat.add_assoc, hcell (lo + i) (by omega)]
        congr 2
        simp [byAt, List.getD, hi', List.getElem?_drop]

/-! ### Numbers of one kind, appended -/
def numK (κ : IntKind) : Kd Int where
  k := 1
  enc x := [.int κ x]
  len _ := rfl
  ones _ v hv := by obtain rfl := List.mem_singleton.1 hv; rfl
  pos := Nat.one_pos
theorem numK_vs (κ : IntKind) (l : List Int) : (numK κ).vs l = l.map (Value.int κ) := by
  induction l with
  | nil => rfl
  | cons x l ih =>
    have e : (numK κ).vs (x :: l) = (numK κ).enc x ++ (numK κ).vs l := by simp [Kd.vs]
    rw [e, ih]
    rfl
theorem ownW_el {κ : IntKind} {w : World} {base : Nat} {e : TypeId} {v : Value} {l : List Int} : OwnEl (numK κ) w base e v l ↔ OwnW κ w base e v l := by
  unfold OwnEl OwnW
  rw [numK_vs]
  exact Iff.rfl
theorem Ws.els {κ : IntKind} {w : World} {a : Option Addr} {n c : Nat} {l : List Int} (h : Ws κ w a n c l) : ElAt (numK κ) w a n c l := by
  refine ⟨h.len, h.cap, h.big, h.nil, fun hn => ?_⟩
  obtain ⟨b, off, e, hc⟩ := h.lie hn
  refine ⟨b, off, e, fun i hi j hj => ?_⟩
  obtain rfl : j = 0 := by have : j < 1 := hj; omega
  rw [show (numK κ).k = 1 from rfl, Nat.mul_one, Nat.add_zero, hc i hi]
  rfl
theorem Ws.one (κ : IntKind) (w : World) (e : TypeId) (x : Int) : Ws κ (w.alloc (.cells #[.int κ x] e)) (some ⟨w.heap.size, 0, none⟩) 1 1 [x] := by
  obtain ⟨a, c, e', h⟩ := (OwnW.lit (κ := κ) w e (Nat.le_refl _) [x] (by unfold maxLen; simp) #[.int κ x] rfl).ws
  simp only [Value.slice.injEq, List.length_singleton] at e'
  obtain ⟨rfl, -, rfl⟩ := e'
  exact h
theorem Ws.oneb (κ : IntKind) {b : Nat} (w : World) (e : TypeId) (x : Int) (h : w.heap.size = b) : Ws κ (w.alloc (.cells #[.int κ x] e)) (some ⟨b, 0, none⟩) 1 1 [x] := by
  subst h; exact .one κ w e x
theorem wpList_append_w {κ : IntKind} {P : Program} {w : World} {ops : Array Oper} {rest : List Oper} {o : Oper} {a : Act} {Q : Exit → Act → World → Prop} (hgd : Region.wanted o (yielded ops a.tmps) = true) (s x : Operand) (t : TypeId)
    (ho : o.op = .call { callee := .builtin .append, args := #[s, x], argTypes := #[t, t] })
    (base : Nat) (e : TypeId) (i : TypeInfo) (z : Value) (ht : P.underlying t = some (.slice e)) (hi : P.info? e = some i) (hz : i.zero = some z)
    (hsize : i.size = 1) (hby : i.bytes ≤ 1000) (hzs : z.cells.size = 1) {v : Value} {l : List Int} (hs : a.eval s = v) (hown : OwnW κ w base e v l) {p : Option Addr} {m c : Nat} {k : List Int} (hx : a.eval x = .slice p m c) (hk : Ws κ w p m c k)
    (hlen : l.length + m ≤ 1048576) (hbase : base ≤ w.heap.size)
    (h : ∀ v' w', OwnW κ w' base e v' (l ++ k) → w.grownBy w' v.ownBlock → wpList P ops Q rest (a.put o.dst v') w') : wpList P ops Q (o :: rest) a w :=
  wpList_append_els (K := numK κ) hgd s x t ho base e i z ht hi hz hsize hby hzs hs (ownW_el.2 hown) hx hk.els hlen hbase fun v' w' h1 h2 => h v' w' (ownW_el.1 h1) h2
theorem OwnW.keep {κ : IntKind} {w w' : World} {base : Nat} {e : TypeId} {v : Value} {l : List Int} (h : OwnW κ w base e v l) (k : Below w.heap.size w w') : OwnW κ w' base e v l := own_keep h k
theorem OwnW.kept {κ : IntKind} {F : Nat → Prop} {w w' : World} {base : Nat} {e : TypeId} {v : Value} {l : List Int} (h : OwnW κ w base e v l) (k : Keeps F w w') (hn : ∀ j, v.ownBlock = some j → ¬ F j) : OwnW κ w' base e v l := own_kept h k hn
/-- A block of another type is none that is owned. -/
theorem own_off_type {w : World} {base size n b : Nat} {e T : TypeId} {v : Value} {xs : List Value} {cs : Array Value} (h : w.ownsRow base e size v n xs) (hb : BlkAt b T cs w) (hT : T ≠ e) : v.ownBlock ≠ some b := by
  intro q
  rcases h.2 with ⟨rfl, _⟩ | ⟨g, cap, cur, rfl, _, hg, _⟩
  · cases q
  · obtain rfl : g = b := by simpa [Value.ownBlock] using q
    unfold BlkAt at hb
    rw [hb] at hg
    cases hg
    exact hT rfl

theorem own_two {w : World} {base base' s s' n n' : Nat} {e e' : TypeId} {v v' : Value} {xs xs' : List Value} (h : w.ownsRow base e s v n xs) (h' : w.ownsRow base' e' s' v' n' xs') (he : e ≠ e') : ∀ j, v.ownBlock = some j → ¬ v'.ownBlock = some j := by
  intro j hj
  rcases h.2 with ⟨rfl, _⟩ | ⟨g, cap, cur, rfl, _, hg, _⟩
  · exact nomatch hj
  · obtain rfl : g = j := Option.some.inj hj
    exact own_off_type h' (show BlkAt g e cur w from hg) he
/-- What v' owns was owned by v, or is new since w. -/
def Nexts (w : World) (v v' : Value) : Prop := ∀ j, v'.ownBlock = some j → v.ownBlock = some j ∨ w.heap.size ≤ j
theorem Nexts.refl (w : World) (v : Value) : Nexts w v v := fun _ h => .inl h
theorem Nexts.trans {w w' : World} {v v' v2 : Value} (h : Nexts w v v') (k : Nexts w' v' v2) (hs : w.heap.size ≤ w'.heap.size) : Nexts w v v2 := fun j q => (k j q).elim (h j) fun e => .inr (Nat.le_trans hs e)
theorem Nexts.off {w : World} {v v' : Value} {b : Nat} (h : Nexts w v v') (hb : b < w.heap.size) (hv : v.ownBlock ≠ some b) : v'.ownBlock ≠ some b := fun q => (h b q).elim hv fun e => by omega
theorem wpList_append_1 {κ : IntKind} {P : Program} {w : World} {ops : Array Oper} {rest : List Oper} {o : Oper} {a : Act} {Q : Exit → Act → World → Prop} (hgd : Region.wanted o (yielded ops a.tmps) = true) (s x : Operand) (t : TypeId)
    (ho : o.op = .call { callee := .builtin .append, args := #[s, x], argTypes := #[t, t] })
    (base : Nat) (e : TypeId) (i : TypeInfo) (z : Value) (ht : P.underlying t = some (.slice e)) (hi : P.info? e = some i) (hz : i.zero = some z)
    (hsize : i.size = 1) (hby : i.bytes ≤ 1000) (hzs : z.cells.size = 1) {v : Value} {l : List Int} (hs : a.eval s = v) (hown : OwnW κ w base e v l) {b c : Nat} {u : Int} (hx : a.eval x = .slice (some ⟨b, 0, none⟩) 1 c) (hu : w.cell? ⟨b, 0, none⟩ = some (.int κ u))
    (hlen : l.length + 1 ≤ 1048576) (hbase : base ≤ w.heap.size)
    (h : ∀ v' w', OwnW κ w' base e v' (l ++ [u]) → w.grownBy w' v.ownBlock → Nexts w v v' → wpList P ops Q rest (a.put o.dst v') w') : wpList P ops Q (o :: rest) a w := by
  refine wpList_step fun K' hK => ?_
  rw [if_pos hgd]
  obtain ⟨v', w', hr, h2, h3, h4⟩ := run_append_next (P := P) w base t o.type e i z i.bytes ht hi hz hsize rfl hzs v l.length (l.map (Value.int κ)) hown ⟨b, 0, none⟩ c (.int κ u) hu rfl (by unfold maxLen; omega) (by
    have := Nat.mul_le_mul hlen hby
    omega) hbase
  unfold Oper.wp execOp
  simp only [ho, resolve, invoke, builtin, Sem.run_bind, Sem.run_pure, Result.andThen_ok, List.map_toArray, List.map_cons, List.map_nil, hs, hx, hr]
  refine hK _ _ (h v' w' ?_ h3 ?_)
  · unfold OwnW
    rw [List.length_append, List.length_singleton, List.map_append]
    exact h2
  · intro j q
    rcases h4 with h4 | h4
    · exact .inl (h4 ▸ q)
    · rw [h4] at q
      exact .inr (by injection q with q; omega)

/-- 'make([]T, m, n)': what is made is a call's own, m zeros of it read. -/
theorem wpList_make_zeros {κ : IntKind} {P : Program} (w : World) {ops : Array Oper} {rest : List Oper} {o : Oper} {a : Act} {Q : Exit → Act → World → Prop}
    (hg : o.guard = none) (l c : Operand) (t : TypeId) (hop : o.op = Op.makeSlice t l c)
    (e : TypeId) (i : TypeInfo) (h1 : P.underlying t = some (.slice e)) (h2 : P.info? e = some i) (h3 : i.zero = some (.int κ 0)) (h4 : i.size = 1)
    (kl kc : IntKind) (C : Int) (m n : Nat) (hl : a.eval l = .int kl (m : Int)) (hc : a.eval c = .int kc C) (hC : C = (n : Int)) (hmn : m ≤ n) (b2 : i.bytes * n ≤ 281474976710656) (b3 : n ≤ maxLen)
    (hK : ∀ w', OwnW κ w' w.heap.size e (.slice (some ⟨w.heap.size, 0, none⟩) m n) (List.replicate m 0) → w' = w.alloc (.cells (fnArr n fun _ => .int κ 0) e) → wpList P ops Q rest (a.put o.dst (.slice (some ⟨w.heap.size, 0, none⟩) m n)) w') :
    wpList P ops Q (o :: rest) a w := by
  refine wpList_plain hg fun K hK' => ?_
  subst hC
  have b3' : (n : Int) ≤ 9223372036854775807 := by unfold maxLen at b3; omega
  have b2' : (i.bytes : Int) * (n : Int) ≤ 281474976710656 := by rw [← Int.natCast_mul]; omega
  have hrun := run_make (P := P) w t e i (.int κ 0) h1 h2 h3 kl kc m n (Int.natCast_nonneg _) (by omega) b2' b3'
  simp only [Int.toNat_natCast, h4, Nat.mul_one] at hrun
  rw [show (Value.int κ 0).cells = #[.int κ 0] from rfl, made_fn (k := 1) (z := .int κ 0) rfl (fun j hj => by obtain rfl : j = 0 := (by omega); rfl) (by omega)] at hrun
  unfold Oper.wp
  simp [execOp, hop, hl, hc, hrun, Result.andThen]
  refine hK' _ _ (hK _ ⟨by simp, .inr ⟨w.heap.size, n, fnArr n fun _ => .int κ 0, by simp, Nat.le_refl _, BlkAt.new w _ _, by simpa using hmn, b3, by rw [fnArr_size]; omega, ?_⟩⟩ rfl)
  apply List.ext_getElem?
  intro j
  simp only [List.length_replicate, List.map_replicate, Nat.mul_one]
  rw [List.getElem?_take, List.getElem?_replicate]
  by_cases hj : j < m
  · rw [if_pos hj, if_pos hj, Array.getElem?_toList, fnArr_get _ (by omega)]
  · rw [if_neg hj, if_neg hj]
theorem run_cut_mid {P : Program} (t : TypeId) {s : Nat} (ht : P.underlying t = some (.slice (P.elem t))) (hs : ∀ w, (Go.sizeOf (P.elem t)).run P w = .ok s w) (kl kh : IntKind) (a : Option Addr) (n c lo hi : Nat) (h1 : lo ≤ hi) (h2 : hi ≤ c) (w : World) :
    (Instr.slice t (.slice a n c) (some (.int kl lo)) (some (.int kh hi)) none).run P w = .ok (sliced a lo hi c s) w := by
  rw [run_slice_lh (w := w) t a n c ht kl kh lo hi (by omega) (by omega) (by omega), hs]
  rfl
theorem OwnW.wsn {κ : IntKind} {w : World} {base m : Nat} {e : TypeId} {v : Value} {l : List Int} (h : OwnW κ w base e v l) (hm : l.length = m) : ∃ a c, v = .slice a m c ∧ Ws κ w a m c l := by
  subst hm; exact h.ws
/-- 'make([]T, n)', told as an equation. -/
theorem run_zeros {κ : IntKind} {P : Program} (t e : TypeId) (i : TypeInfo) (h1 : P.underlying t = some (.slice e)) (h2 : P.info? e = some i) (h3 : i.zero = some (.int κ 0)) (h4 : i.size = 1)
    (n : Nat) (b2 : i.bytes * n ≤ 281474976710656) (b3 : n ≤ maxLen) (C : Int) (hC : C = (n : Int)) (w : World) :
    (Instr.makeSlice t (.int .i64 C) (.int .i64 C)).run P w = .ok (.slice (some ⟨w.heap.size, 0, none⟩) n n) (w.alloc (.cells (fnArr n fun _ => .int κ 0) e)) := by
  subst hC
  have b3' : (n : Int) ≤ 9223372036854775807 := by unfold maxLen at b3; omega
  have b2' : (i.bytes : Int) * (n : Int) ≤ 281474976710656 := by rw [← Int.natCast_mul]; omega
  have hrun := run_make (P := P) w t e i (.int κ 0) h1 h2 h3 .i64 .i64 n n (Int.natCast_nonneg _) (Int.le_refl _) b2' b3'
  simp only [Int.toNat_natCast, h4, Nat.mul_one] at hrun
  rw [show (Value.int κ 0).cells = #[.int κ 0] from rfl, made_fn (k := 1) (z := .int κ 0) rfl (fun j hj => by obtain rfl : j = 0 := (by omega); rfl) (by omega)] at hrun
  exact hrun
theorem Ar.zeros {κ : IntKind} {T : TypeId} {b n : Nat} (w : World) (h : w.heap.size = b) : Ar κ T b n (fun _ => 0) (w.alloc (.cells (fnArr n fun _ => .int κ 0) T)) := BlkAt.newb w T _ h
/-- Cells behind a store of some in a row. -/
def setsA : Array Value → Nat → List Value → Array Value
  | cs, _, [] => cs
  | cs, o, v :: r => setsA (cs.setIfInBounds o v) (o + 1) r
theorem setsA_out {i : Nat} : ∀ (l : List Value) (cs : Array Value) (o : Nat), i < o ∨ o + l.length ≤ i → (setsA cs o l)[i]? = cs[i]?
  | [], _, _, _ => rfl
  | v :: r, cs, o, h => by
    unfold setsA
    rw [setsA_out r _ _ (by simp only [List.length_cons] at h; omega), Array.getElem?_setIfInBounds, if_neg (by simp only [List.length_cons] at h; omega)]
theorem setsA_in {i : Nat} : ∀ (l : List Value) (cs : Array Value) (o : Nat), o ≤ i → i < o + l.length → i < cs.size → (setsA cs o l)[i]? = l[i - o]?
  | [], _, _, h1, h2, _ => by simp at h2; omega
  | v :: r, cs, o, h1, h2, h3 => by
    unfold setsA
    by_cases h : i = o
    · subst h
      rw [setsA_out r _ _ (.inl (by omega)), Array.getElem?_setIfInBounds, if_pos rfl, if_pos h3, Nat.sub_self]
      rfl
    · rw [setsA_in r _ _ (by omega) (by simp only [List.length_cons] at h2; omega) (by simpa using h3), show i - o = (i - (o + 1)) + 1 by omega]
      rfl
theorem setCells_blk {b : Nat} {T : TypeId} : ∀ (l : List Value) (o : Nat) {cs : Array Value} {w : World}, BlkAt b T cs w → BlkAt b T (setsA cs o l) (w.setCells b o l) ∧ Keeps (fun j => j = b) w (w.setCells b o l)
  | [], _, _, w, h => ⟨h, Keeps.refl _ w⟩
  | v :: r, o, _, w, h => by
    obtain ⟨h1, h2⟩ := setCells_blk r (o + 1) (h.set o v)
    exact ⟨h1, (Keeps.set1 w b o v).trans h2⟩
end Go.Proofs.YtekhgidbnpfmnaaGreatDoor
