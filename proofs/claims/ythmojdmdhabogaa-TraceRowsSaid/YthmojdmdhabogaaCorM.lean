/- A machine's memory: a struct's block as a function of its places, what keeps what, lists of marks (three numbers each). Nothing of any program. -/
import Derived.Test.YthmojdmdhabogaaRamM
import Derived.Deep.AppendLies
namespace Go.Proofs.Ythmojdmdhabogaa
open Go.RowKit Go.OpenShut Go.ChangeShapes

/-- n cells, each by its place. -/
def fnArr (n : Nat) (f : Nat → Value) : Array Value := Array.ofFn (n := n) fun i => f i.val
theorem fnArr_size (n : Nat) (f : Nat → Value) : (fnArr n f).size = n := by simp [fnArr]
theorem fnArr_get {n : Nat} (f : Nat → Value) {i : Nat} (h : i < n) : (fnArr n f)[i]? = some (f i) := by simp [fnArr, h]
theorem fnArr_ext {n : Nat} {f g : Nat → Value} (h : ∀ i, i < n → f i = g i) : fnArr n f = fnArr n g := by
  unfold fnArr
  congr 1
  funext i
  exact h i.val i.isLt
theorem fnArr_set {n : Nat} (f : Nat → Value) (k : Nat) (v : Value) : (fnArr n f).setIfInBounds k v = fnArr n fun i => if i = k then v else f i := by
  apply Array.ext_getElem?
  intro j
  by_cases h : j < n
  · rw [fnArr_get _ h, Array.getElem?_setIfInBounds, fnArr_size]
    by_cases e : k = j
    · subst e; rw [if_pos rfl, if_pos h, if_pos rfl]
    · rw [if_neg e, if_neg (fun q => e q.symm), fnArr_get f h]
  · rw [Array.getElem?_eq_none (by simp [fnArr_size]; omega), Array.getElem?_eq_none (by simp [fnArr_size]; omega)]
theorem BlkAt.fcell {B n : Nat} {T : TypeId} {f : Nat → Value} {w : World} (h : BlkAt B T (fnArr n f) w) {k : Nat} (hk : k < n) : w.cell? ⟨B, k, none⟩ = some (f k) := (h.cell k).trans (fnArr_get f hk)
theorem BlkAt.fset {B n : Nat} {T : TypeId} {f : Nat → Value} {w : World} (h : BlkAt B T (fnArr n f) w) (k : Nat) (v : Value) {g : Nat → Value} (e : ∀ i, i < n → g i = if i = k then v else f i) : BlkAt B T (fnArr n g) (w.setCell ⟨B, k, none⟩ v) :=
  (h.set k v).eq ((fnArr_set f k v).trans (fnArr_ext fun i hi => (e i hi).symm))

/-- Of all that was there, F's blocks alone may read otherwise. -/
structure Keeps (F : Nat → Prop) (w w' : World) : Prop where
  os : w'.os = w.os
  tape : w'.tape = w.tape
  output : w'.output = w.output
  size : w.heap.size ≤ w'.heap.size
  block : ∀ j, j < w.heap.size → ¬ F j → w'.heap[j]? = w.heap[j]?
theorem Keeps.refl (F : Nat → Prop) (w : World) : Keeps F w w := ⟨rfl, rfl, rfl, Nat.le_refl _, fun _ _ _ => rfl⟩
theorem Keeps.next {F G : Nat → Prop} {a b c : World} (h : Keeps F a b) (k : Keeps G b c) (e : ∀ j, j < a.heap.size → G j → F j) : Keeps F a c :=
  ⟨k.os.trans h.os, k.tape.trans h.tape, k.output.trans h.output, Nat.le_trans h.size k.size, fun j hj hn => (k.block j (Nat.lt_of_lt_of_le hj h.size) (fun g => hn (e j hj g))).trans (h.block j hj hn)⟩
theorem Keeps.trans {F : Nat → Prop} {a b c : World} (h : Keeps F a b) (k : Keeps F b c) : Keeps F a c := h.next k fun _ _ e => e
theorem Keeps.of_below {w w' : World} (F : Nat → Prop) (h : Below w.heap.size w w') : Keeps F w w' := ⟨h.os, h.tape, h.output, h.size, fun j hj _ => h.block j hj⟩
theorem Keeps.of_grown {F : Nat → Prop} {w w' : World} {row : Option Nat} (h : w.grownBy w' row) (e : ∀ j, row = some j → F j) : Keeps F w w' :=
  ⟨h.os, h.tape, h.output, h.size, fun j hj hn => h.block j hj (fun q => hn (e j q.symm))⟩
theorem Keeps.set {F : Nat → Prop} {b : Nat} (h : F b) (w : World) (k : Nat) (v : Value) : Keeps F w (w.setCell ⟨b, k, none⟩ v) :=
  ⟨rfl, rfl, rfl, by simp [World.setCell], fun j _ hn => Below.heap_setCell _ _ _ _ (fun e => hn (by rw [e]; exact h))⟩
theorem Keeps.set1 (w : World) (b k : Nat) (v : Value) : Keeps (fun j => j = b) w (w.setCell ⟨b, k, none⟩ v) := Keeps.set (F := fun j => j = b) rfl w k v
theorem Keeps.mono {F G : Nat → Prop} {w w' : World} (h : Keeps F w w') (e : ∀ j, j < w.heap.size → F j → G j) : Keeps G w w' := ⟨h.os, h.tape, h.output, h.size, fun j hj hn => h.block j hj (fun f => hn (e j hj f))⟩
theorem Keeps.below {F : Nat → Prop} {B : Nat} {a w w' : World} (k : Keeps F w w') (h : Below B a w) (hB : B ≤ w.heap.size) (e : ∀ j, F j → B ≤ j) : Below B a w' :=
  h.trans ⟨k.os, k.tape, k.output, k.size, fun j hj => k.block j (Nat.lt_of_lt_of_le hj hB) (fun f => absurd (e j f) (by omega))⟩
theorem Keeps.nought {w w' : World} (k : Keeps (fun _ => False) w w') : Below w.heap.size w w' := ⟨k.os, k.tape, k.output, k.size, fun j hj => k.block j hj (fun f => f)⟩
theorem BlkAt.kept {B : Nat} {T : TypeId} {cs : Array Value} {F : Nat → Prop} {w w' : World} (h : BlkAt B T cs w) (k : Keeps F w w') (hn : ¬ F B) : BlkAt B T cs w' := (k.block B h.lt hn).trans h
theorem own_kept {F : Nat → Prop} {w w' : World} {base size n : Nat} {e : TypeId} {v : Value} {xs : List Value} (h : w.ownsRow base e size v n xs) (k : Keeps F w w') (hn : ∀ j, v.ownBlock = some j → ¬ F j) : w'.ownsRow base e size v n xs := by
  refine ⟨h.1, h.2.imp id ?_⟩
  rintro ⟨g, cap, cur, hv, hb, hg, rest⟩
  exact ⟨g, cap, cur, hv, hb, (k.block g (Array.getElem?_eq_some_iff.1 hg).1 (hn g (by rw [hv]; rfl))).trans hg, rest⟩
theorem Keeps.cell {F : Nat → Prop} {w w' : World} (k : Keeps F w w') {b i : Nat} {v : Value} (hn : ¬ F b) (h : w.cell? ⟨b, i, none⟩ = some v) : w'.cell? ⟨b, i, none⟩ = some v := (World.cell?_of_block (a := ⟨b, i, none⟩) (k.block b (cell_lt h) hn)).trans h
theorem Ws.kept {K : IntKind} {F : Nat → Prop} {w w' : World} {a : Option Addr} {n c : Nat} {l : List Int} (h : Ws K w a n c l) (k : Keeps F w w') (hn : ∀ b off, a = some ⟨b, off, none⟩ → ¬ F b) : Ws K w' a n c l :=
  h.on fun _ b off e hl => k.block b hl (hn b off e)

/-- What owns F's blocks has turned: none but these may read otherwise; what it owns now was its own, or is new. -/
structure Grows (F : Nat → Prop) (w : World) (F' : Nat → Prop) (w' : World) : Prop where
  keeps : Keeps F w w'
  new : ∀ j, F' j → F j ∨ w.heap.size ≤ j
theorem Grows.refl (F : Nat → Prop) (w : World) : Grows F w F w := ⟨Keeps.refl F w, fun _ h => .inl h⟩
theorem Grows.of_below {w w' : World} (F : Nat → Prop) (h : Below w.heap.size w w') : Grows F w F w' := ⟨Keeps.of_below F h, fun _ h => .inl h⟩
theorem Grows.set {F : Nat → Prop} {b : Nat} (h : F b) (w : World) (k : Nat) (v : Value) : Grows F w F (w.setCell ⟨b, k, none⟩ v) := ⟨Keeps.set h w k v, fun _ h => .inl h⟩
theorem Grows.trans {F G H : Nat → Prop} {a b c : World} (h : Grows F a G b) (k : Grows G b H c) : Grows F a H c :=
  ⟨h.keeps.next k.keeps fun j hj g => (h.new j g).elim id fun e => absurd e (by omega), fun j hj => (k.new j hj).elim (h.new j) fun e => .inr (Nat.le_trans h.keeps.size e)⟩
/-- What another owns stays apart. -/
theorem Grows.apart {F G H : Nat → Prop} {a b : World} (h : Grows F a G b) (hH : ∀ j, H j → ¬ F j ∧ j < a.heap.size) : ∀ j, H j → ¬ G j := fun j hj g => (h.new j g).elim (hH j hj).1 fun e => by have := (hH j hj).2; omega

/-- A mark: where, which address, what it cost. -/
abbrev Mk := Int × Int × Int
def mkV (m : Mk) : List Value := [.int .i64 m.1, .int .i64 m.2.1, .int .i64 m.2.2]
def mkVs (l : List Mk) : List Value := l.flatMap mkV
theorem mkVs_len (l : List Mk) : (mkVs l).length = l.length * 3 := by
  induction l with
  | nil => rfl
  | cons m l ih => simp only [mkVs, List.flatMap_cons, List.length_append, List.length_cons] at *; rw [ih]; simp [mkV]; omega
theorem mkVs_app (l k : List Mk) : mkVs (l ++ k) = mkVs l ++ mkVs k := by simp [mkVs]
theorem mkVs_one (m : Mk) : mkVs [m] = mkV m := by simp [mkVs]
theorem mkVs_ones (l : List Mk) : ∀ u ∈ mkVs l, u.oneCell' = true := by
  intro u hu
  obtain ⟨m, _, hm⟩ := List.mem_flatMap.1 hu
  simp only [mkV, List.mem_cons, List.not_mem_nil, or_false] at hm
  rcases hm with rfl | rfl | rfl <;> rfl
/-- The mark i of a list. -/
def mkAt (l : List Mk) (i : Nat) : Mk := l.getD i (0, 0, 0)
theorem mkAt_eq {l : List Mk} {i : Nat} (h : i < l.length) : l[i] = mkAt l i := by simp [mkAt, List.getD, h]
theorem mkVs_at (l : List Mk) {i : Nat} (h : i < l.length) : (mkVs l)[i * 3]? = some (.int .i64 (mkAt l i).1) ∧ (mkVs l)[i * 3 + 1]? = some (.int .i64 (mkAt l i).2.1) ∧ (mkVs l)[i * 3 + 2]? = some (.int .i64 (mkAt l i).2.2) := by
  induction l generalizing i with
  | nil => exact absurd h (Nat.not_lt_zero _)
  | cons m l ih =>
    have e : mkVs (m :: l) = Value.int .i64 m.1 :: Value.int .i64 m.2.1 :: Value.int .i64 m.2.2 :: mkVs l := by simp [mkVs, mkV]
    cases i with
    | zero => rw [e]; exact ⟨rfl, rfl, rfl⟩
    | succ i =>
      obtain ⟨h0, h1, h2⟩ := ih (i := i) (by simpa using h)
      have q : mkAt (m :: l) (i + 1) = mkAt l i := by simp [mkAt, List.getD]
      rw [e, q, show (i + 1) * 3 = i * 3 + 1 + 1 + 1 by omega, show i * 3 + 1 + 1 + 1 + 1 = (i * 3 + 1) + 1 + 1 + 1 by omega, show i * 3 + 1 + 1 + 1 + 2 = (i * 3 + 2) + 1 + 1 + 1 by omega]
      simp only [List.getElem?_cons_succ]
      exact ⟨h0, h1, h2⟩

/-- Marks that are a call's own, in a block from base on. -/
def OwnMk (w : World) (base : Nat) (e : TypeId) (v : Value) (l : List Mk) : Prop := w.ownsRow base e 3 v l.length (mkVs l)
theorem OwnMk.nil (w : World) (base : Nat) (e : TypeId) : OwnMk w base e (.slice none 0 0) [] := World.ownsRow_nil w base e 3
theorem OwnMk.lt {w : World} {base : Nat} {e : TypeId} {v : Value} {l : List Mk} (h : OwnMk w base e v l) : ∀ k, v.ownBlock = some k → base ≤ k ∧ k < w.heap.size := World.ownsRow.lt h
theorem OwnMk.keep {w w' : World} {base : Nat} {e : TypeId} {v : Value} {l : List Mk} (h : OwnMk w base e v l) (k : Below w.heap.size w w') : OwnMk w' base e v l := own_keep h k
theorem OwnMk.kept {F : Nat → Prop} {w w' : World} {base : Nat} {e : TypeId} {v : Value} {l : List Mk} (h : OwnMk w base e v l) (k : Keeps F w w') (hn : ∀ j, v.ownBlock = some j → ¬ F j) : OwnMk w' base e v l := own_kept h k hn
theorem OwnMk.mono {w : World} {base base' : Nat} {e : TypeId} {v : Value} {l : List Mk} (h : OwnMk w base e v l) (hb : base' ≤ base) : OwnMk w base' e v l := by
  obtain ⟨h1, hcase⟩ := h
  refine ⟨h1, ?_⟩
  rcases hcase with h2 | ⟨g, cap, cur, hv, hg, r⟩
  · exact .inl h2
  · exact .inr ⟨g, cap, cur, hv, Nat.le_trans hb hg, r⟩
/-- Marks that can be read at the slice a, n, c. -/
structure MkAt (w : World) (a : Option Addr) (n c : Nat) (l : List Mk) : Prop where
  len : l.length = n
  cap : n ≤ c
  big : c ≤ maxLen
  nil : a = none → c = 0
  lie : 0 < n → ∃ b off, a = some ⟨b, off, none⟩ ∧ ∀ i, i < n → w.cell? ⟨b, off + i * 3, none⟩ = some (.int .i64 (mkAt l i).1) ∧ w.cell? ⟨b, off + i * 3 + 1, none⟩ = some (.int .i64 (mkAt l i).2.1) ∧ w.cell? ⟨b, off + i * 3 + 2, none⟩ = some (.int .i64 (mkAt l i).2.2)
theorem MkAt.keep {w w' : World} {a : Option Addr} {n c : Nat} {l : List Mk} (h : MkAt w a n c l) (k : Below w.heap.size w w') : MkAt w' a n c l := by
  refine ⟨h.len, h.cap, h.big, h.nil, fun hn => ?_⟩
  obtain ⟨b, off, e, hc⟩ := h.lie hn
  refine ⟨b, off, e, fun i hi => ?_⟩
  obtain ⟨c0, c1, c2⟩ := hc i hi
  exact ⟨(k.cell (p := ⟨b, _, none⟩) (cell_lt c0)).trans c0, (k.cell (p := ⟨b, _, none⟩) (cell_lt c1)).trans c1, (k.cell (p := ⟨b, _, none⟩) (cell_lt c2)).trans c2⟩
theorem MkAt.emp (w : World) : MkAt w none 0 0 [] := ⟨rfl, Nat.le_refl _, by unfold maxLen; omega, fun _ => rfl, fun h => absurd h (Nat.lt_irrefl _)⟩
theorem MkAt.none_eq {w : World} {n c : Nat} {l : List Mk} (h : MkAt w none n c l) : n = 0 ∧ c = 0 ∧ l = [] := by
  have h1 := h.nil rfl
  have h2 := h.cap
  have h3 := h.len
  obtain rfl : n = 0 := by omega
  exact ⟨rfl, h1, List.eq_nil_of_length_eq_zero h3⟩
theorem OwnMk.at {w : World} {base : Nat} {e : TypeId} {v : Value} {l : List Mk} (h : OwnMk w base e v l) : ∃ a c, v = .slice a l.length c ∧ MkAt w a l.length c l := by
  have h0 := h
  obtain ⟨_, hcase⟩ := h
  rcases hcase with ⟨rfl, h9⟩ | ⟨g, cap, cur, rfl, hg, hh, hn, hcap, hsz, htake⟩
  · obtain rfl : l = [] := List.eq_nil_of_length_eq_zero h9
    exact ⟨none, 0, rfl, MkAt.emp w⟩
  · refine ⟨_, _, rfl, rfl, hn, hcap, fun h => (nomatch h), fun _ => ⟨g, 0, rfl, fun i hi => ?_⟩⟩
    obtain ⟨e0, e1, e2⟩ := mkVs_at l hi
    refine ⟨?_, ?_, ?_⟩
    · rw [Nat.zero_add, World.ownsRow.cellAt h0 (i * 3) (by omega)]; exact e0
    · rw [Nat.zero_add, World.ownsRow.cellAt h0 (i * 3 + 1) (by omega)]; exact e1
    · rw [Nat.zero_add, World.ownsRow.cellAt h0 (i * 3 + 2) (by omega)]; exact e2
/-- A literal of no marks. -/
theorem OwnMk.lit0 (w : World) (e : TypeId) {base : Nat} (hb : base ≤ w.heap.size) : OwnMk (w.alloc (.cells #[] e)) base e (.slice (some ⟨w.heap.size, 0, none⟩) 0 0) [] :=
  World.ownsRow_lit (base := base) (e := e) (size := 3) w #[] 0 hb (by unfold maxLen; omega) (by simp)
/-- 'append(v, m)', v a call's own, at a step of a region that draws its order. -/
theorem step_append_mk {P : Program} (w : World) {ops : Array Oper} {o : Oper} {a : Act} {K : Act → World → Prop} {Q : Exit → Act → World → Prop} {E : Prop} (hgd : o.guard = none) (s x : Operand) (t : TypeId)
    (ho : o.op = .call { callee := .builtin .append, args := #[s, x], argTypes := #[t, t] }) (base : Nat) (e : TypeId) (i : TypeInfo) (z : Value) (ht : P.underlying t = some (.slice e)) (hi : P.info? e = some i) (hz : i.zero = some z)
    (hsize : i.size = 3) (hby : i.bytes = 24) (hzs : z.cells.size = 3) (v : Value) (l : List Mk) (m : Mk) (b : Nat) (hs : a.eval s = v) (hx : a.eval x = .slice (some ⟨b, 0, none⟩) 1 1)
    (hown : OwnMk w base e v l) (hu : ∃ T, w.heap[b]? = some (.cells #[.int .i64 m.1, .int .i64 m.2.1, .int .i64 m.2.2] T (0, 0))) (hm : l.length < 1048576) (hbase : base ≤ w.heap.size)
    (h : ∀ g cap w', OwnMk w' base e (.slice (some ⟨g, 0, none⟩) (l.length + 1) cap) (l ++ [m]) → w.grownBy w' v.ownBlock → (v.ownBlock = some g ∨ g = w.heap.size) → K (a.put o.dst (.slice (some ⟨g, 0, none⟩) (l.length + 1) cap)) w') :
    if Region.wanted o (yielded ops a.tmps) = true then Oper.wp P o a w K Q else E := by
  obtain ⟨T, hu⟩ := hu
  refine step_append_lies _ hgd s x t ho base e i z 3 24 ht hi hz hsize hby hzs (by decide) v l.length (mkVs l) hs hown ⟨b, 0, none⟩ 1 1 (mkV m) hx rfl (World.news_of_block hu) ?_ (by decide) (by unfold maxLen; omega) (by omega) hbase _ rfl (fun g cap w' h1 h2 h3 _ => h g cap w' ?_ h2 h3)
  · intro u' hu'
    simp only [mkV, List.mem_cons, List.not_mem_nil, or_false] at hu'
    rcases hu' with rfl | rfl | rfl <;> rfl
  · unfold OwnMk
    rw [List.length_append, List.length_singleton, mkVs_app, mkVs_one]
    exact h1
/-- 'append(v, s...)', v a call's own. -/
theorem run_append_mks {P : Program} {w : World} (base : Nat) (t ty e : TypeId) (i : TypeInfo) (z : Value) (ht : P.underlying t = some (.slice e)) (hi : P.info? e = some i) (hz : i.zero = some z)
    (hsize : i.size = 3) (hby : i.bytes = 24) (hzs : z.cells.size = 3) {v : Value} {l : List Mk} (hown : OwnMk w base e v l) {p : Option Addr} {m c : Nat} {k : List Mk} (hk : MkAt w p m c k)
    (hlen : l.length + m ≤ 1048576) (hbase : base ≤ w.heap.size) :
    ∃ v' w', (Builtin.append_ #[t, t] ty #[v, .slice p m c]).run P w = .ok v' w' ∧ OwnMk w' base e v' (l ++ k) ∧ w.grownBy w' v.ownBlock := by
  cases p with
  | none =>
    obtain ⟨rfl, rfl, rfl⟩ := hk.none_eq
    exact ⟨v, w, run_append_owned_none w base t ty e i 3 ht hi v l.length (mkVs l) hown, by rw [List.append_nil]; exact hown, ⟨rfl, rfl, rfl, Nat.le_refl _, fun _ _ _ => rfl⟩⟩
  | some ad =>
    obtain ⟨v', w', hr, h2, h3, -⟩ := run_append_own (P := P) w base t ty e i z 3 24 ht hi hz hsize hby hzs (by decide) v l.length (mkVs l) hown ad m c (mkVs k) (by rw [mkVs_len, hk.len])
      (fun j u hj => by
        have hjk : j < k.length * 3 := by
          have := (List.getElem?_eq_some_iff.1 hj).1
          rwa [mkVs_len] at this
        have hkl := hk.len
        obtain ⟨b, off, e', hc⟩ := hk.lie (by omega)
        obtain rfl : ad = ⟨b, off, none⟩ := by simpa using e'
        obtain ⟨c0, c1, c2⟩ := hc (j / 3) (by omega)
        obtain ⟨e0, e1, e2⟩ := mkVs_at k (i := j / 3) (by omega)
        rw [by_add]
        rcases (show j = j / 3 * 3 ∨ j = j / 3 * 3 + 1 ∨ j = j / 3 * 3 + 2 by omega) with q | q | q
        · rw [q] at hj; rw [e0] at hj; rw [q, ← hj]; exact c0
        · rw [q] at hj; rw [e1] at hj; rw [q, ← hj, ← Nat.add_assoc]; exact c1
        · rw [q] at hj; rw [e2] at hj; rw [q, ← hj, ← Nat.add_assoc]; exact c2)
      (mkVs_ones k) (by unfold maxLen; omega) (by omega) hbase
    refine ⟨v', w', hr, ?_, h3⟩
    unfold OwnMk
    rw [List.length_append, hk.len, mkVs_app]
    exact h2
theorem wpList_append_mks {P : Program} {w w0 : World} {ops : Array Oper} {rest : List Oper} {o : Oper} {a : Act} {Q : Exit → Act → World → Prop} (hgd : Region.wanted o (yielded ops a.tmps) = true) (s x : Operand) (t : TypeId)
    (ho : o.op = .call { callee := .builtin .append, args := #[s, x], argTypes := #[t, t] })
    (base : Nat) (e : TypeId) (i : TypeInfo) (z : Value) (ht : P.underlying t = some (.slice e)) (hi : P.info? e = some i) (hz : i.zero = some z)
    (hsize : i.size = 3) (hby : i.bytes = 24) (hzs : z.cells.size = 3) {v : Value} {l : List Mk} (hs : a.eval s = v) (hown : OwnMk w base e v l) {p : Option Addr} {m c : Nat} {k : List Mk} (hx : a.eval x = .slice p m c) (hk : MkAt w p m c k)
    (hlen : l.length + m ≤ 1048576) (hbase : base ≤ w.heap.size) (hb : Below base w0 w)
    (h : ∀ v' w', OwnMk w' base e v' (l ++ k) → Below base w0 w' → base ≤ w'.heap.size → wpList P ops Q rest (a.put o.dst v') w') : wpList P ops Q (o :: rest) a w := by
  refine wpList_step fun K hK => ?_
  rw [if_pos hgd]
  obtain ⟨v', w', hr, h2, h3⟩ := run_append_mks (P := P) (w := w) base t o.type e i z ht hi hz hsize hby hzs hown hk hlen hbase
  unfold Oper.wp execOp
  simp only [ho, resolve, invoke, builtin, Sem.run_bind, Sem.run_pure, Result.andThen_ok, List.map_toArray, List.map_cons, List.map_nil, hs, hx, hr]
  exact hK _ _ (h v' w' h2 (hb.grown h3 hbase (fun q hq => (hown.lt q hq).1)) (Nat.le_trans hbase h3.size))
end Go.Proofs.Ythmojdmdhabogaa
