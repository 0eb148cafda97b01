/- Words (numbers of 32 bits) in memory: what keeps them, a list of a call's own, append; a memory of words. Nothing of any program. -/
import Derived.Test.YthmojdmdhabogaaBys
import Derived.Test.YthmojdmdhabogaaLinM
import Derived.Laws.CopyOwn
namespace Go.Proofs.Ythmojdmdhabogaa
open Go.RowKit Go.OpenShut Go.ChangeShapes

/-- The words l stand at the slice a, n, c. -/
structure Ws (κ : IntKind) (w : World) (a : Option Addr) (n c : Nat) (l : List Int) : Prop where
  len : l.length = n
  cap : n ≤ c
  big : c ≤ maxLen
  nil : a = none → c = 0
  lie : 0 < n → ∃ b off, a = some ⟨b, off, none⟩ ∧ ∀ i, i < n → w.cell? ⟨b, off + i, none⟩ = some (.int κ (byAt l i))
theorem Ws.of_row {κ : IntKind} {w : World} {a : Option Addr} {n c : Nat} {zs : List Int} (h : IsRow κ w a n c zs) : Ws κ w a n c (zs.take n) := by
  rcases h with ⟨rfl, rfl, rfl, rfl⟩ | ⟨x, rfl, hl, hm, hz, hcell, hwz⟩
  · exact ⟨rfl, Nat.le_refl _, by unfold maxLen; omega, fun _ => rfl, fun h => absurd h (Nat.lt_irrefl _)⟩
  · refine ⟨by simp; omega, hl, hm, fun h => (nomatch h), fun hn => ?_⟩
    obtain ⟨b, off, s⟩ := x
    obtain rfl : s = none := by simpa [Addr.add] using World.cell?_spot (hcell 0 (by omega))
    exact ⟨b, off, rfl, fun i hi => by rw [← by_add, hcell i (by omega), byAt_take hi]; rfl⟩
/-- Kept by whatever leaves its own block alone. -/
theorem Ws.on {κ : IntKind} {w w' : World} {a : Option Addr} {n c : Nat} {l : List Int} (h : Ws κ w a n c l) (hb : 0 < n → ∀ b off, a = some ⟨b, off, none⟩ → b < w.heap.size → w'.heap[b]? = w.heap[b]?) : Ws κ w' a n c l := by
  refine ⟨h.len, h.cap, h.big, h.nil, fun hn => ?_⟩
  obtain ⟨b, off, e, hc⟩ := h.lie hn
  exact ⟨b, off, e, fun i hi => by
    have hk := hb hn b off e (cell_lt (hc i hi))
    rw [← hc i hi]
    unfold World.cell?
    rw [hk]⟩
theorem Ws.keep {κ : IntKind} {w w' : World} {a : Option Addr} {n c : Nat} {l : List Int} (h : Ws κ w a n c l) (hb : Below w.heap.size w w') : Ws κ w' a n c l := h.on fun _ b _ _ hl => hb.block b hl
theorem Ws.none_eq {κ : IntKind} {w : World} {n c : Nat} {l : List Int} (h : Ws κ w none n c l) : n = 0 ∧ c = 0 ∧ l = [] := by
  have h1 := h.nil rfl
  have h2 := h.cap
  have h3 := h.len
  obtain rfl : n = 0 := by omega
  exact ⟨rfl, h1, List.eq_nil_of_length_eq_zero h3⟩
theorem Ws.emp {κ : IntKind} (w : World) : Ws κ w none 0 0 [] := ⟨rfl, Nat.le_refl _, by unfold maxLen; omega, fun _ => rfl, fun h => absurd h (Nat.lt_irrefl _)⟩
/-- Each cell that it holds, by its address. -/
theorem Ws.cells {κ : IntKind} {w : World} {ad : Addr} {n c : Nat} {l : List Int} (h : Ws κ w (some ad) n c l) {j : Nat} {u : Value} (hj : (l.map (Value.int κ))[j]? = some u) : w.cell? (ad.add j) = some u := by
  have hjk : j < l.length := by
    have := (List.getElem?_eq_some_iff.1 hj).1
    simpa using this
  obtain ⟨b, off, e', hc⟩ := h.lie (by have := h.len; omega)
  obtain rfl : ad = ⟨b, off, none⟩ := by simpa using e'
  rw [by_add, hc j (by have := h.len; omega)]
  rw [List.getElem?_map, List.getElem?_eq_getElem hjk, byAt_eq hjk] at hj
  exact hj

/-- The words l are a call's own, in a block from base on. -/
def OwnW (κ : IntKind) (w : World) (base : Nat) (e : TypeId) (v : Value) (l : List Int) : Prop := w.ownsRow base e 1 v l.length (l.map (Value.int κ))
theorem OwnW.ws {κ : IntKind} {w : World} {base : Nat} {e : TypeId} {v : Value} {l : List Int} (h : OwnW κ w base e v l) : ∃ a c, v = .slice a l.length c ∧ Ws κ w a l.length c l := by
  have h0 := h
  obtain ⟨_, hcase⟩ := h
  rcases hcase with ⟨rfl, h9⟩ | ⟨g, cap, cur, rfl, hg, hh, hn, hcap, hsz, htake⟩
  · obtain rfl : l = [] := List.eq_nil_of_length_eq_zero h9
    exact ⟨none, 0, rfl, Ws.emp w⟩
  · refine ⟨_, _, rfl, rfl, hn, hcap, fun h => (nomatch h), fun _ => ⟨g, 0, rfl, fun i hi => ?_⟩⟩
    have hc := World.ownsRow.cellAt h0 i (by omega)
    rw [Nat.zero_add, hc, List.getElem?_map, List.getElem?_eq_getElem hi, byAt_eq hi]
    rfl
theorem OwnW.below {κ : IntKind} {w w' : World} {base B : Nat} {e : TypeId} {v : Value} {l : List Int} (h : OwnW κ w base e v l) (hb : Below B w w') (hB : w.heap.size ≤ B) : OwnW κ w' base e v l := by
  obtain ⟨h1, hcase⟩ := h
  refine ⟨h1, ?_⟩
  rcases hcase with h2 | ⟨g, cap, cur, hv, hg, hh, r⟩
  · exact .inl h2
  · exact .inr ⟨g, cap, cur, hv, hg, by rw [hb.block g (Nat.lt_of_lt_of_le (Array.getElem?_eq_some_iff.1 hh).1 hB)]; exact hh, r⟩
theorem OwnW.mono {κ : IntKind} {w : World} {base base' : Nat} {e : TypeId} {v : Value} {l : List Int} (h : OwnW κ w base e v l) (hb : base' ≤ base) : OwnW κ w base' e v l := by
  obtain ⟨h1, hcase⟩ := h
  refine ⟨h1, ?_⟩
  rcases hcase with h2 | ⟨g, cap, cur, hv, hg, r⟩
  · exact .inl h2
  · exact .inr ⟨g, cap, cur, hv, Nat.le_trans hb hg, r⟩
theorem OwnW.lt {κ : IntKind} {w : World} {base : Nat} {e : TypeId} {v : Value} {l : List Int} (h : OwnW κ w base e v l) : ∀ k, v.ownBlock = some k → base ≤ k ∧ k < w.heap.size := World.ownsRow.lt h
theorem OwnW.form {κ : IntKind} {w : World} {base : Nat} {e : TypeId} {v : Value} {l : List Int} {n : Nat} (h : OwnW κ w base e v l) (hl : l.length = n) (hn : 0 < n) : ∃ g cap, v = .slice (some ⟨g, 0, none⟩) n cap ∧ base ≤ g ∧ g < w.heap.size ∧ n ≤ cap ∧ cap ≤ maxLen := by
  subst hl
  obtain ⟨_, hcase⟩ := h
  rcases hcase with ⟨_, h0⟩ | ⟨g, cap, cur, hv, hb, hg, h1, h2, _⟩
  · omega
  · exact ⟨g, cap, hv, hb, (Array.getElem?_eq_some_iff.1 hg).1, h1, h2⟩
theorem OwnW.cell {κ : IntKind} {w : World} {base g cap n : Nat} {e : TypeId} {l : List Int} (h : OwnW κ w base e (.slice (some ⟨g, 0, none⟩) n cap) l) (hl : l.length = n) {j : Nat} (hj : j < n) : w.cell? ⟨g, j, none⟩ = some (.int κ (byAt l j)) := by
  subst hl
  rw [World.ownsRow.cellAt h j (by omega), List.getElem?_map, List.getElem?_eq_getElem hj, byAt_eq hj]
  rfl
theorem OwnW.free {κ : IntKind} {w : World} {base g cap n : Nat} {e : TypeId} {l : List Int} (h : OwnW κ w base e (.slice (some ⟨g, 0, none⟩) n cap) l) (hl : l.length = n) (j : Nat) : w.frozen? ⟨g, j, none⟩ = false := by
  subst hl
  exact World.ownsRow.frozenAt h j
theorem OwnW.set {κ : IntKind} {w : World} {base g cap n : Nat} {e : TypeId} {l : List Int} (h : OwnW κ w base e (.slice (some ⟨g, 0, none⟩) n cap) l) (hl : l.length = n) (j : Nat) (u : Int) :
    OwnW κ (w.setCell ⟨g, j, none⟩ (.int κ u)) base e (.slice (some ⟨g, 0, none⟩) n cap) (l.set j u) := by
  subst hl
  have := (World.ownsRow.stored h j (.int κ u)).1
  unfold OwnW
  rw [List.length_set, List.map_set]
  exact this
theorem OwnW.nil {κ : IntKind} (w : World) (base : Nat) (e : TypeId) : OwnW κ w base e (.slice none 0 0) [] := World.ownsRow_nil w base e 1
/-- A literal's block. -/
theorem OwnW.lit {κ : IntKind} (w : World) (e : TypeId) {base : Nat} (hb : base ≤ w.heap.size) (l : List Int) (hm : l.length ≤ maxLen) (cs : Array Value) (hcs : cs.toList = l.map (Value.int κ)) : OwnW κ (w.alloc (.cells cs e)) base e (.slice (some ⟨w.heap.size, 0, none⟩) l.length l.length) l := by
  have hs : cs.size = l.length := by rw [← Array.length_toList, hcs]; simp
  have := World.ownsRow_lit (base := base) (e := e) (size := 1) w cs l.length hb hm (by omega)
  rw [hcs] at this
  exact this
/-- 'append(v, s...)', v a call's own. -/
theorem run_append_ws {κ : IntKind} {P : Program} {w : World} (base : Nat) (t ty e : TypeId) (i : TypeInfo) (z : Value) (ht : P.underlying t = some (.slice e)) (hi : P.info? e = some i) (hz : i.zero = some z)
    (hsize : i.size = 1) (hby : i.bytes = 4) (hzs : z.cells.size = 1) {v : Value} {l : List Int} (hown : OwnW κ w base e v l) {p : Option Addr} {m c : Nat} {k : List Int} (hk : Ws κ w p m c k)
    (hlen : (l.length + m) * 4 ≤ 140737488355328) (hbase : base ≤ w.heap.size) :
    ∃ v' w', (Builtin.append_ #[t, t] ty #[v, .slice p m c]).run P w = .ok v' w' ∧ OwnW κ w' base e v' (l ++ k) ∧ w.grownBy w' v.ownBlock := by
  cases p with
  | none =>
    obtain ⟨rfl, rfl, rfl⟩ := hk.none_eq
    exact ⟨v, w, run_append_owned_none w base t ty e i 1 ht hi v l.length (l.map (Value.int κ)) hown, by rw [List.append_nil]; exact hown, ⟨rfl, rfl, rfl, Nat.le_refl _, fun _ _ _ => rfl⟩⟩
  | some ad =>
    obtain ⟨v', w', hr, h2, h3, -⟩ := run_append_own (P := P) w base t ty e i z 1 4 ht hi hz hsize hby hzs (by decide) v l.length (l.map (Value.int κ)) hown ad m c (k.map (Value.int κ)) (by simp [hk.len])
      (fun j u hj => by
        have hjk : j < k.length := by
          have := (List.getElem?_eq_some_iff.1 hj).1
          simpa using this
        obtain ⟨b, off, e', hc⟩ := hk.lie (by have := hk.len; omega)
        obtain rfl : ad = ⟨b, off, none⟩ := by simpa using e'
        rw [by_add, hc j (by have := hk.len; omega)]
        rw [List.getElem?_map, List.getElem?_eq_getElem hjk, byAt_eq hjk] at hj
        exact hj)
      (fun u hu => by obtain ⟨x, _, rfl⟩ := List.mem_map.1 hu; rfl) (by unfold maxLen; omega) (by omega) hbase
    refine ⟨v', w', hr, ?_, h3⟩
    unfold OwnW
    rw [List.length_append, hk.len, List.map_append]
    exact h2
/-- A law of the walk: 'append(v, s...)' of words; what is told of the world behind it is that below base it is as it was. -/
theorem wp_append_ws {κ : IntKind} {P : Program} {w w0 : World} {o : Oper} {a : Act} {K : Act → World → Prop} {Q : Exit → Act → World → Prop} (s x : Operand) (t : TypeId)
    (ho : o.op = .call { callee := .builtin .append, args := #[s, x], argTypes := #[t, t] })
    (base : Nat) (e : TypeId) (i : TypeInfo) (z : Value) (ht : P.underlying t = some (.slice e)) (hi : P.info? e = some i) (hz : i.zero = some z)
    (hsize : i.size = 1) (hby : i.bytes = 4) (hzs : z.cells.size = 1) {v : Value} {l : List Int} (hs : a.eval s = v) (hown : OwnW κ w base e v l) {p : Option Addr} {m c : Nat} {k : List Int} (hx : a.eval x = .slice p m c) (hk : Ws κ w p m c k)
    (hlen : (l.length + m) * 4 ≤ 140737488355328) (hbase : base ≤ w.heap.size) (hb : Below base w0 w)
    (h : ∀ v' w', OwnW κ w' base e v' (l ++ k) → Below base w0 w' → base ≤ w'.heap.size → K (a.put o.dst v') w') : o.wp P a w K Q := by
  obtain ⟨v', w', hr, h2, h3⟩ := run_append_ws (P := P) (w := w) base t o.type e i z ht hi hz hsize hby hzs hown hk hlen hbase
  unfold Oper.wp execOp
  simp only [ho, resolve, invoke, builtin, Sem.run_bind, Sem.run_pure, Result.andThen_ok, List.map_toArray, List.map_cons, List.map_nil, hs, hx, hr]
  exact h v' w' h2 (hb.grown h3 hbase (fun q hq => (hown.lt q hq).1)) (Nat.le_trans hbase h3.size)
theorem wpList_append_ws {κ : IntKind} {P : Program} {w w0 : World} {ops : Array Oper} {rest : List Oper} {o : Oper} {a : Act} {Q : Exit → Act → World → Prop} (hgd : Region.wanted o (yielded ops a.tmps) = true) (s x : Operand) (t : TypeId)
    (ho : o.op = .call { callee := .builtin .append, args := #[s, x], argTypes := #[t, t] })
    (base : Nat) (e : TypeId) (i : TypeInfo) (z : Value) (ht : P.underlying t = some (.slice e)) (hi : P.info? e = some i) (hz : i.zero = some z)
    (hsize : i.size = 1) (hby : i.bytes = 4) (hzs : z.cells.size = 1) {v : Value} {l : List Int} (hs : a.eval s = v) (hown : OwnW κ w base e v l) {p : Option Addr} {m c : Nat} {k : List Int} (hx : a.eval x = .slice p m c) (hk : Ws κ w p m c k)
    (hlen : (l.length + m) * 4 ≤ 140737488355328) (hbase : base ≤ w.heap.size) (hb : Below base w0 w)
    (h : ∀ v' w', OwnW κ w' base e v' (l ++ k) → Below base w0 w' → base ≤ w'.heap.size → wpList P ops Q rest (a.put o.dst v') w') : wpList P ops Q (o :: rest) a w := by
  refine wpList_step fun K hK => ?_
  rw [if_pos hgd]
  exact wp_append_ws s x t ho base e i z ht hi hz hsize hby hzs hs hown hx hk hlen hbase hb fun v' w' h1 h2 h3 => hK _ _ (h v' w' h1 h2 h3)
/-- The same within a region that draws its order. -/
theorem step_append_ws {κ : IntKind} {P : Program} {w w0 : World} {ops : Array Oper} {o : Oper} {a : Act} {K : Act → World → Prop} {Q : Exit → Act → World → Prop} {E : Prop} (hgd : Region.wanted o (yielded ops a.tmps) = true) (s x : Operand) (t : TypeId)
    (ho : o.op = .call { callee := .builtin .append, args := #[s, x], argTypes := #[t, t] })
    (base : Nat) (e : TypeId) (i : TypeInfo) (z : Value) (ht : P.underlying t = some (.slice e)) (hi : P.info? e = some i) (hz : i.zero = some z)
    (hsize : i.size = 1) (hby : i.bytes = 4) (hzs : z.cells.size = 1) {v : Value} {l : List Int} (hs : a.eval s = v) (hown : OwnW κ w base e v l) {p : Option Addr} {m c : Nat} {k : List Int} (hx : a.eval x = .slice p m c) (hk : Ws κ w p m c k)
    (hlen : (l.length + m) * 4 ≤ 140737488355328) (hbase : base ≤ w.heap.size) (hb : Below base w0 w)
    (h : ∀ v' w', OwnW κ w' base e v' (l ++ k) → Below base w0 w' → base ≤ w'.heap.size → K (a.put o.dst v') w') :
    if Region.wanted o (yielded ops a.tmps) = true then Oper.wp P o a w K Q else E := by
  rw [if_pos hgd]
  exact wp_append_ws s x t ho base e i z ht hi hz hsize hby hzs hs hown hx hk hlen hbase hb h

/-- What a place of a memory reads, and whether there is one; the memory behind a word put there. -/
def ldB (L : List Int) (x : Int) : Bool := decide (0 ≤ x ∧ x < L.length)
def ldV (L : List Int) (x : Int) : Int := if 0 ≤ x ∧ x < L.length then byAt L x.toNat else 0
def stL (L : List Int) (x u : Int) : List Int := if 0 ≤ x ∧ x < L.length then L.set x.toNat u else L
theorem ld_in {L : List Int} {k : Nat} (h : k < L.length) : ldB L (k : Int) = true ∧ ldV L (k : Int) = byAt L k ∧ ∀ u, stL L (k : Int) u = L.set k u := by
  have hk : 0 ≤ (k : Int) ∧ (k : Int) < L.length := by omega
  exact ⟨decide_eq_true hk, by unfold ldV; rw [if_pos hk]; rfl, fun u => by unfold stL; rw [if_pos hk]; rfl⟩
theorem ld_out {L : List Int} {x : Int} (h : ¬ (0 ≤ x ∧ x < L.length)) : ldB L x = false ∧ ldV L x = 0 ∧ ∀ u, stL L x u = L :=
  ⟨decide_eq_false h, by unfold ldV; rw [if_neg h], fun u => by unfold stL; rw [if_neg h]⟩
theorem stL_len (L : List Int) (x u : Int) : (stL L x u).length = L.length := by
  unfold stL; split
  · exact List.length_set
  · rfl

/-- A memory of words: block b holds the slice v, whose words are L, and its own place; all of it is from base on. -/
structure RamAt (T e : TypeId) (w : World) (base b : Nat) (v : Value) (L : List Int) : Prop where
  blk : BlkAt b T #[v, .pointer (some ⟨b, 0, none⟩)] w
  own : OwnW .i32 w base e v L
  ge : base ≤ b
  ne : v.ownBlock ≠ some b
theorem RamAt.keep {T e : TypeId} {w w' : World} {base b : Nat} {v : Value} {L : List Int} (h : RamAt T e w base b v L) (k : Below w.heap.size w w') : RamAt T e w' base b v L :=
  ⟨h.blk.keep k, own_keep h.own k, h.ge, h.ne⟩
theorem RamAt.mono {T e : TypeId} {w : World} {base base' b : Nat} {v : Value} {L : List Int} (h : RamAt T e w base b v L) (k : base' ≤ base) : RamAt T e w base' b v L :=
  ⟨h.blk, h.own.mono k, Nat.le_trans k h.ge, h.ne⟩
end Go.Proofs.Ythmojdmdhabogaa
