/- A region that draws its order, in which calls come one behind the other, and blocks may be made at any time among them: walked once. Nothing of any program. -/
import Derived.Test.YtdphiobmjdiefaaSeq
import Derived.Below
namespace Go.Proofs.Ytdphiobmjdiefaa
open Go.RowKit
section
variable {P : Program} {ops : Array Oper} {Q : Exit → Act → World → Prop} {S : World → Prop}

/-- A block that may be made at any time: its operation's place, where its pointer goes, its type, what it holds. -/
structure Loose where
  i : Nat
  d : Tmp
  T : TypeId
  Z : Obj
def looseMask (ls : List Loose) : Nat := maskOf (ls.map (·.i))
/-- An operation has nothing to do with the loose ones. -/
def looseApart (ls : List Loose) (x : Nat × Nat × Nat × Nat) : Bool := ls.all fun z => !x.2.2.2.testBit z.d && x.2.2.1 != z.d + 1
/-- The order of the calls holds, whichever of the loose ones have come up. -/
def chainOk (infos : List (Nat × Nat × Nat × Nat)) (ls : List Loose) : List (Bool × Nat × Nat) → Nat → Bool
  | [], L => infos.all fun y => L.testBit y.1 || (ls.map (·.i)).contains y.1 || (looseMask ls &&& y.2.1 == looseMask ls)
  | (true, i, L') :: rest, L => (L' == L ||| 2 ^ i) && !(ls.map (·.i)).contains i && infos.any (fun x => x.1 == i && readyB L x && looseApart ls x && infos.all fun y => y.1 == i || L.testBit y.1 || y.2.1.testBit i || apartB x y) && chainOk infos ls rest L'
  | (false, i, L') :: rest, L => (L' == L ||| 2 ^ i) && !(ls.map (·.i)).contains i && infos.any (fun x => x.1 == i && readyB L x && looseApart ls x) && infos.all (fun y => y.1 == i || (ls.map (·.i)).contains y.1 || !readyB (L ||| looseMask ls) y || L.testBit y.1) && chainOk infos ls rest L'
def lastMask : List (Bool × Nat × Nat) → Nat → Nat
  | [], L => L
  | (_, _, L') :: rest, _ => lastMask rest L'
/-- The frames are alike but for the loose ones' pointers. -/
structure Alike (ls : List Loose) (c a : Act) : Prop where
  size : a.tmps.size = c.tmps.size
  defers : a.defers = c.defers
  tmps : ∀ t, (∀ x ∈ ls, x.d ≠ t) → a.tmps[t]? = c.tmps[t]?
/-- A block stands as it was made. -/
def Stands (S : World → Prop) (g : Nat) (Z : Obj) (w : World) : Prop := ∃ wk : World, g = wk.heap.size ∧ S wk ∧ Below (wk.alloc Z).heap.size (wk.alloc Z) w
/-- What is known of the loose ones that have come up. -/
structure Made (S : World → Prop) (ls todo : List Loose) (g : Nat → Nat) (a : Act) (w : World) : Prop where
  ptr : ∀ x ∈ ls, x ∉ todo → a.tmps[x.d]? = some (.pointer (some ⟨g x.i, 0, none⟩))
  lt : ∀ x ∈ ls, x ∉ todo → g x.i < w.heap.size
  stands : ∀ x ∈ ls, x ∉ todo → Stands S (g x.i) x.Z w
  ne : ∀ x ∈ ls, ∀ y ∈ ls, x ∉ todo → y ∉ todo → x.i ≠ y.i → g x.i ≠ g y.i
/-- The calls, one behind the other, from any world that meets S. -/
def ChainU (P : Program) (ops : Array Oper) (S : World → Prop) (K : Act → Prop) : List (Bool × Nat × Nat) → Act → Prop
  | [], a => K a
  | (true, i, _) :: rest, a => ∃ o v, ops[i]? = some o ∧ o.guard = none ∧ (∀ w, S w → (execOp a.eval o).run P w = .ok (.value v) w) ∧ ChainU P ops S K rest (a.put o.dst v)
  | (false, i, _) :: rest, a => ∃ o f vs v, ops[i]? = some o ∧ o.guard = none ∧ (∀ w, (execOp a.eval o).run P w = .ok (.enter f vs) w)
      ∧ (∀ w, S w → Calls P f vs w fun e w' => e = .returned v ∧ S w' ∧ Below w.heap.size w w') ∧ ChainU P ops S K rest (a.put o.dst v)

theorem Alike.put {ls : List Loose} {c a : Act} (h : Alike ls c a) (d : Option Tmp) (v : Value) : Alike ls (c.put d v) (a.put d v) := by
  cases d with
  | none => exact h
  | some d =>
    refine ⟨by simp [Act.put, h.size], h.defers, fun t ht => ?_⟩
    show (a.tmps.setIfInBounds d v)[t]? = (c.tmps.setIfInBounds d v)[t]?
    rw [Array.getElem?_setIfInBounds, Array.getElem?_setIfInBounds, h.size, h.tmps t ht]
theorem Alike.loose {ls : List Loose} {c a : Act} (h : Alike ls c a) {x : Loose} (hx : x ∈ ls) (v : Value) : Alike ls c (a.put (some x.d) v) := by
  refine ⟨by simp [Act.put, h.size], h.defers, fun t ht => ?_⟩
  show (a.tmps.setIfInBounds x.d v)[t]? = c.tmps[t]?
  rw [Array.getElem?_setIfInBounds_ne (ht x hx), h.tmps t ht]
theorem Alike.exec {ls : List Loose} {c a : Act} (h : Alike ls c a) {o : Oper} (hs : ∀ cs b, o.op ≠ .select cs b) (ho : ∀ x ∈ ls, x.d ∉ o.looksAt ops ∧ o.dst ≠ some x.d) : execOp a.eval o = execOp c.eval o :=
  execOp_congr o hs fun y hy => by
    cases y with
    | tmp t =>
      have : a.tmps[t]? = c.tmps[t]? := h.tmps t fun x hx he => (ho x hx).1 (by
        subst he
        exact List.mem_append_left _ (List.mem_filterMap.2 ⟨.tmp x.d, by simpa using hy, rfl⟩))
      simp [Act.eval, this]
    | _ => rfl
theorem Stands.keep {g : Nat} {Z : Obj} {w w' : World} (h : Stands S g Z w) (hb : Below w.heap.size w w') : Stands S g Z w' := by
  obtain ⟨wk, h1, h2, h3⟩ := h
  exact ⟨wk, h1, h2, h3.trans (hb.mono h3.size)⟩
theorem Made.keep {ls todo : List Loose} {g : Nat → Nat} {a a' : Act} {w w' : World} (h : Made S ls todo g a w) (hb : Below w.heap.size w w') (ha : ∀ x ∈ ls, a'.tmps[x.d]? = a.tmps[x.d]?) : Made S ls todo g a' w' :=
  ⟨fun x hx hn => (ha x hx).trans (h.ptr x hx hn), fun x hx hn => Nat.lt_of_lt_of_le (h.lt x hx hn) hb.size, fun x hx hn => (h.stands x hx hn).keep hb, h.ne⟩

theorem mem_loose {ls : List Loose} {k : Nat} : (ls.map (·.i)).contains k = true ↔ ∃ x ∈ ls, x.i = k := by simp
theorem looseMask_bit (ls : List Loose) (k : Nat) : (looseMask ls).testBit k = true ↔ ∃ x ∈ ls, x.i = k := by
  unfold looseMask; rw [maskOf_bit]; simp
theorem loose_apart {ls : List Loose} {o : Oper} {j : Nat} (h : looseApart ls (infoOf ops (o, j)) = true) : ∀ x ∈ ls, x.d ∉ o.looksAt ops ∧ o.dst ≠ some x.d := by
  intro x hx
  have := List.all_eq_true.1 h x hx
  simp only [infoOf, Bool.and_eq_true, Bool.not_eq_true', bne_iff_ne] at this
  refine ⟨fun hm => ?_, fun he => ?_⟩
  · rw [(maskOf_bit _ _).2 hm] at this; cases this.1
  · rw [he] at this; exact this.2 rfl
/-- What has come up: the calls' part, and some of the loose ones. -/
def Came (ls todo : List Loose) (Lc L : Nat) : Prop := ∀ k, L.testBit k = true ↔ Lc.testBit k = true ∨ ∃ x ∈ ls, x ∉ todo ∧ x.i = k
/-- What is given of the loose ones. -/
structure LooseOk (P : Program) (ops : Array Oper) (S : World → Prop) (ls : List Loose) : Prop where
  op : ∀ x ∈ ls, ∃ ty pos, ops[x.i]? = some ⟨some x.d, .alloc x.T, ty, pos, #[], none⟩
  inj : ∀ x ∈ ls, ∀ y ∈ ls, x.i = y.i → x = y
  dst : ∀ x ∈ ls, ∀ y ∈ ls, x.i ≠ y.i → x.d ≠ y.d
  run : ∀ x ∈ ls, ∀ w, (execOp (Act.mk #[] []).eval ⟨some x.d, .alloc x.T, 0, "", #[], none⟩).run P w = .ok (.value (.pointer (some ⟨w.heap.size, 0, none⟩))) (w.alloc x.Z)
  keep : ∀ w o, S w → S (w.alloc o)

theorem Came.next {ls todo : List Loose} {Lc L i : Nat} (h : Came ls todo Lc L) : Came ls todo (Lc ||| 2 ^ i) (L ||| 2 ^ i) := by
  intro k
  rw [Nat.testBit_or, Nat.testBit_or, Bool.or_eq_true, Bool.or_eq_true, h k]
  constructor
  · rintro ((h | h) | h)
    · exact Or.inl (Or.inl h)
    · exact Or.inr h
    · exact Or.inl (Or.inr h)
  · rintro ((h | h) | h)
    · exact Or.inl (Or.inl h)
    · exact Or.inr h
    · exact Or.inl (Or.inr h)
theorem Came.loose {ls todo : List Loose} {Lc L : Nat} (h : Came ls todo Lc L) {x : Loose} (hx : x ∈ ls) : Came ls (todo.filter fun y => y.i != x.i) Lc (L ||| 2 ^ x.i) := by
  intro k
  rw [Nat.testBit_or, Bool.or_eq_true, h k, Nat.testBit_two_pow, decide_eq_true_eq]
  constructor
  · rintro ((h | ⟨y, hy, hn, he⟩) | h)
    · exact Or.inl h
    · exact Or.inr ⟨y, hy, fun hm => hn (List.mem_filter.1 hm).1, he⟩
    · exact Or.inr ⟨x, hx, fun hm => by simpa using (List.mem_filter.1 hm).2, h⟩
  · rintro (h | ⟨y, hy, hn, he⟩)
    · exact Or.inl (Or.inl h)
    · by_cases e : y.i = x.i
      · exact Or.inr (by omega)
      · exact Or.inl (Or.inr ⟨y, hy, fun hm => hn (List.mem_filter.2 ⟨hm, by simpa using e⟩), he⟩)
theorem Made.loose {ls todo : List Loose} {g : Nat → Nat} {a : Act} {w : World} (h : Made S ls todo g a w) {x : Loose} (hx : x ∈ ls) (hS : S w) (ok : LooseOk P ops S ls) (hd : x.d < a.tmps.size) :
    Made S ls (todo.filter fun y => y.i != x.i) (fun k => if k = x.i then w.heap.size else g k) (a.put (some x.d) (.pointer (some ⟨w.heap.size, 0, none⟩))) (w.alloc x.Z) := by
  have hb : Below w.heap.size w (w.alloc x.Z) := (Below.refl _ _).alloc (Nat.le_refl _) _
  have hz : (w.alloc x.Z).heap.size = w.heap.size + 1 := by simp
  have old : ∀ y, y ∉ (todo.filter fun y => y.i != x.i) → y.i ≠ x.i → y ∉ todo := fun y hn e hm => hn (List.mem_filter.2 ⟨hm, by simpa using e⟩)
  refine ⟨fun y hy hn => ?_, fun y hy hn => ?_, fun y hy hn => ?_, fun y hy z hz' hn hm hne => ?_⟩
  · by_cases e : y.i = x.i
    · obtain rfl := ok.inj y hy x hx e
      simp [Act.put, hd]
    · simp only [e, if_false]
      show (a.tmps.setIfInBounds x.d _)[y.d]? = _
      rw [Array.getElem?_setIfInBounds_ne (fun he => ok.dst y hy x hx e he.symm)]
      exact h.ptr y hy (old y hn e)
  · by_cases e : y.i = x.i
    · simp only [e, if_true]; omega
    · simp only [e, if_false]; have := h.lt y hy (old y hn e); omega
  · by_cases e : y.i = x.i
    · obtain rfl := ok.inj y hy x hx e
      simp only [if_true]
      exact ⟨w, rfl, hS, Below.refl _ _⟩
    · simp only [e, if_false]
      exact (h.stands y hy (old y hn e)).keep hb
  · by_cases e : y.i = x.i
    · by_cases f : z.i = x.i
      · omega
      · simp only [e, f, if_true, if_false]
        have := h.lt z hz' (old z hm f)
        omega
    · by_cases f : z.i = x.i
      · simp only [e, f, if_true, if_false]
        have := h.lt y hy (old y hn e)
        omega
      · simp only [e, f, if_false]
        exact h.ne y hy z hz' (old y hn e) (old z hm f) hne

set_option maxHeartbeats 1000000 in
theorem chain_any {ls : List Loose} {l2 : List (Bool × Nat × Nat)} {Ld : Nat} (hn : Region.noSelect ops = true) (hQ : ∀ c a d v w, Q (.panic c) (a.put d v) w → Q (.panic c) a w) (ok : LooseOk P ops S ls) (hf : seqOk (infosOf ops) l2 (Ld ||| looseMask ls) = true) :
    ∀ (fuel : Nat) (l : List (Bool × Nat × Nat)) (Lc L : Nat) (listed : Array Bool) (todo : List Loose) (g : Nat → Nat) (c a : Act) (w : World),
      ListedIs ops.size listed L → Came ls todo Lc L → (∀ x ∈ ls, Lc.testBit x.i = false) → (∀ x ∈ todo, x ∈ ls) → l.length + todo.length + l2.length ≤ fuel →
      chainOk (infosOf ops) ls l Lc = true → lastMask l Lc = Ld → Alike ls c a → Made S ls todo g a w → (∀ x ∈ ls, x.d < a.tmps.size) → S w →
      ChainU P ops S (fun c => ∀ a w g, Alike ls c a → Made S ls [] g a w → S w → SeqH P ops Q S l2 a w) l c → wpAnyH P .any ops Q S fuel listed a w := by
  intro fuel
  induction fuel with
  | zero =>
    intro l Lc L listed todo g c a w hL hC _ _ hlen hc hlast hA hM _ hS h
    cases l with
    | cons x rest => simp at hlen
    | nil =>
      cases todo with
      | cons x rest => simp at hlen
      | nil =>
        have e : L = Ld ||| looseMask ls := by
          apply Nat.eq_of_testBit_eq
          intro k
          have h1 := hC k
          rw [Bool.eq_iff_iff, h1, Nat.testBit_or, Bool.or_eq_true, looseMask_bit, ← hlast]
          simp [lastMask]
        exact seqH_any hn hQ l2 0 L listed a w hL (by simpa using hlen) (by rw [e]; exact hf) hS (h a w g hA hM hS)
  | succ fuel ih =>
    intro l Lc L listed todo g c a w hL hC hnl hsub hlen hc hlast hA hM hd hS h
    -- a loose one that comes up
    have up : ∀ x ∈ ls, x ∈ todo → wpOp P ops Q x.i (fun a' w' => S w' ∧ wpAnyH P .any ops Q S fuel (listed.setIfInBounds x.i true) a' w') a w := by
      intro x hx ht
      obtain ⟨ty, pos, ho⟩ := ok.op x hx
      unfold wpOp
      simp only [ho, Region.wanted, if_true]
      refine Or.inl ?_
      show Oper.upon P _ a _ Q ((execOp a.eval ⟨some x.d, .alloc x.T, ty, pos, #[], none⟩).run P w)
      have hr : (execOp a.eval ⟨some x.d, .alloc x.T, ty, pos, #[], none⟩).run P w = .ok (.value (.pointer (some ⟨w.heap.size, 0, none⟩))) (w.alloc x.Z) := ok.run x hx w
      rw [hr, Oper.upon_value]
      refine ⟨ok.keep _ _ hS, ih l Lc _ _ _ _ c _ _ (hL.next (Array.getElem?_eq_some_iff.1 ho).1) (hC.loose hx) hnl (fun y hy => hsub y (List.mem_filter.1 hy).1) ?_ hc hlast (hA.loose hx _) (hM.loose hx hS ok (hd x hx)) (fun y hy => by simpa [Act.put] using hd y hy) (ok.keep _ _ hS) h⟩
      have : (todo.filter fun y => y.i != x.i).length < todo.length := by
        apply Nat.lt_of_not_le; intro hle
        have he := List.filter_eq_self.1 (List.Sublist.eq_of_length_le List.filter_sublist hle)
        simpa using he x ht
      omega
    have unl : ∀ x ∈ ls, L.testBit x.i = false → x ∈ todo := by
      intro x hx hb
      apply Classical.byContradiction; intro hn'
      rw [(hC x.i).2 (Or.inr ⟨x, hx, hn', rfl⟩)] at hb
      cases hb
    have lup : ∀ x ∈ todo, x.i ∈ Region.ready .any ops listed := by
      intro x ht
      obtain ⟨ty, pos, ho⟩ := ok.op x (hsub x ht)
      rw [ready_iff hL ho]
      have hb : L.testBit x.i = false := by
        cases hb : L.testBit x.i with
        | false => rfl
        | true =>
          rcases (hC x.i).1 hb with h1 | ⟨y, hy, hny, he⟩
          · rw [hnl x (hsub x ht)] at h1; cases h1
          · exact absurd (ok.inj y hy x (hsub x ht) he ▸ ht) hny
      simp [readyB, infoOf, hb, waitsOf, maskOf]
    have mono : ∀ k, Lc.testBit k = true → L.testBit k = true := fun k hk => (hC k).2 (Or.inl hk)
    have rmono : ∀ y : Nat × Nat × Nat × Nat, (∀ x ∈ ls, x.i ≠ y.1) → readyB Lc y = true → readyB L y = true := by
      intro y hy hr
      unfold readyB at *
      rw [Bool.and_eq_true, sub_bits] at *
      refine ⟨?_, fun k hk => mono k (hr.2 k hk)⟩
      cases hb : L.testBit y.1 with
      | false => rfl
      | true =>
        rcases (hC y.1).1 hb with h1 | ⟨x, hx, _, he⟩
        · simp [h1] at hr
        · exact absurd he (hy x hx)
    cases l with
    | nil =>
      cases todo with
      | nil =>
        have e : L = Ld ||| looseMask ls := by
          apply Nat.eq_of_testBit_eq
          intro k
          have h1 := hC k
          rw [Bool.eq_iff_iff, h1, Nat.testBit_or, Bool.or_eq_true, looseMask_bit, ← hlast]
          simp [lastMask]
        exact seqH_any hn hQ l2 _ L listed a w hL (by simpa using hlen) (by rw [e]; exact hf) hS (h a w g hA hM hS)
      | cons x0 rest =>
        refine ⟨fun h0 => absurd (lup x0 (by simp)) (by rw [h0]; simp), fun j hj => ?_⟩
        obtain ⟨hu, oj, hoj, hw⟩ := mem_ready.1 hj
        rw [hL.un (Array.getElem?_eq_some_iff.1 hoj).1] at hu
        have hy := List.all_eq_true.1 hc (infoOf ops (oj, j)) (mem_infos.2 ⟨oj, hoj, rfl⟩)
        simp only [Bool.or_eq_true] at hy
        rcases hy with (hy | hy) | hy
        · have : Lc.testBit j = true := hy
          rw [mono j this] at hu; cases hu
        · obtain ⟨x, hx, rfl⟩ := mem_loose.1 hy
          exact up x hx (unl x hx hu)
        · exfalso
          have hb := (sub_bits.1 hy) x0.i ((looseMask_bit _ _).2 ⟨x0, hsub x0 (by simp), rfl⟩)
          obtain ⟨e, he, hie⟩ := List.mem_map.1 ((maskOf_bit _ _).1 hb)
          obtain ⟨he, hbi⟩ := List.mem_filter.1 he
          have h1 := hw e (by simpa using he) hbi
          rw [hie, hL.2] at h1
          obtain ⟨hu0, o0, ho0, _⟩ := mem_ready.1 (lup x0 (by simp))
          rw [hL.un (Array.getElem?_eq_some_iff.1 ho0).1, h1] at hu0
          cases hu0
    | cons y rest =>
      obtain ⟨b, i, L'⟩ := y
      cases b with
      | true =>
        obtain ⟨o, v, ho, hg, hv, h⟩ := h
        simp only [chainOk, Bool.and_eq_true, beq_iff_eq, List.any_eq_true, List.all_eq_true] at hc
        obtain ⟨⟨⟨rfl, hni⟩, x, hx, ⟨⟨rfl, hr⟩, hla⟩, hfr⟩, hc⟩ := hc
        have hni' : ∀ y ∈ ls, y.i ≠ x.1 := fun y hy he => by
          rw [mem_loose.2 ⟨y, hy, he⟩] at hni; cases hni
        obtain ⟨o', ho', hx'⟩ := mem_infos.1 hx
        rw [ho] at ho'
        obtain rfl : o = o' := by simpa using ho'
        rw [hx'] at hla
        have hap := loose_apart hla
        have hse : ∀ cs b, o.op ≠ .select cs b := fun cs b => Region.noSelect_spec hn x.1 o cs b ho
        have hwant : Region.wanted o (yielded ops a.tmps) = true := by simp [Region.wanted, hg]
        have hr1 := rmono x hni' hr
        rw [hx'] at hr1 hfr
        refine wpAnyH_first ho (Region.noSelect_spec hn) (fun c a w hq => hQ c a _ _ w hq) fuel listed a w ?_ ((ready_iff hL ho).2 hr1) (Or.inl ⟨hwant, fun w hw => by rw [hA.exec hse hap]; exact hv w hw⟩) hS
          (ih rest _ _ _ todo g _ _ w (hL.next (Array.getElem?_eq_some_iff.1 ho).1) hC.next ?_ hsub (by simp at hlen; omega) hc hlast (hA.put _ _) (hM.keep (Below.refl _ _) ?_) (fun y hy => by cases hdd : o.dst <;> simpa [Act.put, hdd] using hd y hy) hS h)
        · intro j oj hoj hji hun hno
          have hy := hfr (infoOf ops (oj, j)) (mem_infos.2 ⟨oj, hoj, rfl⟩)
          simp only [Bool.or_eq_true, beq_iff_eq] at hy
          rcases hy with ((h1 | h1) | h1) | h1
          · exact absurd h1 hji
          · rw [hL.un (Array.getElem?_eq_some_iff.1 hoj).1] at hun
            rw [mono j h1] at hun
            cases hun
          · obtain ⟨e, he, h2⟩ := List.mem_map.1 ((maskOf_bit _ _).1 h1)
            obtain ⟨he, hb⟩ := List.mem_filter.1 he
            exact absurd h2 (hno e (by simpa using he) hb)
          · exact apart_of h1
        · intro y hy
          rw [Nat.testBit_or, hnl y hy, Nat.testBit_two_pow]
          have := hni' y hy
          simp; omega
        · intro y hy
          cases hdd : o.dst with
          | none => rfl
          | some d =>
            show (a.tmps.setIfInBounds d v)[y.d]? = _
            rw [Array.getElem?_setIfInBounds_ne (fun he => (hap y hy).2 (by rw [hdd, he]))]
      | false =>
        obtain ⟨o, f, vs, v, ho, hg, hr0, hcl, h⟩ := h
        simp only [chainOk, Bool.and_eq_true, beq_iff_eq, List.any_eq_true, List.all_eq_true] at hc
        obtain ⟨⟨⟨⟨rfl, hni⟩, x, hx, ⟨rfl, hr⟩, hla⟩, hfr⟩, hc⟩ := hc
        have hni' : ∀ y ∈ ls, y.i ≠ x.1 := fun y hy he => by
          rw [mem_loose.2 ⟨y, hy, he⟩] at hni; cases hni
        obtain ⟨o', ho', hx'⟩ := mem_infos.1 hx
        rw [ho] at ho'
        obtain rfl : o = o' := by simpa using ho'
        rw [hx'] at hla
        have hap := loose_apart hla
        have hse : ∀ cs b, o.op ≠ .select cs b := fun cs b => Region.noSelect_spec hn x.1 o cs b ho
        have hwant : Region.wanted o (yielded ops a.tmps) = true := by simp [Region.wanted, hg]
        have hr1 := rmono x hni' hr
        rw [hx'] at hr1
        have hin := (ready_iff hL ho).2 hr1
        refine ⟨fun h0 => (by rw [h0] at hin; cases hin), fun j hj => ?_⟩
        obtain ⟨hu, oj, hoj, _⟩ := mem_ready.1 hj
        rw [hL.un (Array.getElem?_eq_some_iff.1 hoj).1] at hu
        by_cases hlo : ∃ z ∈ ls, z.i = j
        · obtain ⟨z, hz, rfl⟩ := hlo
          exact up z hz (unl z hz hu)
        have hy := hfr (infoOf ops (oj, j)) (mem_infos.2 ⟨oj, hoj, rfl⟩)
        simp only [Bool.or_eq_true, beq_iff_eq] at hy
        rcases hy with ((h1 | h1) | h1) | h1
        · obtain rfl : j = x.1 := h1
          unfold wpOp
          simp only [ho, hwant, if_true]
          refine Or.inl ?_
          unfold Oper.wp
          rw [hA.exec hse hap, hr0 w, Oper.upon_enter]
          refine (hcl w hS).mono fun e w' he => ?_
          obtain ⟨rfl, hS', hb⟩ := he
          refine ⟨hS', ih rest _ _ _ todo g _ _ w' (hL.next (Array.getElem?_eq_some_iff.1 ho).1) hC.next ?_ hsub (by simp at hlen; omega) hc hlast (hA.put _ _) (hM.keep hb ?_) (fun y hy => by cases hdd : o.dst <;> simpa [Act.put, hdd] using hd y hy) hS' h⟩
          · intro y hy
            rw [Nat.testBit_or, hnl y hy, Nat.testBit_two_pow]
            have := hni' y hy
            simp; omega
          · intro y hy
            cases hdd : o.dst with
            | none => rfl
            | some d =>
              show (a.tmps.setIfInBounds d v)[y.d]? = _
              rw [Array.getElem?_setIfInBounds_ne (fun he => (hap y hy).2 (by rw [hdd, he]))]
        · obtain ⟨z, hz, rfl⟩ := mem_loose.1 h1
          exact up z hz (unl z hz hu)
        · exfalso
          have hrj := (ready_iff hL hoj).1 hj
          unfold readyB at h1 hrj
          rw [Bool.and_eq_true, sub_bits] at hrj
          have hsub2 : ∀ k, L.testBit k = true → (Lc ||| looseMask ls).testBit k = true := by
            intro k hk
            rw [Nat.testBit_or, Bool.or_eq_true, looseMask_bit]
            rcases (hC k).1 hk with h2 | ⟨z, hz, _, he⟩
            · exact Or.inl h2
            · exact Or.inr ⟨z, hz, he⟩
          have h3 : ((infoOf ops (oj, j)).2.1 &&& (Lc ||| looseMask ls) == (infoOf ops (oj, j)).2.1) = true := sub_bits.2 fun k hk => hsub2 k (hrj.2 k hk)
          rw [h3] at h1
          have hnb : (Lc ||| looseMask ls).testBit j = false := by
            cases hb : (Lc ||| looseMask ls).testBit j with
            | false => rfl
            | true =>
              rw [Nat.testBit_or, Bool.or_eq_true, looseMask_bit] at hb
              rcases hb with hb | ⟨z, hz, he⟩
              · rw [mono j hb] at hu; cases hu
              · exact absurd ⟨z, hz, he⟩ hlo
          have : (infoOf ops (oj, j)).1 = j := rfl
          rw [this, hnb] at h1
          cases h1
        · have : Lc.testBit j = true := h1
          rw [mono j this] at hu; cases hu
/-- A region whose calls come one behind the other (l), with blocks made at any time among them, and what waits for all of these (l2). -/
theorem wp_region_loose {id : Nat} {a : Act} {w : World} (infos : List (Nat × Nat × Nat × Nat)) (l l2 : List (Bool × Nat × Nat)) (ls : List Loose) (S : World → Prop) (hm : P.follows .mixedOrders = true) (hn : Region.noSelect ops = true)
    (hl : Nat.ble (l.length + ls.length + l2.length) ops.size = true) (hi : infosOf ops = infos) (hc : chainOk infos ls l 0 = true) (hc2 : seqOk infos l2 (lastMask l 0 ||| looseMask ls) = true) (ok : LooseOk P ops S ls) (hd : ∀ x ∈ ls, x.d < a.tmps.size)
    (hS : S w.drew) (h : ChainU P ops S (fun c => ∀ a w g, Alike ls c a → Made S ls [] g a w → S w → SeqH P ops (NoPanic Q) S l2 a w) l a) : (Code.region id ops true).wp P Q a w :=
  wp_region_noPanic (wp_region_held_drew (S := S) hm hS fun hS => chain_any hn (fun _ _ _ _ _ h => h) ok (by rw [hi]; exact hc2) _ l 0 0 _ ls (fun _ => 0) a a _ (ListedIs.start _)
    (fun k => by simp; intro x hx hn'; exact absurd hx hn') (fun x _ => by simp) (fun x hx => hx) (Nat.le_of_ble_eq_true hl) (by rw [hi]; exact hc) rfl ⟨rfl, rfl, fun _ _ => rfl⟩
    ⟨fun x hx hn' => absurd hx hn', fun x hx hn' => absurd hx hn', fun x hx hn' => absurd hx hn', fun x hx y _ hn' => absurd hx hn'⟩ hd hS h)
/-! ### Steps of the chain -/
theorem ChainU.load {K : Act → Prop} {i L : Nat} {rest : List (Bool × Nat × Nat)} {d : Option Tmp} {t ty : TypeId} {x : Tmp} {pos : String} {after : Array Edge} {vx v : Value} {a : Act}
    (ho : ops[i]? = some ⟨d, .load t (.tmp x), ty, pos, after, none⟩) (hx : a.tmps[x]? = some vx) (hv : ∀ w, S w → (execOp (Act.mk #[] []).eval ⟨d, .load t (.const vx), ty, "", #[], none⟩).run P w = .ok (.value v) w)
    (h : ChainU P ops S K rest (a.put d v)) : ChainU P ops S K ((true, i, L) :: rest) a := by
  obtain rfl := eval_tmp hx
  exact ⟨_, _, ho, rfl, hv, h⟩
theorem ChainU.call {K : Act → Prop} {i L : Nat} {rest : List (Bool × Nat × Nat)} {d : Option Tmp} {f : FuncId} {args : Array Operand} {ats : Array TypeId} {ty : TypeId} {pos : String} {after : Array Edge} {vl : List Value} {v : Value} {a : Act}
    (ho : ops[i]? = some ⟨d, .call ⟨.value (.func f), args, ats⟩, ty, pos, after, none⟩) (hr : ∀ vs w, (callFunc f vs).run P w = .ok (.enter f vs) w) (ha : args.toList.map a.eval = vl)
    (hc : ∀ w, S w → Calls P f vl.toArray w fun e w' => e = .returned v ∧ S w' ∧ Below w.heap.size w w') (h : ChainU P ops S K rest (a.put d v)) : ChainU P ops S K ((false, i, L) :: rest) a :=
  ⟨_, f, vl.toArray, v, ho, rfl, fun w => by rw [run_call, hr, show args.map a.eval = vl.toArray by (subst ha; cases args; simp)], hc, h⟩
theorem ChainU.done {K : Act → Prop} {a : Act} (h : K a) : ChainU P ops S K [] a := h
/-- Two loose ones: the frame. -/
theorem alike_two {x y : Loose} {c a : Act} (h : Alike [x, y] c a) {u v : Value} (hx : a.tmps[x.d]? = some u) (hy : a.tmps[y.d]? = some v) : a = (c.put (some x.d) u).put (some y.d) v := by
  obtain ⟨at', ad⟩ := a
  obtain ⟨ct, cd⟩ := c
  have hsz := h.size
  have hdf : ad = cd := h.defers
  subst hdf
  have hx' : at'[x.d]? = some u := hx
  have hy' : at'[y.d]? = some v := hy
  have hsz' : at'.size = ct.size := hsz
  congr 1
  apply Array.ext_getElem?
  intro t
  show at'[t]? = ((ct.setIfInBounds x.d u).setIfInBounds y.d v)[t]?
  rw [Array.getElem?_setIfInBounds]
  by_cases e : y.d = t
  · subst e
    have := (Array.getElem?_eq_some_iff.1 hy').1
    rw [if_pos rfl, if_pos (by simp; omega), hy']
  · rw [if_neg e, Array.getElem?_setIfInBounds]
    by_cases f : x.d = t
    · subst f
      have := (Array.getElem?_eq_some_iff.1 hx').1
      rw [if_pos rfl, if_pos (by omega), hx']
    · rw [if_neg f]
      exact h.tmps t (fun z hz => by
        rcases List.mem_cons.1 hz with rfl | hz
        · exact f
        · obtain rfl := List.mem_singleton.1 hz; exact e)
end
end Go.Proofs.Ytdphiobmjdiefaa
