/- A region that draws its order, walked in ONE order that is handed over: what is read may be taken first, and of the rest only one may come up at a time; that this is so is checked at once, by the kernel, over numbers. Nothing of any program. -/
import Derived.Deep.RegionHeld3
namespace Go.Proofs.YtekhgidbnpfmnaaGreatDoor
section
variable {P : Program} {ops : Array Oper} {Q : Exit → Act → World → Prop} {S : World → Prop}

def maskOf : List Nat → Nat
  | [] => 0
  | t :: l => 2 ^ t ||| maskOf l
theorem maskOf_bit : ∀ (l : List Nat) (t : Nat), (maskOf l).testBit t = true ↔ t ∈ l
  | [], t => by simp [maskOf]
  | x :: l, t => by
    rw [maskOf, Nat.testBit_or, Nat.testBit_two_pow, Bool.or_eq_true, decide_eq_true_eq, maskOf_bit l t, List.mem_cons]
    constructor
    · rintro (h | h)
      · exact Or.inl h.symm
      · exact Or.inr h
    · rintro (h | h)
      · exact Or.inl h.symm
      · exact Or.inr h
theorem sub_bits {d L : Nat} : (d &&& L == d) = true ↔ ∀ k, d.testBit k = true → L.testBit k = true := by
  rw [beq_iff_eq]
  constructor
  · intro h k hk
    rw [← h, Nat.testBit_and, Bool.and_eq_true] at hk
    exact hk.2
  · intro h
    apply Nat.eq_of_testBit_eq
    intro k
    rw [Nat.testBit_and]
    cases hd : d.testBit k with
    | false => rfl
    | true => rw [h k hd]; rfl
/-- What an operation waits for. -/
def waitsOf (o : Oper) : List Nat := (o.after.toList.filter (Region.binds .any)).map (·.on)
/-- An operation in numbers: its place, what it waits for, where it writes (and one more), what it looks at. -/
def infoOf (ops : Array Oper) (x : Oper × Nat) : Nat × Nat × Nat × Nat := (x.2, maskOf (waitsOf x.1), (match x.1.dst with | some d => d + 1 | none => 0), maskOf (x.1.looksAt ops))
def readyB (L : Nat) (x : Nat × Nat × Nat × Nat) : Bool := !L.testBit x.1 && (x.2.1 &&& L == x.2.1)
def apartB (x y : Nat × Nat × Nat × Nat) : Bool :=
  (x.2.2.1 == 0 || (!y.2.2.2.testBit (x.2.2.1 - 1) && x.2.2.1 != y.2.2.1)) && (y.2.2.1 == 0 || !x.2.2.2.testBit (y.2.2.1 - 1))
/-- The order holds: what is marked is free when its turn comes; what is not marked is the only one that may come up. -/
def seqOk (infos : List (Nat × Nat × Nat × Nat)) : List (Bool × Nat × Nat) → Nat → Bool
  | [], L => infos.all fun y => L.testBit y.1
  | (true, i, L') :: rest, L => (L' == L ||| 2 ^ i) && infos.any (fun x => x.1 == i && readyB L x && infos.all fun y => y.1 == i || L.testBit y.1 || y.2.1.testBit i || apartB x y) && seqOk infos rest L'
  | (false, i, L') :: rest, L => (L' == L ||| 2 ^ i) && infos.any (fun x => x.1 == i && readyB L x) && infos.all (fun y => y.1 == i || !readyB L y) && seqOk infos rest L'
/-- The walk in that order. -/
def SeqH (P : Program) (ops : Array Oper) (Q : Exit → Act → World → Prop) (S : World → Prop) : List (Bool × Nat × Nat) → Act → World → Prop
  | [], a, w => Q .normal a w
  | (true, i, _) :: rest, a, w => ∃ o v, ops[i]? = some o ∧ YieldsIf P ops S o v a ∧ SeqH P ops Q S rest (a.put o.dst v) w
  | (false, i, _) :: rest, a, w => ∃ o, ops[i]? = some o ∧ Region.wanted o (yielded ops a.tmps) = true ∧ o.wp P a w (fun a' w' => S w' ∧ SeqH P ops Q S rest a' w') Q
theorem SeqH.take {i L : Nat} {rest : List (Bool × Nat × Nat)} {o : Oper} {v : Value} {a : Act} {w : World} (ho : ops[i]? = some o) (hw : Region.wanted o (yielded ops a.tmps) = true)
    (hv : ∀ w, S w → (execOp a.eval o).run P w = .ok (.value v) w) (h : SeqH P ops Q S rest (a.put o.dst v) w) : SeqH P ops Q S ((true, i, L) :: rest) a w :=
  ⟨o, v, ho, Or.inl ⟨hw, hv⟩, h⟩
theorem SeqH.step {i L : Nat} {rest : List (Bool × Nat × Nat)} {o : Oper} {a : Act} {w : World} (ho : ops[i]? = some o) (hw : Region.wanted o (yielded ops a.tmps) = true)
    (h : ∀ K : Act → World → Prop, (∀ a' w', S w' → SeqH P ops Q S rest a' w' → K a' w') → o.wp P a w K Q) : SeqH P ops Q S ((false, i, L) :: rest) a w :=
  ⟨o, ho, hw, h _ fun _ _ h1 h2 => ⟨h1, h2⟩⟩
/-- One that its guard forbids is passed over. -/
theorem SeqH.pass {i L : Nat} {rest : List (Bool × Nat × Nat)} {o : Oper} {a : Act} {w : World} (ho : ops[i]? = some o) (hw : Region.wanted o (yielded ops a.tmps) = false) (h : SeqH P ops Q S rest (a.put o.dst undef) w) : SeqH P ops Q S ((true, i, L) :: rest) a w :=
  ⟨o, undef, ho, Or.inr ⟨hw, rfl⟩, h⟩
theorem SeqH.done {a : Act} {w : World} (h : Q .normal a w) : SeqH P ops Q S [] a w := h

/-- The list of what has come up, in numbers. -/
def ListedIs (n : Nat) (listed : Array Bool) (L : Nat) : Prop := listed.size = n ∧ ∀ k, listed.getD k false = L.testBit k
theorem ListedIs.start (n : Nat) : ListedIs n (Array.replicate n false) 0 := ⟨by simp, fun k => by simp [Array.getD]⟩
theorem ListedIs.next {n i L : Nat} {listed : Array Bool} (h : ListedIs n listed L) (hi : i < n) : ListedIs n (listed.setIfInBounds i true) (L ||| 2 ^ i) := by
  refine ⟨by simp [h.1], fun k => ?_⟩
  rw [Nat.testBit_or, Nat.testBit_two_pow, ← h.2 k]
  by_cases e : i = k
  · subst e
    simp [Array.getD, h.1, hi]
  · rw [getD_set_ne false e]; simp [e]
theorem ListedIs.un {n k L : Nat} {listed : Array Bool} (h : ListedIs n listed L) (hk : k < n) : listed.getD k true = L.testBit k := by
  rw [← h.2 k]
  simp [Array.getD, h.1, hk]
theorem waits_iff {o : Oper} {L n : Nat} {listed : Array Bool} (h : ListedIs n listed L) : (maskOf (waitsOf o) &&& L == maskOf (waitsOf o)) = true ↔ ∀ e ∈ o.after, Region.binds .any e = true → listed.getD e.on false = true := by
  rw [sub_bits]
  constructor
  · intro hk e he hb
    rw [h.2]
    refine hk _ ((maskOf_bit _ _).2 ?_)
    exact List.mem_map.2 ⟨e, List.mem_filter.2 ⟨by simpa using he, hb⟩, rfl⟩
  · intro hk k hb
    obtain ⟨e, he, rfl⟩ := List.mem_map.1 ((maskOf_bit _ _).1 hb)
    obtain ⟨he, hb⟩ := List.mem_filter.1 he
    rw [← h.2]
    exact hk e (by simpa using he) hb

/-- The operations, in numbers. -/
def infosOf (ops : Array Oper) : List (Nat × Nat × Nat × Nat) := ops.toList.zipIdx.map (infoOf ops)
theorem mem_infos {x : Nat × Nat × Nat × Nat} : x ∈ infosOf ops ↔ ∃ o, ops[x.1]? = some o ∧ x = infoOf ops (o, x.1) := by
  unfold infosOf
  rw [List.mem_map]
  constructor
  · rintro ⟨⟨o, j⟩, hm, rfl⟩
    have := List.mem_zipIdx_iff_getElem?.1 hm
    exact ⟨o, by simpa [infoOf] using this, rfl⟩
  · rintro ⟨o, ho, hx⟩
    exact ⟨(o, x.1), List.mem_zipIdx_iff_getElem?.2 (by simpa using ho), hx.symm⟩
theorem apart_of {j k : Nat} {x y : Oper} (h : apartB (infoOf ops (x, j)) (infoOf ops (y, k)) = true) : x.apart ops y = true := by
  unfold apartB infoOf at h
  unfold Oper.apart
  have hm : ∀ (o : Oper) (d : Nat), (maskOf (o.looksAt ops)).testBit d = false → (o.looksAt ops).contains d = false := by
    intro o d hd
    cases hc : (o.looksAt ops).contains d with
    | false => rfl
    | true =>
      rw [(maskOf_bit _ _).2 (by simpa using hc)] at hd
      cases hd
  cases hx : x.dst <;> cases hy : y.dst <;> simp [hx, hy] at h ⊢
  · exact fun hc => by have := hm x _ h; simp [hc] at this
  · exact fun hc => by have := hm y _ h; simp [hc] at this
  · refine ⟨⟨fun hc => ?_, fun he => h.1.2 he.symm⟩, fun hc => ?_⟩
    · have := hm y _ h.1.1; simp [hc] at this
    · have := hm x _ h.2; simp [hc] at this
theorem ready_iff {L : Nat} {listed : Array Bool} {j : Nat} {o : Oper} (h : ListedIs ops.size listed L) (ho : ops[j]? = some o) : j ∈ Region.ready .any ops listed ↔ readyB L (infoOf ops (o, j)) = true := by
  have hj : j < ops.size := (Array.getElem?_eq_some_iff.1 ho).1
  rw [mem_ready, h.un hj]
  unfold readyB infoOf
  rw [Bool.and_eq_true, waits_iff h]
  constructor
  · rintro ⟨h1, o', ho', h2⟩
    rw [ho] at ho'
    obtain rfl : o = o' := by simpa using ho'
    exact ⟨by simpa using h1, h2⟩
  · rintro ⟨h1, h2⟩
    exact ⟨by simpa using h1, o, ho, h2⟩
theorem seqH_any (hn : Region.noSelect ops = true) (hQ : ∀ c a d v w, Q (.panic c) (a.put d v) w → Q (.panic c) a w) :
    ∀ (l : List (Bool × Nat × Nat)) (fuel L : Nat) (listed : Array Bool) (a : Act) (w : World), ListedIs ops.size listed L → l.length ≤ fuel → seqOk (infosOf ops) l L = true → S w → SeqH P ops Q S l a w → wpAnyH P .any ops Q S fuel listed a w
  | [], fuel, L, listed, _, _, hL, _, hc, _, h => by
    refine wpAnyH_done ?_ h fuel
    rw [List.eq_nil_iff_forall_not_mem]
    intro j hj
    obtain ⟨hu, o, ho, _⟩ := mem_ready.1 hj
    rw [hL.un (Array.getElem?_eq_some_iff.1 ho).1] at hu
    have := List.all_eq_true.1 hc (infoOf ops (o, j)) (mem_infos.2 ⟨o, ho, rfl⟩)
    simp [infoOf, hu] at this
  | (true, i, _) :: rest, 0, _, _, _, _, _, hl, _, _, _ => by simp at hl
  | (false, i, _) :: rest, 0, _, _, _, _, _, hl, _, _, _ => by simp at hl
  | (true, i, L') :: rest, fuel + 1, L, listed, a, w, hL, hl, hc, hS, ⟨o, v, ho, hy, h⟩ => by
    simp only [seqOk, Bool.and_eq_true, beq_iff_eq, List.any_eq_true, List.all_eq_true] at hc
    obtain ⟨⟨rfl, x, hx, ⟨rfl, hr⟩, hf⟩, hc⟩ := hc
    obtain ⟨o', ho', hx'⟩ := mem_infos.1 hx
    rw [ho] at ho'
    obtain rfl : o = o' := by simpa using ho'
    rw [hx'] at hr hf
    refine wpAnyH_first ho (Region.noSelect_spec hn) (fun c a w hq => hQ c a _ _ w hq) fuel listed a w ?_ ((ready_iff hL ho).2 hr) hy hS
      (seqH_any hn hQ rest fuel _ _ _ w (hL.next (Array.getElem?_eq_some_iff.1 ho).1) (by simpa using hl) hc hS h)
    intro j oj hoj hji hun hno
    have hy := hf (infoOf ops (oj, j)) (mem_infos.2 ⟨oj, hoj, rfl⟩)
    simp only [Bool.or_eq_true, beq_iff_eq] at hy
    rcases hy with ((h1 | h1) | h1) | h1
    · exact absurd h1 hji
    · rw [hL.un (Array.getElem?_eq_some_iff.1 hoj).1] at hun
      have : (infoOf ops (oj, j)).1 = j := rfl
      rw [this, hun] at h1
      cases h1
    · have := (maskOf_bit _ _).1 h1
      obtain ⟨e, he, h2⟩ := List.mem_map.1 this
      obtain ⟨he, hb⟩ := List.mem_filter.1 he
      exact absurd h2 (hno e (by simpa using he) hb)
    · exact apart_of h1
  | (false, i, L') :: rest, fuel + 1, L, listed, a, w, hL, hl, hc, _, ⟨o, ho, hw, h⟩ => by
    simp only [seqOk, Bool.and_eq_true, beq_iff_eq, List.any_eq_true, List.all_eq_true] at hc
    obtain ⟨⟨⟨rfl, x, hx, rfl, hr⟩, hf⟩, hc⟩ := hc
    obtain ⟨o', ho', hx'⟩ := mem_infos.1 hx
    rw [ho] at ho'
    obtain rfl : o = o' := by simpa using ho'
    rw [hx'] at hr
    have hin := (ready_iff hL ho).2 hr
    refine ⟨fun h0 => (by rw [h0] at hin; cases hin), fun j hj => ?_⟩
    obtain ⟨_, oj, hoj, _⟩ := mem_ready.1 hj
    obtain rfl : j = x.1 := by
      have hy := hf (infoOf ops (oj, j)) (mem_infos.2 ⟨oj, hoj, rfl⟩)
      rw [(ready_iff hL hoj).1 hj] at hy
      simpa [infoOf] using hy
    unfold wpOp
    simp only [ho, hw, if_true]
    exact Or.inl (Oper.wp_mono (fun a' w' h' => ⟨h'.1, seqH_any hn hQ rest fuel _ _ a' w' (hL.next (Array.getElem?_eq_some_iff.1 ho).1) (by simpa using hl) hc h'.1 h'.2⟩) h)
/-- A region, walked in the order l. -/
theorem wp_region_seq {id : Nat} {a : Act} {w : World} (infos : List (Nat × Nat × Nat × Nat)) (l : List (Bool × Nat × Nat)) (S : World → Prop) (hm : P.follows .mixedOrders = true) (hn : Region.noSelect ops = true) (hl : Nat.ble l.length ops.size = true)
    (hi : infosOf ops = infos) (hc : seqOk infos l 0 = true) (hS : S w.drew) (h : SeqH P ops (NoPanic Q) S l a w.drew) : (Code.region id ops true).wp P Q a w :=
  wp_region_noPanic (wp_region_held_drew (S := S) hm hS fun hS => seqH_any hn (fun _ _ _ _ _ h => h) l _ 0 _ _ _ (ListedIs.start _) (Nat.le_of_ble_eq_true hl) (by rw [hi]; exact hc) hS h)

/-! ### Steps that do not look at the whole frame -/
theorem eval_tmp {a : Act} {x : Tmp} {v : Value} (h : a.tmps[x]? = some v) : a.eval (.tmp x) = v := by simp [Act.eval, h]
theorem SeqH.load {i L : Nat} {rest : List (Bool × Nat × Nat)} {d : Option Tmp} {ty : TypeId} {t : TypeId} {x : Tmp} {vx : Value} {pos : String} {after : Array Edge} {v : Value} {a : Act} {w : World}
    (ho : ops[i]? = some ⟨d, .load t (.tmp x), ty, pos, after, none⟩) (hx : a.tmps[x]? = some vx) (hv : ∀ w, S w → (execOp (Act.mk #[] []).eval ⟨d, .load t (.const vx), ty, "", #[], none⟩).run P w = .ok (.value v) w)
    (h : SeqH P ops Q S rest (a.put d v) w) : SeqH P ops Q S ((true, i, L) :: rest) a w := by
  obtain rfl := eval_tmp hx
  exact SeqH.take ho rfl hv h
theorem SeqH.fieldAddr {i L : Nat} {rest : List (Bool × Nat × Nat)} {d : Option Tmp} {ty : TypeId} {t : TypeId} {x : Tmp} {k : Nat} {vx : Value} {pos : String} {after : Array Edge} {v : Value} {a : Act} {w : World}
    (ho : ops[i]? = some ⟨d, .fieldAddr t (.tmp x) k, ty, pos, after, none⟩) (hx : a.tmps[x]? = some vx) (hv : ∀ w, S w → (execOp (Act.mk #[] []).eval ⟨d, .fieldAddr t (.const vx) k, ty, "", #[], none⟩).run P w = .ok (.value v) w)
    (h : SeqH P ops Q S rest (a.put d v) w) : SeqH P ops Q S ((true, i, L) :: rest) a w := by
  obtain rfl := eval_tmp hx
  exact SeqH.take ho rfl hv h
theorem SeqH.indexAddr {i L : Nat} {rest : List (Bool × Nat × Nat)} {d : Option Tmp} {ty : TypeId} {t : TypeId} {x : Tmp} {vx vy : Value} {pos : String} {after : Array Edge} {v : Value} {a : Act} {w : World}
    (ho : ops[i]? = some ⟨d, .indexAddr t (.tmp x) (.const vy), ty, pos, after, none⟩) (hx : a.tmps[x]? = some vx) (hv : ∀ w, S w → (execOp (Act.mk #[] []).eval ⟨d, .indexAddr t (.const vx) (.const vy), ty, "", #[], none⟩).run P w = .ok (.value v) w)
    (h : SeqH P ops Q S rest (a.put d v) w) : SeqH P ops Q S ((true, i, L) :: rest) a w := by
  obtain rfl := eval_tmp hx
  exact SeqH.take ho rfl hv h
theorem SeqH.indexAddr2 {i L : Nat} {rest : List (Bool × Nat × Nat)} {d : Option Tmp} {ty : TypeId} {t : TypeId} {x y : Tmp} {vx vy : Value} {pos : String} {after : Array Edge} {v : Value} {a : Act} {w : World}
    (ho : ops[i]? = some ⟨d, .indexAddr t (.tmp x) (.tmp y), ty, pos, after, none⟩) (hx : a.tmps[x]? = some vx) (hy : a.tmps[y]? = some vy) (hv : ∀ w, S w → (execOp (Act.mk #[] []).eval ⟨d, .indexAddr t (.const vx) (.const vy), ty, "", #[], none⟩).run P w = .ok (.value v) w)
    (h : SeqH P ops Q S rest (a.put d v) w) : SeqH P ops Q S ((true, i, L) :: rest) a w := by
  obtain rfl := eval_tmp hx
  obtain rfl := eval_tmp hy
  exact SeqH.take ho rfl hv h
theorem SeqH.move {i L : Nat} {rest : List (Bool × Nat × Nat)} {d : Option Tmp} {ty : TypeId} {x : Tmp} {pos : String} {after : Array Edge} {vx : Value} {a : Act} {w : World}
    (ho : ops[i]? = some ⟨d, .move (.tmp x), ty, pos, after, none⟩) (hx : a.tmps[x]? = some vx) (h : SeqH P ops Q S rest (a.put d vx) w) : SeqH P ops Q S ((true, i, L) :: rest) a w := by
  obtain rfl := eval_tmp hx
  exact SeqH.take ho rfl (fun _ _ => rfl) h
theorem run_call {a : Act} {d : Option Tmp} {f : FuncId} {args : Array Operand} {ats : Array TypeId} {ty : TypeId} {pos : String} {after : Array Edge} {w : World} :
    (execOp a.eval ⟨d, .call ⟨.value (.func f), args, ats⟩, ty, pos, after, none⟩).run P w = (callFunc f (args.map a.eval)).run P w := by
  simp [execOp, resolve, Deferred.ofValue, invoke, Act.eval]
theorem SeqH.call {i L : Nat} {rest : List (Bool × Nat × Nat)} {d : Option Tmp} {f : FuncId} {args : Array Operand} {ats : Array TypeId} {ty : TypeId} {pos : String} {after : Array Edge} {vl : List Value} {v : Value} {a : Act} {w : World} {R : World → Prop}
    (ho : ops[i]? = some ⟨d, .call ⟨.value (.func f), args, ats⟩, ty, pos, after, none⟩) (hr : ∀ vs w, (callFunc f vs).run P w = .ok (.enter f vs) w) (ha : args.toList.map a.eval = vl)
    (hc : Calls P f vl.toArray w fun e w' => e = .returned v ∧ S w' ∧ R w') (h : ∀ w', S w' → R w' → SeqH P ops Q S rest (a.put d v) w') : SeqH P ops Q S ((false, i, L) :: rest) a w := by
  refine SeqH.step ho rfl fun K hK => ?_
  unfold Oper.wp
  rw [run_call, hr, show args.map a.eval = vl.toArray by (subst ha; cases args; simp), Oper.upon_enter]
  refine hc.mono fun e w' he => ?_
  obtain ⟨rfl, hS, hR⟩ := he
  exact hK _ _ hS (h w' hS hR)
end
end Go.Proofs.YtekhgidbnpfmnaaGreatDoor
