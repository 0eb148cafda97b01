/- Drawn regions whose operations make memory: in any order; with one that writes; with spans. -/
import Derived.Test.YtekhgidbnpfmnaaGreatDoorSeq
import Derived.Below
import Derived.Test.YtekhgidbnpfmnaaGreatDoorMem
namespace Go.Proofs.YtekhgidbnpfmnaaGreatDoor
open Go.RowKit

section
variable {P : Program} {ops : Array Oper} {Q : Exit → Act → World → Prop}

/-- A frame with values put where these operations write (operation, slot). -/
def frA (c : Act) (vals : Nat → Value) (dl : List (Nat × Nat)) : Act := dl.foldl (fun a x => a.put (some x.2) (vals x.1)) c
def slotIn (dl : List (Nat × Nat)) (t : Nat) : Bool := dl.any fun x => x.2 == t
def slotsOk : List (Nat × Nat) → Nat → Bool
  | [], _ => true
  | x :: dl, n => !slotIn dl x.2 && Nat.blt x.2 n && slotsOk dl n
theorem frA_size (vals : Nat → Value) : ∀ (dl : List (Nat × Nat)) (c : Act), (frA c vals dl).tmps.size = c.tmps.size ∧ (frA c vals dl).defers = c.defers
  | [], _ => ⟨rfl, rfl⟩
  | x :: dl, c => by
    obtain ⟨h1, h2⟩ := frA_size vals dl (c.put (some x.2) (vals x.1))
    exact ⟨h1.trans (by simp [Act.put]), h2⟩
theorem frA_off (vals : Nat → Value) {t : Nat} : ∀ (dl : List (Nat × Nat)) (c : Act), slotIn dl t = false → (frA c vals dl).tmps[t]? = c.tmps[t]?
  | [], _, _ => rfl
  | x :: dl, c, h => by
    simp only [slotIn, List.any_cons, Bool.or_eq_false_iff] at h
    refine (frA_off vals dl (c.put (some x.2) (vals x.1)) h.2).trans ?_
    show (c.tmps.setIfInBounds x.2 _)[t]? = _
    rw [Array.getElem?_setIfInBounds_ne (by simpa using h.1)]
theorem frA_on (vals : Nat → Value) : ∀ (dl : List (Nat × Nat)) (c : Act), slotsOk dl c.tmps.size = true → ∀ x ∈ dl, (frA c vals dl).tmps[x.2]? = some (vals x.1)
  | [], _, _, _, hx => nomatch hx
  | y :: dl, c, h, x, hx => by
    simp only [slotsOk, Bool.and_eq_true, Bool.not_eq_true', Nat.blt_eq] at h
    rcases List.mem_cons.1 hx with rfl | hx
    · refine (frA_off vals dl (c.put (some x.2) (vals x.1)) h.1.1).trans ?_
      show (c.tmps.setIfInBounds x.2 _)[x.2]? = _
      rw [Array.getElem?_setIfInBounds_self_of_lt h.1.2]
    · exact frA_on vals dl (c.put (some y.2) (vals y.1)) (by simpa [Act.put] using h.2) x hx
theorem slotIn_iff {dl : List (Nat × Nat)} {t : Nat} : slotIn dl t = true ↔ ∃ x ∈ dl, x.2 = t := by simp [slotIn]

/-- The block that a value points to. -/
def blkV : Value → Option Nat
  | .pointer (some a) => some a.block
  | .slice (some a) _ _ => some a.block
  | _ => none
/-- What an operation comes to: a value at once, or a call's. -/
def RunsTo (P : Program) (m : Sem Next) (w : World) (K : Value → World → Prop) : Prop :=
  (∃ v w', m.run P w = .ok (.value v) w' ∧ K v w') ∨ ∃ f vs, m.run P w = .ok (.enter f vs) w ∧ Calls P f vs w fun e w' => ∃ v, e = .returned v ∧ K v w'
/-- Each operation's part. -/
def StepsF (P : Program) (ops : Array Oper) (c : Act) (Ψ : Nat → Value → World → Prop) (mks : List Nat) (w0 : World) : List (Nat × List (Nat × Nat)) → Prop
  | [] => True
  | (j, dl) :: rest => (∀ o, ops[j]? = some o → ∀ vals w, Below w0.heap.size w0 w → (∀ x ∈ dl, Ψ x.1 (vals x.1) w) → (∀ x ∈ dl, ∀ y ∈ dl, x.1 ∈ mks → y.1 ∈ mks → x.1 ≠ y.1 → blkV (vals x.1) ≠ blkV (vals y.1)) → RunsTo P (execOp (frA c vals dl).eval o) w fun v w' => Ψ j v w' ∧ Below w.heap.size w w' ∧ (j ∈ mks → ∃ b, blkV v = some b ∧ w.heap.size ≤ b ∧ b < w'.heap.size)) ∧ StepsF P ops c Ψ mks w0 rest
theorem StepsF.get {c : Act} {Ψ : Nat → Value → World → Prop} {mks : List Nat} {w0 : World} : ∀ {tab : List (Nat × List (Nat × Nat))}, StepsF P ops c Ψ mks w0 tab → ∀ x ∈ tab,
    ∀ o, ops[x.1]? = some o → ∀ vals w, Below w0.heap.size w0 w → (∀ y ∈ x.2, Ψ y.1 (vals y.1) w) → (∀ z ∈ x.2, ∀ y ∈ x.2, z.1 ∈ mks → y.1 ∈ mks → z.1 ≠ y.1 → blkV (vals z.1) ≠ blkV (vals y.1)) → RunsTo P (execOp (frA c vals x.2).eval o) w fun v w' => Ψ x.1 v w' ∧ Below w.heap.size w w' ∧ (x.1 ∈ mks → ∃ b, blkV v = some b ∧ w.heap.size ≤ b ∧ b < w'.heap.size)
  | [], _, _, hx => nomatch hx
  | _ :: _, h, x, hx => by
    rcases List.mem_cons.1 hx with rfl | hx
    · exact h.1
    · exact h.2.get x hx
/-- All that is waited for, and what that waits for. -/
def closeM (infos : List (Nat × Nat × Nat × Nat)) : Nat → Nat → Nat
  | 0, m => m
  | n + 1, m => closeM infos n (infos.foldl (fun a x => if m.testBit x.1 then a ||| x.2.1 else a) m)
theorem foldF_in {m L : Nat} (h : ∀ q, m.testBit q = true → L.testBit q = true) : ∀ (l : List (Nat × Nat × Nat × Nat)) (a : Nat), (∀ x ∈ l, L.testBit x.1 = true → ∀ q, x.2.1.testBit q = true → L.testBit q = true) → (∀ q, a.testBit q = true → L.testBit q = true) →
    ∀ q, (l.foldl (fun a x => if m.testBit x.1 then a ||| x.2.1 else a) a).testBit q = true → L.testBit q = true
  | [], _, _, ha => ha
  | x :: l, a, hl, ha => by
    refine foldF_in h l _ (fun y hy => hl y (List.mem_cons_of_mem _ hy)) fun q hq => ?_
    replace hq : (if m.testBit x.1 = true then a ||| x.2.1 else a).testBit q = true := hq
    by_cases e : m.testBit x.1 = true
    · rw [if_pos e, Nat.testBit_or, Bool.or_eq_true] at hq
      exact hq.elim (ha q) (hl x (by simp) (h _ e) q)
    · rw [if_neg e] at hq
      exact ha q hq
theorem close_in {infos : List (Nat × Nat × Nat × Nat)} {L : Nat} (hc : ∀ x ∈ infos, L.testBit x.1 = true → ∀ q, x.2.1.testBit q = true → L.testBit q = true) : ∀ (n m : Nat), (∀ q, m.testBit q = true → L.testBit q = true) → ∀ q, (closeM infos n m).testBit q = true → L.testBit q = true
  | 0, _, h => h
  | n + 1, m, h => close_in hc n _ (foldF_in h infos m hc h)
/-- The order is free among the first k: each waits for such alone as stand ahead of it in the text; what it looks at was written by such as it waits for; all others wait for all of these. -/
def freeOk (infos : List (Nat × Nat × Nat × Nat)) (k : Nat) (all : List (Nat × Nat)) (tab : List (Nat × List (Nat × Nat))) : Bool :=
  infos.all fun x => if Nat.blt x.1 k then Nat.blt x.2.1 (2 ^ x.1) && all.contains (x.1, x.2.2.1 - 1) && x.2.2.1 != 0 && tab.contains (x.1, all.filter fun y => x.2.2.2.testBit y.2) && (all.filter fun y => x.2.2.2.testBit y.2).all fun y => x.2.1.testBit y.1
    else (closeM infos k x.2.1 &&& (2 ^ k - 1) == 2 ^ k - 1)
def headOk (all : List (Nat × Nat)) (k : Nat) : Bool := all.all fun x => Nat.blt x.1 k
/-- What is known while they come up. -/
structure InvF (c : Act) (Ψ : Nat → Value → World → Prop) (mks : List Nat) (w0 : World) (k : Nat) (all : List (Nat × Nat)) (vals : Nat → Value) (L : Nat) (a : Act) (w : World) : Prop where
  size : a.tmps.size = c.tmps.size
  defers : a.defers = c.defers
  off : ∀ t, slotIn all t = false → a.tmps[t]? = c.tmps[t]?
  on : ∀ x ∈ all, L.testBit x.1 = true → a.tmps[x.2]? = some (vals x.1)
  out : ∀ x ∈ all, L.testBit x.1 = false → a.tmps[x.2]? = c.tmps[x.2]?
  below : Below w0.heap.size w0 w
  psi : ∀ i, i < k → L.testBit i = true → Ψ i (vals i) w
  blk : ∀ i, i < k → L.testBit i = true → i ∈ mks → ∃ b, blkV (vals i) = some b ∧ w0.heap.size ≤ b ∧ b < w.heap.size
  ne : ∀ i j, i < k → j < k → L.testBit i = true → L.testBit j = true → i ∈ mks → j ∈ mks → i ≠ j → blkV (vals i) ≠ blkV (vals j)
theorem full_bit {k i : Nat} : (2 ^ k - 1).testBit i = decide (i < k) := Nat.testBit_two_pow_sub_one k i
theorem slots_inj {all : List (Nat × Nat)} {n : Nat} (h : slotsOk all n = true) {x y : Nat × Nat} (hx : x ∈ all) (hy : y ∈ all) (e : x.2 = y.2) : x = y := by
  induction all with
  | nil => cases hx
  | cons z all ih =>
    simp only [slotsOk, Bool.and_eq_true, Bool.not_eq_true'] at h
    rcases List.mem_cons.1 hx with ex | hx' <;> rcases List.mem_cons.1 hy with ey | hy'
    · rw [ex, ey]
    · have := (slotIn_iff (dl := all)).2 ⟨y, hy', e.symm.trans (congrArg Prod.snd ex)⟩
      rw [h.1.1] at this; cases this
    · have := (slotIn_iff (dl := all)).2 ⟨x, hx', e.trans (congrArg Prod.snd ey)⟩
      rw [h.1.1] at this; cases this
    · exact ih h.2 hx' hy'
theorem slotsOk_filter {n : Nat} (p : Nat × Nat → Bool) : ∀ {all : List (Nat × Nat)}, slotsOk all n = true → slotsOk (all.filter p) n = true
  | [], _ => rfl
  | z :: all, h => by
    simp only [slotsOk, Bool.and_eq_true, Bool.not_eq_true', Nat.blt_eq] at h
    rw [List.filter_cons]
    split
    · simp only [slotsOk, Bool.and_eq_true, Bool.not_eq_true', Nat.blt_eq]
      refine ⟨⟨?_, h.1.2⟩, slotsOk_filter p h.2⟩
      cases hq : slotIn (all.filter p) z.2 with
      | false => rfl
      | true =>
        obtain ⟨x, hx, e⟩ := slotIn_iff.1 hq
        rw [slotIn_iff.2 ⟨x, (List.mem_filter.1 hx).1, e⟩] at h
        cases h.1.1
    · exact slotsOk_filter p h.2
/-- Each operation's place comes up once. -/
def idxOk : List (Nat × Nat) → Bool
  | [] => true
  | x :: dl => !(dl.any fun y => y.1 == x.1) && idxOk dl
theorem idx_inj {all : List (Nat × Nat)} (h : idxOk all = true) {x y : Nat × Nat} (hx : x ∈ all) (hy : y ∈ all) (e : x.1 = y.1) : x = y := by
  induction all with
  | nil => cases hx
  | cons z all ih =>
    simp only [idxOk, Bool.and_eq_true, Bool.not_eq_true', List.any_eq_false, beq_iff_eq] at h
    rcases List.mem_cons.1 hx with ex | hx' <;> rcases List.mem_cons.1 hy with ey | hy'
    · rw [ex, ey]
    · exact absurd (e.symm.trans (congrArg Prod.fst ex)) (h.1 y hy')
    · exact absurd (e.trans (congrArg Prod.fst ey)) (h.1 x hx')
    · exact ih h.2 hx' hy'
theorem left_one {p : Nat → Bool} {j : Nat} (hp : p j = true) : ∀ k, ((List.range k).filter fun i => p i && !(i == j)).length + (if j < k then 1 else 0) = ((List.range k).filter p).length
  | 0 => by simp
  | k + 1 => by
    have ih := left_one hp k
    rw [List.range_succ, List.filter_append, List.filter_append, List.length_append, List.length_append]
    by_cases e : k = j
    · subst e
      rw [if_neg (by omega)] at ih
      rw [if_pos (by omega)]
      simp [hp] at *
      omega
    · have h1 : (List.filter (fun i => p i && !(i == j)) [k]).length = (List.filter p [k]).length := by
        have : (k == j) = false := by simpa using e
        simp [List.filter_cons, this]
      by_cases hk : j < k
      · rw [if_pos hk] at ih
        rw [if_pos (by omega)]
        omega
      · rw [if_neg hk] at ih
        rw [if_neg (by omega)]
        omega
set_option maxHeartbeats 1000000 in
theorem free_any {S : World → Prop} {c : Act} {Ψ : Nat → Value → World → Prop} {mks : List Nat} {w0 : World} {k : Nat} {all : List (Nat × Nat)} {tab : List (Nat × List (Nat × Nat))} {l2 : List (Bool × Nat × Nat)} (hn : Region.noSelect ops = true) (hQ : ∀ c a d v w, Q (.panic c) (a.put d v) w → Q (.panic c) a w)
    (hg : (ops.toList.all fun o => o.guard.isNone) = true) (hk : k ≤ ops.size) (hf : freeOk (infosOf ops) k all tab = true) (hh : headOk all k = true) (hs : slotsOk all c.tmps.size = true) (hi : idxOk all = true) (h2 : seqOk (infosOf ops) l2 (2 ^ k - 1) = true)
    (hSB : ∀ w, Below w0.heap.size w0 w → S w) (stable : ∀ i v w w', Ψ i v w → Below w.heap.size w w' → Ψ i v w') (steps : StepsF P ops c Ψ mks w0 tab)
    (fin : ∀ vals a w, InvF c Ψ mks w0 k all vals (2 ^ k - 1) a w → SeqH P ops Q S l2 a w) :
    ∀ (m fuel L : Nat) (listed : Array Bool) (vals : Nat → Value) (a : Act) (w : World), ListedIs ops.size listed L → (∀ i, L.testBit i = true → i < k) → (∀ x ∈ infosOf ops, L.testBit x.1 = true → ∀ q, x.2.1.testBit q = true → L.testBit q = true) → ((List.range k).filter fun i => !L.testBit i).length = m → m + l2.length ≤ fuel →
      InvF c Ψ mks w0 k all vals L a w → wpAnyH P .any ops Q S fuel listed a w := by
  intro m
  induction m with
  | zero =>
    intro fuel L listed vals a w hL hlk _ hm hfu hI
    have e : L = 2 ^ k - 1 := by
      apply Nat.eq_of_testBit_eq
      intro i
      rw [full_bit]
      by_cases hi : i < k
      · rw [decide_eq_true hi]
        have : i ∉ (List.range k).filter fun i => !L.testBit i := by rw [List.eq_nil_of_length_eq_zero hm]; simp
        rw [List.mem_filter] at this
        have h1 : i ∈ List.range k := List.mem_range.2 hi
        cases hb : L.testBit i with
        | true => rfl
        | false => exact absurd ⟨h1, by simp [hb]⟩ this
      · rw [decide_eq_false hi]
        cases hb : L.testBit i with
        | false => rfl
        | true => exact absurd (hlk i hb) hi
    subst e
    exact seqH_any hn hQ l2 fuel _ listed a w hL (by omega) h2 (hSB _ hI.below) (fin vals a w hI)
  | succ m ih =>
    intro fuel L listed vals a w hL hlk hcl hm hfu hI
    obtain ⟨fuel, rfl⟩ : ∃ f, fuel = f + 1 := ⟨fuel - 1, by omega⟩
    -- one that is left
    have hleft : ∃ i, i < k ∧ L.testBit i = false ∧ ∀ j, j < i → L.testBit j = true := by
      obtain ⟨i, hi⟩ := List.exists_mem_of_length_pos (l := (List.range k).filter fun i => !L.testBit i) (by omega)
      have hi2 := List.mem_filter.1 hi
      have hik := List.mem_range.1 hi2.1
      have hib : L.testBit i = false := by simpa using hi2.2
      clear hi hi2
      induction i using Nat.strongRecOn with
      | ind i ihi =>
        by_cases hx : ∃ j, j < i ∧ L.testBit j = false
        · obtain ⟨j, hj, hb⟩ := hx
          exact ihi j hj (by omega) hb
        · refine ⟨i, hik, hib, fun j hj => ?_⟩
          cases hb : L.testBit j with
          | true => rfl
          | false => exact absurd ⟨j, hj, hb⟩ hx
    have key : ∀ x ∈ infosOf ops, x.1 < k → x.2.1 < 2 ^ x.1 ∧ (x.1, x.2.2.1 - 1) ∈ all ∧ x.2.2.1 ≠ 0 ∧ (x.1, all.filter fun y => x.2.2.2.testBit y.2) ∈ tab ∧ ∀ y ∈ all, x.2.2.2.testBit y.2 = true → x.2.1.testBit y.1 = true := by
      intro x hx hxk
      have h := List.all_eq_true.1 hf x hx
      rw [if_pos (by simpa using hxk)] at h
      simp only [Bool.and_eq_true, Nat.blt_eq, List.contains_iff_mem, bne_iff_ne, List.all_eq_true] at h
      refine ⟨h.1.1.1.1, h.1.1.1.2, h.1.1.2, h.1.2, fun y hy hb => h.2 y (List.mem_filter.2 ⟨hy, hb⟩)⟩
    refine ⟨fun h0 => ?_, fun j hj => ?_⟩
    · obtain ⟨i, hik, hib, hlow⟩ := hleft
      exfalso
      have hio : i < ops.size := by omega
      have ho : ops[i]? = some ops[i] := Array.getElem?_eq_getElem hio
      have hk1 := key (infoOf ops (ops[i], i)) (mem_infos.2 ⟨_, ho, rfl⟩) hik
      have : i ∈ Region.ready .any ops listed := by
        rw [ready_iff hL ho]
        unfold readyB
        rw [Bool.and_eq_true, sub_bits]
        refine ⟨by simpa [infoOf] using hib, fun q hq => hlow q ?_⟩
        have h1 : (infoOf ops (ops[i], i)).2.1 < 2 ^ i := hk1.1
        apply Nat.lt_of_not_le
        intro hle
        have h3 := Nat.ge_two_pow_of_testBit hq
        have h4 : 2 ^ i ≤ 2 ^ q := Nat.pow_le_pow_right (by omega) hle
        omega
      rw [h0] at this
      cases this
    · obtain ⟨hu, o, ho, _⟩ := mem_ready.1 hj
      have hjs := (Array.getElem?_eq_some_iff.1 ho).1
      rw [hL.un hjs] at hu
      have hr := (ready_iff hL ho).1 hj
      unfold readyB at hr
      rw [Bool.and_eq_true, sub_bits] at hr
      have hxm : infoOf ops (o, j) ∈ infosOf ops := mem_infos.2 ⟨o, ho, rfl⟩
      have hjk : j < k := by
        apply Nat.lt_of_not_le
        intro hle
        have h := List.all_eq_true.1 hf _ hxm
        rw [if_neg (by simpa [infoOf] using hle)] at h
        obtain ⟨i, hik, hib, _⟩ := hleft
        have h3 := (sub_bits (d := 2 ^ k - 1) (L := closeM (infosOf ops) k (infoOf ops (o, j)).2.1)).1 (by rw [Nat.and_comm]; exact h) i (by rw [full_bit]; exact decide_eq_true hik)
        rw [close_in hcl k _ hr.2 i h3] at hib
        cases hib
      obtain ⟨k1, k2, k3, k4, k5⟩ := key _ hxm hjk
      have hgd : o.guard = none := by
        have := List.all_eq_true.1 hg o (by simpa using Array.mem_of_getElem? ho)
        simpa using this
      have hwant : Region.wanted o (yielded ops a.tmps) = true := by simp [Region.wanted, hgd]
      have hdst : ∃ d, o.dst = some d ∧ (infoOf ops (o, j)).2.2.1 - 1 = d := by
        cases hd : o.dst with
        | none => simp [infoOf, hd] at k3
        | some d => exact ⟨d, rfl, by simp [infoOf, hd]⟩
      obtain ⟨d, hd, hdi⟩ := hdst
      have hjd : (j, d) ∈ all := by rw [← hdi]; exact k2
      have hin : ∀ y ∈ all, y.1 < k := fun y hy => by
        have := List.all_eq_true.1 hh y hy
        simpa using this
      have hev : execOp a.eval o = execOp (frA c vals (all.filter fun y => (infoOf ops (o, j)).2.2.2.testBit y.2)).eval o := by
        refine execOp_congr o (fun cs b => Region.noSelect_spec hn j o cs b ho) fun y hy => ?_
        cases y with
        | tmp t =>
          have hlook : (infoOf ops (o, j)).2.2.2.testBit t = true := (maskOf_bit _ _).2 (List.mem_append_left _ (List.mem_filterMap.2 ⟨.tmp t, by simpa using hy, rfl⟩))
          have hsl : slotsOk (all.filter fun y => (infoOf ops (o, j)).2.2.2.testBit y.2) c.tmps.size = true := slotsOk_filter _ hs
          suffices a.tmps[t]? = (frA c vals (all.filter fun y => (infoOf ops (o, j)).2.2.2.testBit y.2)).tmps[t]? by simp [Act.eval, this]
          cases hst : slotIn all t with
          | false =>
            rw [hI.off t hst, frA_off]
            cases hq : slotIn (all.filter fun y => (infoOf ops (o, j)).2.2.2.testBit y.2) t with
            | false => rfl
            | true =>
              obtain ⟨x, hx, rfl⟩ := slotIn_iff.1 hq
              rw [slotIn_iff.2 ⟨x, (List.mem_filter.1 hx).1, rfl⟩] at hst
              cases hst
          | true =>
            obtain ⟨x, hx, rfl⟩ := slotIn_iff.1 hst
            rw [hI.on x hx (hr.2 _ (k5 x hx hlook)), frA_on vals _ c hsl x (List.mem_filter.2 ⟨hx, hlook⟩)]
        | _ => rfl
      have hrun := steps.get _ k4 o ho vals w hI.below (fun y hy => by
        obtain ⟨hy1, hy2⟩ := List.mem_filter.1 hy
        exact hI.psi y.1 (hin y hy1) (hr.2 _ (k5 y hy1 hy2))) fun z hz y hy m1 m2 hne => by
        obtain ⟨hz1, hz2⟩ := List.mem_filter.1 hz
        obtain ⟨hy1, hy2⟩ := List.mem_filter.1 hy
        exact hI.ne z.1 y.1 (hin z hz1) (hin y hy1) (hr.2 _ (k5 z hz1 hz2)) (hr.2 _ (k5 y hy1 hy2)) m1 m2 hne
      have next : ∀ v w', Ψ j v w' → Below w.heap.size w w' → (j ∈ mks → ∃ b, blkV v = some b ∧ w.heap.size ≤ b ∧ b < w'.heap.size) →
          InvF c Ψ mks w0 k all (fun i => if i = j then v else vals i) (L ||| 2 ^ j) (a.put o.dst v) w' := by
        intro v w' hp hb hmk
        have hbit : ∀ i, (L ||| 2 ^ j).testBit i = true ↔ L.testBit i = true ∨ i = j := fun i => by
          rw [Nat.testBit_or, Nat.testBit_two_pow, Bool.or_eq_true, decide_eq_true_eq]
          exact ⟨fun h => h.imp id Eq.symm, fun h => h.imp id Eq.symm⟩
        have hdsz : d < c.tmps.size := by
          have : ∀ (l : List (Nat × Nat)), slotsOk l c.tmps.size = true → ∀ x ∈ l, x.2 < c.tmps.size := by
            intro l
            induction l with
            | nil => intro _ x hx; cases hx
            | cons z zs ihz =>
              intro h x hx
              simp only [slotsOk, Bool.and_eq_true, Nat.blt_eq] at h
              rcases List.mem_cons.1 hx with rfl | hx
              · exact h.1.2
              · exact ihz h.2 x hx
          exact this all hs _ hjd
        have hput : (a.put o.dst v).tmps = a.tmps.setIfInBounds d v := by rw [hd]; rfl
        refine ⟨by rw [hput]; simp [hI.size], by rw [hd]; exact hI.defers, fun t ht => ?_, fun x hx hb' => ?_, fun x hx hb' => ?_, hI.below.trans (hb.mono hI.below.size), fun i hik hbi => ?_, fun i hik hbi hm' => ?_, fun i j' hik hjk' hbi hbj hmi hmj hne => ?_⟩
        · rw [hput, Array.getElem?_setIfInBounds_ne (fun e => by rw [slotIn_iff.2 ⟨_, hjd, e⟩] at ht; cases ht)]
          exact hI.off t ht
        · rw [hput]
          by_cases e : x.1 = j
          · have hxe : x = (j, d) := idx_inj hi hx hjd e
            rw [hxe]
            simp only [if_true]
            rw [Array.getElem?_setIfInBounds_self_of_lt (by rw [hI.size]; exact hdsz)]
          · simp only [e, if_false]
            have hne : d ≠ x.2 := fun q => e (by have := slots_inj hs hjd hx q; rw [← this])
            rw [Array.getElem?_setIfInBounds_ne hne]
            exact hI.on x hx (((hbit _).1 hb').resolve_right e)
        · rw [hput]
          have e : x.1 ≠ j := fun e => by rw [(hbit x.1).2 (.inr e)] at hb'; cases hb'
          have hne : d ≠ x.2 := fun q => e (by have := slots_inj hs hjd hx q; rw [← this])
          rw [Array.getElem?_setIfInBounds_ne hne]
          refine hI.out x hx ?_
          cases hb2 : L.testBit x.1 with
          | false => rfl
          | true => rw [(hbit x.1).2 (.inl hb2)] at hb'; cases hb'
        · by_cases e : i = j
          · subst e; simp only [if_true]; exact hp
          · simp only [e, if_false]
            exact stable _ _ _ _ (hI.psi i hik (((hbit i).1 hbi).resolve_right e)) hb
        · by_cases e : i = j
          · subst e; simp only [if_true]
            obtain ⟨b, b1, b2, b3⟩ := hmk hm'
            exact ⟨b, b1, Nat.le_trans hI.below.size b2, b3⟩
          · simp only [e, if_false]
            obtain ⟨b, b1, b2, b3⟩ := hI.blk i hik (((hbit i).1 hbi).resolve_right e) hm'
            exact ⟨b, b1, b2, Nat.lt_of_lt_of_le b3 hb.size⟩
        · by_cases e : i = j
          · by_cases f : j' = j
            · exact absurd (e.trans f.symm) hne
            · subst e
              simp only [if_true, f, if_false]
              obtain ⟨b, b1, b2, b3⟩ := hmk hmi
              obtain ⟨b', c1, c2, c3⟩ := hI.blk j' hjk' (((hbit j').1 hbj).resolve_right f) hmj
              rw [b1, c1]
              intro q
              injection q with q
              omega
          · by_cases f : j' = j
            · subst f
              simp only [if_true, e, if_false]
              obtain ⟨b, b1, b2, b3⟩ := hmk hmj
              obtain ⟨b', c1, c2, c3⟩ := hI.blk i hik (((hbit i).1 hbi).resolve_right e) hmi
              rw [b1, c1]
              intro q
              injection q with q
              omega
            · simp only [e, f, if_false]
              exact hI.ne i j' hik hjk' (((hbit i).1 hbi).resolve_right e) (((hbit j').1 hbj).resolve_right f) hmi hmj hne
      have hrest : ((List.range k).filter fun i => !(L ||| 2 ^ j).testBit i).length = m := by
        have h1 := left_one (p := fun i => !L.testBit i) (j := j) (by simpa [infoOf] using hu) k
        rw [if_pos hjk, hm] at h1
        have h3 : ((List.range k).filter fun i => !(L ||| 2 ^ j).testBit i) = (List.range k).filter fun i => !L.testBit i && !(i == j) := by
          apply List.filter_congr
          intro i _
          rw [Nat.testBit_or, Nat.testBit_two_pow, Bool.not_or]
          congr 2
          by_cases e : j = i
          · subst e; simp
          · have e2 : (i == j) = false := by simpa using fun q => e q.symm
            rw [e2, decide_eq_false e]
        rw [h3]
        omega
      have go : ∀ v w', Ψ j v w' ∧ Below w.heap.size w w' ∧ (j ∈ mks → ∃ b, blkV v = some b ∧ w.heap.size ≤ b ∧ b < w'.heap.size) → S w' ∧ wpAnyH P .any ops Q S fuel (listed.setIfInBounds j true) (a.put o.dst v) w' := by
        rintro v w' ⟨h1, h2', h3⟩
        have hI' := next v w' h1 h2' h3
        refine ⟨hSB _ hI'.below, ih fuel _ _ _ _ w' (hL.next hjs) (fun i hi => ?_) (fun x hx hi q hq => ?_) hrest (by omega) hI'⟩
        · rw [Nat.testBit_or, Nat.testBit_two_pow, Bool.or_eq_true, decide_eq_true_eq] at hi
          rcases hi with hi | hi
          · exact hlk i hi
          · omega
        · rw [Nat.testBit_or, Nat.testBit_two_pow, Bool.or_eq_true, decide_eq_true_eq] at hi ⊢
          rcases hi with hi | hi
          · exact .inl (hcl x hx hi q hq)
          · refine .inl (hr.2 q ?_)
            obtain ⟨o', ho', e⟩ := mem_infos.1 hx
            rw [← hi, ho] at ho'
            obtain rfl : o = o' := by simpa using ho'
            rw [e, ← hi] at hq
            exact hq
      unfold wpOp
      simp only [ho, hwant, if_true]
      refine Or.inl ?_
      unfold Oper.wp
      rw [hev]
      rcases hrun with ⟨v, w', hrv, hK⟩ | ⟨f, vs, hrv, hc⟩
      · rw [hrv, Oper.upon_value]
        exact go v w' hK
      · rw [hrv, Oper.upon_enter]
        refine hc.mono ?_
        rintro e w' ⟨v, rfl, hK⟩
        exact go v w' hK
/-- **A region, in any order**: the first k operations by what each comes to (steps), then what waits for them all (l2). -/
theorem wp_region_free (S : World → Prop) {id : Nat} {a : Act} {w : World} (infos : List (Nat × Nat × Nat × Nat)) (k : Nat) (all : List (Nat × Nat)) (tab : List (Nat × List (Nat × Nat))) (l2 : List (Bool × Nat × Nat)) (mks : List Nat) (Ψ : Nat → Value → World → Prop)
    (hm : P.follows .mixedOrders = true) (hn : Region.noSelect ops = true) (hg : (ops.toList.all fun o => o.guard.isNone) = true) (hi : infosOf ops = infos)
    (hc : (Nat.ble (k + l2.length) ops.size && freeOk infos k all tab && headOk all k && slotsOk all a.tmps.size && idxOk all && seqOk infos l2 (2 ^ k - 1)) = true)
    (hSB : ∀ w', Below w.drew.heap.size w.drew w' → S w') (stable : ∀ i v w w', Ψ i v w → Below w.heap.size w w' → Ψ i v w') (steps : StepsF P ops a Ψ mks w.drew tab)
    (fin : ∀ vals a' w', InvF a Ψ mks w.drew k all vals (2 ^ k - 1) a' w' → SeqH P ops (NoPanic Q) S l2 a' w') : (Code.region id ops true).wp P Q a w := by
  subst hi
  simp only [Bool.and_eq_true, Nat.ble_eq] at hc
  obtain ⟨⟨⟨⟨⟨c1, c2⟩, c3⟩, c4⟩, c5⟩, c6⟩ := hc
  refine wp_region_noPanic (wp_region_held_drew (S := S) hm (hSB _ (Below.refl _ _)) fun _ => ?_)
  refine free_any hn (fun _ _ _ _ _ h => h) hg (by omega) c2 c3 c4 c5 c6 hSB stable steps fin k _ 0 _ (fun _ => undef) a _ (ListedIs.start _) (fun i h => by simp at h) (fun x _ h => by simp at h) (by simp [List.filter_eq_self.2]) (by omega) ?_
  exact ⟨rfl, rfl, fun _ _ => rfl, fun x _ h => by simp at h, fun _ _ _ => rfl, Below.refl _ _, fun i _ h => by simp at h, fun i _ h => by simp at h, fun i j _ _ h => by simp at h⟩
/-! ### Steps -/
theorem RunsTo.val {m : Sem Next} {w w' : World} {K : Value → World → Prop} {v : Value} (h : m.run P w = .ok (.value v) w') (k : K v w') : RunsTo P m w K := .inl ⟨v, w', h, k⟩
theorem RunsTo.call {m : Sem Next} {w : World} {K : Value → World → Prop} {f : FuncId} {vs : Array Value} (h : m.run P w = .ok (.enter f vs) w) (k : Calls P f vs w fun e w' => ∃ v, e = .returned v ∧ K v w') : RunsTo P m w K := .inr ⟨f, vs, h, k⟩
/-- Behind all: the frame, written out. -/
theorem InvF.frame {c : Act} {Ψ : Nat → Value → World → Prop} {mks : List Nat} {w0 : World} {k : Nat} {all : List (Nat × Nat)} {vals : Nat → Value} {a : Act} {w : World} (h : InvF c Ψ mks w0 k all vals (2 ^ k - 1) a w) (hs : slotsOk all c.tmps.size = true) (hh : headOk all k = true) : a = frA c vals all := by
  obtain ⟨at', ad⟩ := a
  have e1 : ad = (frA c vals all).defers := h.defers.trans (frA_size vals all c).2.symm
  have e2 : at' = (frA c vals all).tmps := by
    apply Array.ext_getElem?
    intro t
    cases hst : slotIn all t with
    | false => exact (h.off t hst).trans (frA_off vals all c hst).symm
    | true =>
      obtain ⟨x, hx, rfl⟩ := slotIn_iff.1 hst
      have hk : x.1 < k := by
        have := List.all_eq_true.1 hh x hx
        simpa using this
      exact (h.on x hx (by rw [full_bit]; exact decide_eq_true hk)).trans (frA_on vals all c hs x hx).symm
  rw [e1, e2]
end

section
variable {P : Program} {ops : Array Oper} {Q : Exit → Act → World → Prop} {Rl : World → World → Prop} {X : World → Prop} {jx : Nat}
/-- What a relation between worlds must be, to be carried through. -/
structure RelOk (Rl : World → World → Prop) : Prop where
  refl : ∀ w, Rl w w
  trans : ∀ {a b c}, Rl a b → Rl b c → Rl a c
  size : ∀ {a b}, Rl a b → a.heap.size ≤ b.heap.size
theorem keepsOk (F : Nat → Prop) : RelOk (Keeps F) := ⟨fun w => Keeps.refl F w, fun h k => h.trans k, fun h => h.size⟩
def StepsK (Rl : World → World → Prop) (X : World → Prop) (jx : Nat) (P : Program) (ops : Array Oper) (c : Act) (Ψ : Nat → Value → World → Prop) (mks : List Nat) (w0 : World) : List (Nat × List (Nat × Nat)) → Prop
  | [] => True
  | (j, dl) :: rest => (∀ o, ops[j]? = some o → ∀ vals w, Rl w0 w → (∀ x ∈ dl, Ψ x.1 (vals x.1) w) → (∀ x ∈ dl, ∀ y ∈ dl, x.1 ∈ mks → y.1 ∈ mks → x.1 ≠ y.1 → blkV (vals x.1) ≠ blkV (vals y.1)) → (j = jx → X w) → RunsTo P (execOp (frA c vals dl).eval o) w fun v w' => Ψ j v w' ∧ Rl w w' ∧ (j ∈ mks → ∃ b, blkV v = some b ∧ w.heap.size ≤ b ∧ b < w'.heap.size) ∧ (j ≠ jx → Below w.heap.size w w' ∧ (X w → X w'))) ∧ StepsK Rl X jx P ops c Ψ mks w0 rest
theorem StepsK.get {c : Act} {Ψ : Nat → Value → World → Prop} {mks : List Nat} {w0 : World} : ∀ {tab : List (Nat × List (Nat × Nat))}, StepsK Rl X jx P ops c Ψ mks w0 tab → ∀ x ∈ tab,
    ∀ o, ops[x.1]? = some o → ∀ vals w, Rl w0 w → (∀ y ∈ x.2, Ψ y.1 (vals y.1) w) → (∀ z ∈ x.2, ∀ y ∈ x.2, z.1 ∈ mks → y.1 ∈ mks → z.1 ≠ y.1 → blkV (vals z.1) ≠ blkV (vals y.1)) → (x.1 = jx → X w) → RunsTo P (execOp (frA c vals x.2).eval o) w fun v w' => Ψ x.1 v w' ∧ Rl w w' ∧ (x.1 ∈ mks → ∃ b, blkV v = some b ∧ w.heap.size ≤ b ∧ b < w'.heap.size) ∧ (x.1 ≠ jx → Below w.heap.size w w' ∧ (X w → X w'))
  | [], _, _, hx => nomatch hx
  | _ :: _, h, x, hx => by
    rcases List.mem_cons.1 hx with rfl | hx
    · exact h.1
    · exact h.2.get x hx
/-- What is known while they come up. -/
structure InvK (Rl : World → World → Prop) (X : World → Prop) (jx : Nat) (c : Act) (Ψ : Nat → Value → World → Prop) (mks : List Nat) (w0 : World) (k : Nat) (all : List (Nat × Nat)) (vals : Nat → Value) (L : Nat) (a : Act) (w : World) : Prop where
  size : a.tmps.size = c.tmps.size
  defers : a.defers = c.defers
  off : ∀ t, slotIn all t = false → a.tmps[t]? = c.tmps[t]?
  on : ∀ x ∈ all, L.testBit x.1 = true → a.tmps[x.2]? = some (vals x.1)
  out : ∀ x ∈ all, L.testBit x.1 = false → a.tmps[x.2]? = c.tmps[x.2]?
  below : Rl w0 w
  psi : ∀ i, i < k → L.testBit i = true → Ψ i (vals i) w
  blk : ∀ i, i < k → L.testBit i = true → i ∈ mks → ∃ b, blkV (vals i) = some b ∧ w0.heap.size ≤ b ∧ b < w.heap.size
  xx : L.testBit jx = false → X w
  ne : ∀ i j, i < k → j < k → L.testBit i = true → L.testBit j = true → i ∈ mks → j ∈ mks → i ≠ j → blkV (vals i) ≠ blkV (vals j)
set_option maxHeartbeats 1000000 in
theorem freeK_any {S : World → Prop} {c : Act} {Ψ : Nat → Value → World → Prop} {mks : List Nat} {w0 : World} {k : Nat} {all : List (Nat × Nat)} {tab : List (Nat × List (Nat × Nat))} {l2 : List (Bool × Nat × Nat)} (hn : Region.noSelect ops = true) (hQ : ∀ c a d v w, Q (.panic c) (a.put d v) w → Q (.panic c) a w)
    (hR : RelOk Rl) (hg : (ops.toList.all fun o => o.guard.isNone) = true) (hk : k ≤ ops.size) (hf : freeOk (infosOf ops) k all tab = true) (hh : headOk all k = true) (hs : slotsOk all c.tmps.size = true) (hi : idxOk all = true) (h2 : seqOk (infosOf ops) l2 (2 ^ k - 1) = true)
    (hSB : ∀ w, Rl w0 w → S w) (stable : ∀ i v w w', Ψ i v w → Below w.heap.size w w' → Ψ i v w') (stableX : ∀ i v w w', i ≠ jx → Ψ i v w → Rl w w' → Ψ i v w') (steps : StepsK Rl X jx P ops c Ψ mks w0 tab)
    (fin : ∀ vals a w, InvK Rl X jx c Ψ mks w0 k all vals (2 ^ k - 1) a w → SeqH P ops Q S l2 a w) :
    ∀ (m fuel L : Nat) (listed : Array Bool) (vals : Nat → Value) (a : Act) (w : World), ListedIs ops.size listed L → (∀ i, L.testBit i = true → i < k) → (∀ x ∈ infosOf ops, L.testBit x.1 = true → ∀ q, x.2.1.testBit q = true → L.testBit q = true) → ((List.range k).filter fun i => !L.testBit i).length = m → m + l2.length ≤ fuel →
      InvK Rl X jx c Ψ mks w0 k all vals L a w → wpAnyH P .any ops Q S fuel listed a w := by
  intro m
  induction m with
  | zero =>
    intro fuel L listed vals a w hL hlk _ hm hfu hI
    have e : L = 2 ^ k - 1 := by
      apply Nat.eq_of_testBit_eq
      intro i
      rw [full_bit]
      by_cases hi : i < k
      · rw [decide_eq_true hi]
        have : i ∉ (List.range k).filter fun i => !L.testBit i := by rw [List.eq_nil_of_length_eq_zero hm]; simp
        rw [List.mem_filter] at this
        have h1 : i ∈ List.range k := List.mem_range.2 hi
        cases hb : L.testBit i with
        | true => rfl
        | false => exact absurd ⟨h1, by simp [hb]⟩ this
      · rw [decide_eq_false hi]
        cases hb : L.testBit i with
        | false => rfl
        | true => exact absurd (hlk i hb) hi
    subst e
    exact seqH_any hn hQ l2 fuel _ listed a w hL (by omega) h2 (hSB _ hI.below) (fin vals a w hI)
  | succ m ih =>
    intro fuel L listed vals a w hL hlk hcl hm hfu hI
    obtain ⟨fuel, rfl⟩ : ∃ f, fuel = f + 1 := ⟨fuel - 1, by omega⟩
    -- one that is left
    have hleft : ∃ i, i < k ∧ L.testBit i = false ∧ ∀ j, j < i → L.testBit j = true := by
      obtain ⟨i, hi⟩ := List.exists_mem_of_length_pos (l := (List.range k).filter fun i => !L.testBit i) (by omega)
      have hi2 := List.mem_filter.1 hi
      have hik := List.mem_range.1 hi2.1
      have hib : L.testBit i = false := by simpa using hi2.2
      clear hi hi2
      induction i using Nat.strongRecOn with
      | ind i ihi =>
        by_cases hx : ∃ j, j < i ∧ L.testBit j = false
        · obtain ⟨j, hj, hb⟩ := hx
          exact ihi j hj (by omega) hb
        · refine ⟨i, hik, hib, fun j hj => ?_⟩
          cases hb : L.testBit j with
          | true => rfl
          | false => exact absurd ⟨j, hj, hb⟩ hx
    have key : ∀ x ∈ infosOf ops, x.1 < k → x.2.1 < 2 ^ x.1 ∧ (x.1, x.2.2.1 - 1) ∈ all ∧ x.2.2.1 ≠ 0 ∧ (x.1, all.filter fun y => x.2.2.2.testBit y.2) ∈ tab ∧ ∀ y ∈ all, x.2.2.2.testBit y.2 = true → x.2.1.testBit y.1 = true := by
      intro x hx hxk
      have h := List.all_eq_true.1 hf x hx
      rw [if_pos (by simpa using hxk)] at h
      simp only [Bool.and_eq_true, Nat.blt_eq, List.contains_iff_mem, bne_iff_ne, List.all_eq_true] at h
      refine ⟨h.1.1.1.1, h.1.1.1.2, h.1.1.2, h.1.2, fun y hy hb => h.2 y (List.mem_filter.2 ⟨hy, hb⟩)⟩
    refine ⟨fun h0 => ?_, fun j hj => ?_⟩
    · obtain ⟨i, hik, hib, hlow⟩ := hleft
      exfalso
      have hio : i < ops.size := by omega
      have ho : ops[i]? = some ops[i] := Array.getElem?_eq_getElem hio
      have hk1 := key (infoOf ops (ops[i], i)) (mem_infos.2 ⟨_, ho, rfl⟩) hik
      have : i ∈ Region.ready .any ops listed := by
        rw [ready_iff hL ho]
        unfold readyB
        rw [Bool.and_eq_true, sub_bits]
        refine ⟨by simpa [infoOf] using hib, fun q hq => hlow q ?_⟩
        have h1 : (infoOf ops (ops[i], i)).2.1 < 2 ^ i := hk1.1
        apply Nat.lt_of_not_le
        intro hle
        have h3 := Nat.ge_two_pow_of_testBit hq
        have h4 : 2 ^ i ≤ 2 ^ q := Nat.pow_le_pow_right (by omega) hle
        omega
      rw [h0] at this
      cases this
    · obtain ⟨hu, o, ho, _⟩ := mem_ready.1 hj
      have hjs := (Array.getElem?_eq_some_iff.1 ho).1
      rw [hL.un hjs] at hu
      have hr := (ready_iff hL ho).1 hj
      unfold readyB at hr
      rw [Bool.and_eq_true, sub_bits] at hr
      have hxm : infoOf ops (o, j) ∈ infosOf ops := mem_infos.2 ⟨o, ho, rfl⟩
      have hjk : j < k := by
        apply Nat.lt_of_not_le
        intro hle
        have h := List.all_eq_true.1 hf _ hxm
        rw [if_neg (by simpa [infoOf] using hle)] at h
        obtain ⟨i, hik, hib, _⟩ := hleft
        have h3 := (sub_bits (d := 2 ^ k - 1) (L := closeM (infosOf ops) k (infoOf ops (o, j)).2.1)).1 (by rw [Nat.and_comm]; exact h) i (by rw [full_bit]; exact decide_eq_true hik)
        rw [close_in hcl k _ hr.2 i h3] at hib
        cases hib
      obtain ⟨k1, k2, k3, k4, k5⟩ := key _ hxm hjk
      have hgd : o.guard = none := by
        have := List.all_eq_true.1 hg o (by simpa using Array.mem_of_getElem? ho)
        simpa using this
      have hwant : Region.wanted o (yielded ops a.tmps) = true := by simp [Region.wanted, hgd]
      have hdst : ∃ d, o.dst = some d ∧ (infoOf ops (o, j)).2.2.1 - 1 = d := by
        cases hd : o.dst with
        | none => simp [infoOf, hd] at k3
        | some d => exact ⟨d, rfl, by simp [infoOf, hd]⟩
      obtain ⟨d, hd, hdi⟩ := hdst
      have hjd : (j, d) ∈ all := by rw [← hdi]; exact k2
      have hin : ∀ y ∈ all, y.1 < k := fun y hy => by
        have := List.all_eq_true.1 hh y hy
        simpa using this
      have hev : execOp a.eval o = execOp (frA c vals (all.filter fun y => (infoOf ops (o, j)).2.2.2.testBit y.2)).eval o := by
        refine execOp_congr o (fun cs b => Region.noSelect_spec hn j o cs b ho) fun y hy => ?_
        cases y with
        | tmp t =>
          have hlook : (infoOf ops (o, j)).2.2.2.testBit t = true := (maskOf_bit _ _).2 (List.mem_append_left _ (List.mem_filterMap.2 ⟨.tmp t, by simpa using hy, rfl⟩))
          have hsl : slotsOk (all.filter fun y => (infoOf ops (o, j)).2.2.2.testBit y.2) c.tmps.size = true := slotsOk_filter _ hs
          suffices a.tmps[t]? = (frA c vals (all.filter fun y => (infoOf ops (o, j)).2.2.2.testBit y.2)).tmps[t]? by simp [Act.eval, this]
          cases hst : slotIn all t with
          | false =>
            rw [hI.off t hst, frA_off]
            cases hq : slotIn (all.filter fun y => (infoOf ops (o, j)).2.2.2.testBit y.2) t with
            | false => rfl
            | true =>
              obtain ⟨x, hx, rfl⟩ := slotIn_iff.1 hq
              rw [slotIn_iff.2 ⟨x, (List.mem_filter.1 hx).1, rfl⟩] at hst
              cases hst
          | true =>
            obtain ⟨x, hx, rfl⟩ := slotIn_iff.1 hst
            rw [hI.on x hx (hr.2 _ (k5 x hx hlook)), frA_on vals _ c hsl x (List.mem_filter.2 ⟨hx, hlook⟩)]
        | _ => rfl
      have hrun := steps.get _ k4 o ho vals w hI.below (fun y hy => by
        obtain ⟨hy1, hy2⟩ := List.mem_filter.1 hy
        exact hI.psi y.1 (hin y hy1) (hr.2 _ (k5 y hy1 hy2))) (fun z hz y hy m1 m2 hne => by
        obtain ⟨hz1, hz2⟩ := List.mem_filter.1 hz
        obtain ⟨hy1, hy2⟩ := List.mem_filter.1 hy
        exact hI.ne z.1 y.1 (hin z hz1) (hin y hy1) (hr.2 _ (k5 z hz1 hz2)) (hr.2 _ (k5 y hy1 hy2)) m1 m2 hne) (fun e => hI.xx (by
          have e' : j = jx := e
          rw [← e']
          simpa [infoOf] using hu))
      have next : ∀ v w', Ψ j v w' → Rl w w' → (j ∈ mks → ∃ b, blkV v = some b ∧ w.heap.size ≤ b ∧ b < w'.heap.size) → (j ≠ jx → Below w.heap.size w w' ∧ (X w → X w')) →
          InvK Rl X jx c Ψ mks w0 k all (fun i => if i = j then v else vals i) (L ||| 2 ^ j) (a.put o.dst v) w' := by
        intro v w' hp hb hmk hxx
        have hbit : ∀ i, (L ||| 2 ^ j).testBit i = true ↔ L.testBit i = true ∨ i = j := fun i => by
          rw [Nat.testBit_or, Nat.testBit_two_pow, Bool.or_eq_true, decide_eq_true_eq]
          exact ⟨fun h => h.imp id Eq.symm, fun h => h.imp id Eq.symm⟩
        have hdsz : d < c.tmps.size := by
          have : ∀ (l : List (Nat × Nat)), slotsOk l c.tmps.size = true → ∀ x ∈ l, x.2 < c.tmps.size := by
            intro l
            induction l with
            | nil => intro _ x hx; cases hx
            | cons z zs ihz =>
              intro h x hx
              simp only [slotsOk, Bool.and_eq_true, Nat.blt_eq] at h
              rcases List.mem_cons.1 hx with rfl | hx
              · exact h.1.2
              · exact ihz h.2 x hx
          exact this all hs _ hjd
        have hput : (a.put o.dst v).tmps = a.tmps.setIfInBounds d v := by rw [hd]; rfl
        refine ⟨by rw [hput]; simp [hI.size], by rw [hd]; exact hI.defers, fun t ht => ?_, fun x hx hb' => ?_, fun x hx hb' => ?_, hR.trans hI.below hb, fun i hik hbi => ?_, fun i hik hbi hm' => ?_, fun hbx => ?_, fun i j' hik hjk' hbi hbj hmi hmj hne => ?_⟩
        · rw [hput, Array.getElem?_setIfInBounds_ne (fun e => by rw [slotIn_iff.2 ⟨_, hjd, e⟩] at ht; cases ht)]
          exact hI.off t ht
        · rw [hput]
          by_cases e : x.1 = j
          · have hxe : x = (j, d) := idx_inj hi hx hjd e
            rw [hxe]
            simp only [if_true]
            rw [Array.getElem?_setIfInBounds_self_of_lt (by rw [hI.size]; exact hdsz)]
          · simp only [e, if_false]
            have hne : d ≠ x.2 := fun q => e (by have := slots_inj hs hjd hx q; rw [← this])
            rw [Array.getElem?_setIfInBounds_ne hne]
            exact hI.on x hx (((hbit _).1 hb').resolve_right e)
        · rw [hput]
          have e : x.1 ≠ j := fun e => by rw [(hbit x.1).2 (.inr e)] at hb'; cases hb'
          have hne : d ≠ x.2 := fun q => e (by have := slots_inj hs hjd hx q; rw [← this])
          rw [Array.getElem?_setIfInBounds_ne hne]
          refine hI.out x hx ?_
          cases hb2 : L.testBit x.1 with
          | false => rfl
          | true => rw [(hbit x.1).2 (.inl hb2)] at hb'; cases hb'
        · by_cases e : i = j
          · subst e; simp only [if_true]; exact hp
          · simp only [e, if_false]
            by_cases q : j = jx
            · exact stableX _ _ _ _ (by rw [← q]; exact e) (hI.psi i hik (((hbit i).1 hbi).resolve_right e)) hb
            · exact stable _ _ _ _ (hI.psi i hik (((hbit i).1 hbi).resolve_right e)) (hxx q).1
        · by_cases e : i = j
          · subst e; simp only [if_true]
            obtain ⟨b, b1, b2, b3⟩ := hmk hm'
            exact ⟨b, b1, Nat.le_trans (hR.size hI.below) b2, b3⟩
          · simp only [e, if_false]
            obtain ⟨b, b1, b2, b3⟩ := hI.blk i hik (((hbit i).1 hbi).resolve_right e) hm'
            exact ⟨b, b1, b2, Nat.lt_of_lt_of_le b3 (hR.size hb)⟩
        · have hno : ¬ (L.testBit jx = true ∨ jx = j) := fun q => by rw [(hbit jx).2 q] at hbx; cases hbx
          exact (hxx (fun q => hno (.inr q.symm))).2 (hI.xx (by
            cases q : L.testBit jx with
            | false => rfl
            | true => exact absurd (.inl q) hno))
        · by_cases e : i = j
          · by_cases f : j' = j
            · exact absurd (e.trans f.symm) hne
            · subst e
              simp only [if_true, f, if_false]
              obtain ⟨b, b1, b2, b3⟩ := hmk hmi
              obtain ⟨b', c1, c2, c3⟩ := hI.blk j' hjk' (((hbit j').1 hbj).resolve_right f) hmj
              rw [b1, c1]
              intro q
              injection q with q
              omega
          · by_cases f : j' = j
            · subst f
              simp only [if_true, e, if_false]
              obtain ⟨b, b1, b2, b3⟩ := hmk hmj
              obtain ⟨b', c1, c2, c3⟩ := hI.blk i hik (((hbit i).1 hbi).resolve_right e) hmi
              rw [b1, c1]
              intro q
              injection q with q
              omega
            · simp only [e, f, if_false]
              exact hI.ne i j' hik hjk' (((hbit i).1 hbi).resolve_right e) (((hbit j').1 hbj).resolve_right f) hmi hmj hne
      have hrest : ((List.range k).filter fun i => !(L ||| 2 ^ j).testBit i).length = m := by
        have h1 := left_one (p := fun i => !L.testBit i) (j := j) (by simpa [infoOf] using hu) k
        rw [if_pos hjk, hm] at h1
        have h3 : ((List.range k).filter fun i => !(L ||| 2 ^ j).testBit i) = (List.range k).filter fun i => !L.testBit i && !(i == j) := by
          apply List.filter_congr
          intro i _
          rw [Nat.testBit_or, Nat.testBit_two_pow, Bool.not_or]
          congr 2
          by_cases e : j = i
          · subst e; simp
          · have e2 : (i == j) = false := by simpa using fun q => e q.symm
            rw [e2, decide_eq_false e]
        rw [h3]
        omega
      have go : ∀ v w', Ψ j v w' ∧ Rl w w' ∧ (j ∈ mks → ∃ b, blkV v = some b ∧ w.heap.size ≤ b ∧ b < w'.heap.size) ∧ (j ≠ jx → Below w.heap.size w w' ∧ (X w → X w')) → S w' ∧ wpAnyH P .any ops Q S fuel (listed.setIfInBounds j true) (a.put o.dst v) w' := by
        rintro v w' ⟨h1, h2', h3, h4⟩
        have hI' := next v w' h1 h2' h3 h4
        refine ⟨hSB _ hI'.below, ih fuel _ _ _ _ w' (hL.next hjs) (fun i hi => ?_) (fun x hx hi q hq => ?_) hrest (by omega) hI'⟩
        · rw [Nat.testBit_or, Nat.testBit_two_pow, Bool.or_eq_true, decide_eq_true_eq] at hi
          rcases hi with hi | hi
          · exact hlk i hi
          · omega
        · rw [Nat.testBit_or, Nat.testBit_two_pow, Bool.or_eq_true, decide_eq_true_eq] at hi ⊢
          rcases hi with hi | hi
          · exact .inl (hcl x hx hi q hq)
          · refine .inl (hr.2 q ?_)
            obtain ⟨o', ho', e⟩ := mem_infos.1 hx
            rw [← hi, ho] at ho'
            obtain rfl : o = o' := by simpa using ho'
            rw [e, ← hi] at hq
            exact hq
      unfold wpOp
      simp only [ho, hwant, if_true]
      refine Or.inl ?_
      unfold Oper.wp
      rw [hev]
      rcases hrun with ⟨v, w', hrv, hK⟩ | ⟨f, vs, hrv, hc⟩
      · rw [hrv, Oper.upon_value]
        exact go v w' hK
      · rw [hrv, Oper.upon_enter]
        refine hc.mono ?_
        rintro e w' ⟨v, rfl, hK⟩
        exact go v w' hK
/-- **A region, in any order**: the first k operations by what each comes to (steps), then what waits for them all (l2). -/
theorem wp_region_freeK (S : World → Prop) {id : Nat} {a : Act} {w : World} (infos : List (Nat × Nat × Nat × Nat)) (k : Nat) (all : List (Nat × Nat)) (tab : List (Nat × List (Nat × Nat))) (l2 : List (Bool × Nat × Nat)) (mks : List Nat) (Ψ : Nat → Value → World → Prop)
    (hR : RelOk Rl) (hX : X w.drew) (hm : P.follows .mixedOrders = true) (hn : Region.noSelect ops = true) (hg : (ops.toList.all fun o => o.guard.isNone) = true) (hi : infosOf ops = infos)
    (hc : (Nat.ble (k + l2.length) ops.size && freeOk infos k all tab && headOk all k && slotsOk all a.tmps.size && idxOk all && seqOk infos l2 (2 ^ k - 1)) = true)
    (hSB : ∀ w', Rl w.drew w' → S w') (stable : ∀ i v w w', Ψ i v w → Below w.heap.size w w' → Ψ i v w') (stableX : ∀ i v w w', i ≠ jx → Ψ i v w → Rl w w' → Ψ i v w') (steps : StepsK Rl X jx P ops a Ψ mks w.drew tab)
    (fin : ∀ vals a' w', InvK Rl X jx a Ψ mks w.drew k all vals (2 ^ k - 1) a' w' → SeqH P ops (NoPanic Q) S l2 a' w') : (Code.region id ops true).wp P Q a w := by
  subst hi
  simp only [Bool.and_eq_true, Nat.ble_eq] at hc
  obtain ⟨⟨⟨⟨⟨c1, c2⟩, c3⟩, c4⟩, c5⟩, c6⟩ := hc
  refine wp_region_noPanic (wp_region_held_drew (S := S) hm (hSB _ (hR.refl _)) fun _ => ?_)
  refine freeK_any hn (fun _ _ _ _ _ h => h) hR hg (by omega) c2 c3 c4 c5 c6 hSB stable stableX steps fin k _ 0 _ (fun _ => undef) a _ (ListedIs.start _) (fun i h => by simp at h) (fun x _ h => by simp at h) (by simp [List.filter_eq_self.2]) (by omega) ?_
  exact ⟨rfl, rfl, fun _ _ => rfl, fun x _ h => by simp at h, fun _ _ _ => rfl, hR.refl _, fun i _ h => by simp at h, fun i _ h => by simp at h, fun _ => hX, fun i j _ _ h => by simp at h⟩
/-- Behind all: the frame, written out. -/
theorem InvK.frame {c : Act} {Ψ : Nat → Value → World → Prop} {mks : List Nat} {w0 : World} {k : Nat} {all : List (Nat × Nat)} {vals : Nat → Value} {a : Act} {w : World} (h : InvK Rl X jx c Ψ mks w0 k all vals (2 ^ k - 1) a w) (hs : slotsOk all c.tmps.size = true) (hh : headOk all k = true) : a = frA c vals all := by
  obtain ⟨at', ad⟩ := a
  have e1 : ad = (frA c vals all).defers := h.defers.trans (frA_size vals all c).2.symm
  have e2 : at' = (frA c vals all).tmps := by
    apply Array.ext_getElem?
    intro t
    cases hst : slotIn all t with
    | false => exact (h.off t hst).trans (frA_off vals all c hst).symm
    | true =>
      obtain ⟨x, hx, rfl⟩ := slotIn_iff.1 hst
      have hk : x.1 < k := by
        have := List.all_eq_true.1 hh x hx
        simpa using this
      exact (h.on x hx (by rw [full_bit]; exact decide_eq_true hk)).trans (frA_on vals all c hs x hx).symm
  rw [e1, e2]
end

section
variable {P : Program} {ops : Array Oper} {Q : Exit → Act → World → Prop} {cps : List (Nat × Nat)}
def StepsS (cps : List (Nat × Nat)) (P : Program) (ops : Array Oper) (c : Act) (Ψ : Nat → Value → Nat × Nat → World → Prop) (mks : List Nat) (w0 : World) : List (Nat × List (Nat × Nat)) → Prop
  | [] => True
  | (j, dl) :: rest => (∀ o, ops[j]? = some o → ∀ vals (sp : Nat → Nat × Nat) w, Below w0.heap.size w0 w → (∀ x ∈ dl, Ψ x.1 (vals x.1) (sp x.1) w) → (∀ x ∈ dl, ∀ y ∈ dl, x.1 ∈ mks → y.1 ∈ mks → x.1 ≠ y.1 → ((sp x.1 : Nat × Nat).2 ≤ (sp y.1).1 ∨ (sp y.1).2 ≤ (sp x.1).1)) → RunsTo P (execOp (frA c vals dl).eval o) w fun v w' => ∃ g : Nat × Nat, Ψ j v g w' ∧ Below w.heap.size w w' ∧ (j ∈ mks → w.heap.size ≤ g.1 ∧ g.2 ≤ w'.heap.size) ∧ ∀ p ∈ cps, p.1 = j → v = vals p.2) ∧ StepsS cps P ops c Ψ mks w0 rest
theorem StepsS.get {c : Act} {Ψ : Nat → Value → Nat × Nat → World → Prop} {mks : List Nat} {w0 : World} : ∀ {tab : List (Nat × List (Nat × Nat))}, StepsS cps P ops c Ψ mks w0 tab → ∀ x ∈ tab,
    ∀ o, ops[x.1]? = some o → ∀ vals (sp : Nat → Nat × Nat) w, Below w0.heap.size w0 w → (∀ y ∈ x.2, Ψ y.1 (vals y.1) (sp y.1) w) → (∀ z ∈ x.2, ∀ y ∈ x.2, z.1 ∈ mks → y.1 ∈ mks → z.1 ≠ y.1 → ((sp z.1 : Nat × Nat).2 ≤ (sp y.1).1 ∨ (sp y.1).2 ≤ (sp z.1).1)) → RunsTo P (execOp (frA c vals x.2).eval o) w fun v w' => ∃ g : Nat × Nat, Ψ x.1 v g w' ∧ Below w.heap.size w w' ∧ (x.1 ∈ mks → w.heap.size ≤ g.1 ∧ g.2 ≤ w'.heap.size) ∧ ∀ p ∈ cps, p.1 = x.1 → v = vals p.2
  | [], _, _, hx => nomatch hx
  | _ :: _, h, x, hx => by
    rcases List.mem_cons.1 hx with rfl | hx
    · exact h.1
    · exact h.2.get x hx
/-- What is known while they come up. -/
structure InvS (cps : List (Nat × Nat)) (c : Act) (Ψ : Nat → Value → Nat × Nat → World → Prop) (mks : List Nat) (w0 : World) (k : Nat) (all : List (Nat × Nat)) (vals : Nat → Value) (sp : Nat → Nat × Nat) (L : Nat) (a : Act) (w : World) : Prop where
  size : a.tmps.size = c.tmps.size
  defers : a.defers = c.defers
  off : ∀ t, slotIn all t = false → a.tmps[t]? = c.tmps[t]?
  on : ∀ x ∈ all, L.testBit x.1 = true → a.tmps[x.2]? = some (vals x.1)
  out : ∀ x ∈ all, L.testBit x.1 = false → a.tmps[x.2]? = c.tmps[x.2]?
  below : Below w0.heap.size w0 w
  psi : ∀ i, i < k → L.testBit i = true → Ψ i (vals i) (sp i) w
  blk : ∀ i, i < k → L.testBit i = true → i ∈ mks → w0.heap.size ≤ (sp i).1 ∧ (sp i).2 ≤ w.heap.size
  eqs : ∀ p ∈ cps, L.testBit p.1 = true → L.testBit p.2 = true ∧ vals p.1 = vals p.2
  ne : ∀ i j, i < k → j < k → L.testBit i = true → L.testBit j = true → i ∈ mks → j ∈ mks → i ≠ j → (sp i).2 ≤ (sp j).1 ∨ (sp j).2 ≤ (sp i).1
set_option maxHeartbeats 1000000 in
theorem freeS_any {S : World → Prop} {c : Act} {Ψ : Nat → Value → Nat × Nat → World → Prop} {mks : List Nat} {w0 : World} {k : Nat} {all : List (Nat × Nat)} {tab : List (Nat × List (Nat × Nat))} {l2 : List (Bool × Nat × Nat)} (hn : Region.noSelect ops = true) (hQ : ∀ c a d v w, Q (.panic c) (a.put d v) w → Q (.panic c) a w)
    (hg : (ops.toList.all fun o => o.guard.isNone) = true) (hk : k ≤ ops.size) (hf : freeOk (infosOf ops) k all tab = true) (hh : headOk all k = true) (hs : slotsOk all c.tmps.size = true) (hi : idxOk all = true) (h2 : seqOk (infosOf ops) l2 (2 ^ k - 1) = true) (hcp : (cps.all fun p => (infosOf ops).all fun x => !(x.1 == p.1) || x.2.1.testBit p.2) = true)
    (hSB : ∀ w, Below w0.heap.size w0 w → S w) (stable : ∀ i v g w w', Ψ i v g w → Below w.heap.size w w' → Ψ i v g w') (steps : StepsS cps P ops c Ψ mks w0 tab)
    (fin : ∀ vals sp a w, InvS cps c Ψ mks w0 k all vals sp (2 ^ k - 1) a w → SeqH P ops Q S l2 a w) :
    ∀ (m fuel L : Nat) (listed : Array Bool) (vals : Nat → Value) (sp : Nat → Nat × Nat) (a : Act) (w : World), ListedIs ops.size listed L → (∀ i, L.testBit i = true → i < k) → (∀ x ∈ infosOf ops, L.testBit x.1 = true → ∀ q, x.2.1.testBit q = true → L.testBit q = true) → ((List.range k).filter fun i => !L.testBit i).length = m → m + l2.length ≤ fuel →
      InvS cps c Ψ mks w0 k all vals sp L a w → wpAnyH P .any ops Q S fuel listed a w := by
  intro m
  induction m with
  | zero =>
    intro fuel L listed vals sp a w hL hlk _ hm hfu hI
    have e : L = 2 ^ k - 1 := by
      apply Nat.eq_of_testBit_eq
      intro i
      rw [full_bit]
      by_cases hi : i < k
      · rw [decide_eq_true hi]
        have : i ∉ (List.range k).filter fun i => !L.testBit i := by rw [List.eq_nil_of_length_eq_zero hm]; simp
        rw [List.mem_filter] at this
        have h1 : i ∈ List.range k := List.mem_range.2 hi
        cases hb : L.testBit i with
        | true => rfl
        | false => exact absurd ⟨h1, by simp [hb]⟩ this
      · rw [decide_eq_false hi]
        cases hb : L.testBit i with
        | false => rfl
        | true => exact absurd (hlk i hb) hi
    subst e
    exact seqH_any hn hQ l2 fuel _ listed a w hL (by omega) h2 (hSB _ hI.below) (fin vals sp a w hI)
  | succ m ih =>
    intro fuel L listed vals sp a w hL hlk hcl hm hfu hI
    obtain ⟨fuel, rfl⟩ : ∃ f, fuel = f + 1 := ⟨fuel - 1, by omega⟩
    -- one that is left
    have hleft : ∃ i, i < k ∧ L.testBit i = false ∧ ∀ j, j < i → L.testBit j = true := by
      obtain ⟨i, hi⟩ := List.exists_mem_of_length_pos (l := (List.range k).filter fun i => !L.testBit i) (by omega)
      have hi2 := List.mem_filter.1 hi
      have hik := List.mem_range.1 hi2.1
      have hib : L.testBit i = false := by simpa using hi2.2
      clear hi hi2
      induction i using Nat.strongRecOn with
      | ind i ihi =>
        by_cases hx : ∃ j, j < i ∧ L.testBit j = false
        · obtain ⟨j, hj, hb⟩ := hx
          exact ihi j hj (by omega) hb
        · refine ⟨i, hik, hib, fun j hj => ?_⟩
          cases hb : L.testBit j with
          | true => rfl
          | false => exact absurd ⟨j, hj, hb⟩ hx
    have key : ∀ x ∈ infosOf ops, x.1 < k → x.2.1 < 2 ^ x.1 ∧ (x.1, x.2.2.1 - 1) ∈ all ∧ x.2.2.1 ≠ 0 ∧ (x.1, all.filter fun y => x.2.2.2.testBit y.2) ∈ tab ∧ ∀ y ∈ all, x.2.2.2.testBit y.2 = true → x.2.1.testBit y.1 = true := by
      intro x hx hxk
      have h := List.all_eq_true.1 hf x hx
      rw [if_pos (by simpa using hxk)] at h
      simp only [Bool.and_eq_true, Nat.blt_eq, List.contains_iff_mem, bne_iff_ne, List.all_eq_true] at h
      refine ⟨h.1.1.1.1, h.1.1.1.2, h.1.1.2, h.1.2, fun y hy hb => h.2 y (List.mem_filter.2 ⟨hy, hb⟩)⟩
    refine ⟨fun h0 => ?_, fun j hj => ?_⟩
    · obtain ⟨i, hik, hib, hlow⟩ := hleft
      exfalso
      have hio : i < ops.size := by omega
      have ho : ops[i]? = some ops[i] := Array.getElem?_eq_getElem hio
      have hk1 := key (infoOf ops (ops[i], i)) (mem_infos.2 ⟨_, ho, rfl⟩) hik
      have : i ∈ Region.ready .any ops listed := by
        rw [ready_iff hL ho]
        unfold readyB
        rw [Bool.and_eq_true, sub_bits]
        refine ⟨by simpa [infoOf] using hib, fun q hq => hlow q ?_⟩
        have h1 : (infoOf ops (ops[i], i)).2.1 < 2 ^ i := hk1.1
        apply Nat.lt_of_not_le
        intro hle
        have h3 := Nat.ge_two_pow_of_testBit hq
        have h4 : 2 ^ i ≤ 2 ^ q := Nat.pow_le_pow_right (by omega) hle
        omega
      rw [h0] at this
      cases this
    · obtain ⟨hu, o, ho, _⟩ := mem_ready.1 hj
      have hjs := (Array.getElem?_eq_some_iff.1 ho).1
      rw [hL.un hjs] at hu
      have hr := (ready_iff hL ho).1 hj
      unfold readyB at hr
      rw [Bool.and_eq_true, sub_bits] at hr
      have hxm : infoOf ops (o, j) ∈ infosOf ops := mem_infos.2 ⟨o, ho, rfl⟩
      have hjk : j < k := by
        apply Nat.lt_of_not_le
        intro hle
        have h := List.all_eq_true.1 hf _ hxm
        rw [if_neg (by simpa [infoOf] using hle)] at h
        obtain ⟨i, hik, hib, _⟩ := hleft
        have h3 := (sub_bits (d := 2 ^ k - 1) (L := closeM (infosOf ops) k (infoOf ops (o, j)).2.1)).1 (by rw [Nat.and_comm]; exact h) i (by rw [full_bit]; exact decide_eq_true hik)
        rw [close_in hcl k _ hr.2 i h3] at hib
        cases hib
      obtain ⟨k1, k2, k3, k4, k5⟩ := key _ hxm hjk
      have hgd : o.guard = none := by
        have := List.all_eq_true.1 hg o (by simpa using Array.mem_of_getElem? ho)
        simpa using this
      have hwant : Region.wanted o (yielded ops a.tmps) = true := by simp [Region.wanted, hgd]
      have hdst : ∃ d, o.dst = some d ∧ (infoOf ops (o, j)).2.2.1 - 1 = d := by
        cases hd : o.dst with
        | none => simp [infoOf, hd] at k3
        | some d => exact ⟨d, rfl, by simp [infoOf, hd]⟩
      obtain ⟨d, hd, hdi⟩ := hdst
      have hjd : (j, d) ∈ all := by rw [← hdi]; exact k2
      have hin : ∀ y ∈ all, y.1 < k := fun y hy => by
        have := List.all_eq_true.1 hh y hy
        simpa using this
      have hev : execOp a.eval o = execOp (frA c vals (all.filter fun y => (infoOf ops (o, j)).2.2.2.testBit y.2)).eval o := by
        refine execOp_congr o (fun cs b => Region.noSelect_spec hn j o cs b ho) fun y hy => ?_
        cases y with
        | tmp t =>
          have hlook : (infoOf ops (o, j)).2.2.2.testBit t = true := (maskOf_bit _ _).2 (List.mem_append_left _ (List.mem_filterMap.2 ⟨.tmp t, by simpa using hy, rfl⟩))
          have hsl : slotsOk (all.filter fun y => (infoOf ops (o, j)).2.2.2.testBit y.2) c.tmps.size = true := slotsOk_filter _ hs
          suffices a.tmps[t]? = (frA c vals (all.filter fun y => (infoOf ops (o, j)).2.2.2.testBit y.2)).tmps[t]? by simp [Act.eval, this]
          cases hst : slotIn all t with
          | false =>
            rw [hI.off t hst, frA_off]
            cases hq : slotIn (all.filter fun y => (infoOf ops (o, j)).2.2.2.testBit y.2) t with
            | false => rfl
            | true =>
              obtain ⟨x, hx, rfl⟩ := slotIn_iff.1 hq
              rw [slotIn_iff.2 ⟨x, (List.mem_filter.1 hx).1, rfl⟩] at hst
              cases hst
          | true =>
            obtain ⟨x, hx, rfl⟩ := slotIn_iff.1 hst
            rw [hI.on x hx (hr.2 _ (k5 x hx hlook)), frA_on vals _ c hsl x (List.mem_filter.2 ⟨hx, hlook⟩)]
        | _ => rfl
      have hrun := steps.get _ k4 o ho vals sp w hI.below (fun y hy => by
        obtain ⟨hy1, hy2⟩ := List.mem_filter.1 hy
        exact hI.psi y.1 (hin y hy1) (hr.2 _ (k5 y hy1 hy2))) fun z hz y hy m1 m2 hne => by
        obtain ⟨hz1, hz2⟩ := List.mem_filter.1 hz
        obtain ⟨hy1, hy2⟩ := List.mem_filter.1 hy
        exact hI.ne z.1 y.1 (hin z hz1) (hin y hy1) (hr.2 _ (k5 z hz1 hz2)) (hr.2 _ (k5 y hy1 hy2)) m1 m2 hne
      have next : ∀ v (g : Nat × Nat) w', Ψ j v g w' → Below w.heap.size w w' → (j ∈ mks → w.heap.size ≤ g.1 ∧ g.2 ≤ w'.heap.size) → (∀ p ∈ cps, p.1 = j → v = vals p.2) →
          InvS cps c Ψ mks w0 k all (fun i => if i = j then v else vals i) (fun i => if i = j then g else sp i) (L ||| 2 ^ j) (a.put o.dst v) w' := by
        intro v g w' hp hb hmk hcv
        have hbit : ∀ i, (L ||| 2 ^ j).testBit i = true ↔ L.testBit i = true ∨ i = j := fun i => by
          rw [Nat.testBit_or, Nat.testBit_two_pow, Bool.or_eq_true, decide_eq_true_eq]
          exact ⟨fun h => h.imp id Eq.symm, fun h => h.imp id Eq.symm⟩
        have hdsz : d < c.tmps.size := by
          have : ∀ (l : List (Nat × Nat)), slotsOk l c.tmps.size = true → ∀ x ∈ l, x.2 < c.tmps.size := by
            intro l
            induction l with
            | nil => intro _ x hx; cases hx
            | cons z zs ihz =>
              intro h x hx
              simp only [slotsOk, Bool.and_eq_true, Nat.blt_eq] at h
              rcases List.mem_cons.1 hx with rfl | hx
              · exact h.1.2
              · exact ihz h.2 x hx
          exact this all hs _ hjd
        have hput : (a.put o.dst v).tmps = a.tmps.setIfInBounds d v := by rw [hd]; rfl
        refine ⟨by rw [hput]; simp [hI.size], by rw [hd]; exact hI.defers, fun t ht => ?_, fun x hx hb' => ?_, fun x hx hb' => ?_, hI.below.trans (hb.mono hI.below.size), fun i hik hbi => ?_, fun i hik hbi hm' => ?_, fun p hp hbp => ?_, fun i j' hik hjk' hbi hbj hmi hmj hne => ?_⟩
        · rw [hput, Array.getElem?_setIfInBounds_ne (fun e => by rw [slotIn_iff.2 ⟨_, hjd, e⟩] at ht; cases ht)]
          exact hI.off t ht
        · rw [hput]
          by_cases e : x.1 = j
          · have hxe : x = (j, d) := idx_inj hi hx hjd e
            rw [hxe]
            simp only [if_true]
            rw [Array.getElem?_setIfInBounds_self_of_lt (by rw [hI.size]; exact hdsz)]
          · simp only [e, if_false]
            have hne : d ≠ x.2 := fun q => e (by have := slots_inj hs hjd hx q; rw [← this])
            rw [Array.getElem?_setIfInBounds_ne hne]
            exact hI.on x hx (((hbit _).1 hb').resolve_right e)
        · rw [hput]
          have e : x.1 ≠ j := fun e => by rw [(hbit x.1).2 (.inr e)] at hb'; cases hb'
          have hne : d ≠ x.2 := fun q => e (by have := slots_inj hs hjd hx q; rw [← this])
          rw [Array.getElem?_setIfInBounds_ne hne]
          refine hI.out x hx ?_
          cases hb2 : L.testBit x.1 with
          | false => rfl
          | true => rw [(hbit x.1).2 (.inl hb2)] at hb'; cases hb'
        · by_cases e : i = j
          · subst e; simp only [if_true]; exact hp
          · simp only [e, if_false]
            exact stable _ _ _ _ _ (hI.psi i hik (((hbit i).1 hbi).resolve_right e)) hb
        · by_cases e : i = j
          · subst e; simp only [if_true]
            have := hmk hm'
            have := hI.below.size
            omega
          · simp only [e, if_false]
            have := hI.blk i hik (((hbit i).1 hbi).resolve_right e) hm'
            have := hb.size
            omega
        · by_cases e : p.1 = j
          · have hw : L.testBit p.2 = true := hr.2 _ (by
              have h1 := List.all_eq_true.1 (List.all_eq_true.1 hcp p hp) (infoOf ops (o, j)) (mem_infos.2 ⟨o, ho, rfl⟩)
              simpa [infoOf, e] using h1)
            refine ⟨(hbit _).2 (.inl hw), ?_⟩
            rw [if_pos e]
            have h2 := hcv p hp e
            split
            · rfl
            · exact h2
          · obtain ⟨h1, h2⟩ := hI.eqs p hp (((hbit p.1).1 hbp).resolve_right e)
            refine ⟨(hbit _).2 (.inl h1), ?_⟩
            have h3 : p.2 ≠ j := fun q => by
              have hu' : L.testBit j = false := by simpa [infoOf] using hu
              rw [q, hu'] at h1
              cases h1
            rw [if_neg e, if_neg h3]
            exact h2
        · by_cases e : i = j
          · by_cases f : j' = j
            · exact absurd (e.trans f.symm) hne
            · subst e
              simp only [if_true, f, if_false]
              have h1 := hmk hmi
              have h2 := hI.blk j' hjk' (((hbit j').1 hbj).resolve_right f) hmj
              omega
          · by_cases f : j' = j
            · subst f
              simp only [if_true, e, if_false]
              have h1 := hmk hmj
              have h2 := hI.blk i hik (((hbit i).1 hbi).resolve_right e) hmi
              omega
            · simp only [e, f, if_false]
              exact hI.ne i j' hik hjk' (((hbit i).1 hbi).resolve_right e) (((hbit j').1 hbj).resolve_right f) hmi hmj hne
      have hrest : ((List.range k).filter fun i => !(L ||| 2 ^ j).testBit i).length = m := by
        have h1 := left_one (p := fun i => !L.testBit i) (j := j) (by simpa [infoOf] using hu) k
        rw [if_pos hjk, hm] at h1
        have h3 : ((List.range k).filter fun i => !(L ||| 2 ^ j).testBit i) = (List.range k).filter fun i => !L.testBit i && !(i == j) := by
          apply List.filter_congr
          intro i _
          rw [Nat.testBit_or, Nat.testBit_two_pow, Bool.not_or]
          congr 2
          by_cases e : j = i
          · subst e; simp
          · have e2 : (i == j) = false := by simpa using fun q => e q.symm
            rw [e2, decide_eq_false e]
        rw [h3]
        omega
      have go : ∀ v w', (∃ g : Nat × Nat, Ψ j v g w' ∧ Below w.heap.size w w' ∧ (j ∈ mks → w.heap.size ≤ g.1 ∧ g.2 ≤ w'.heap.size) ∧ ∀ p ∈ cps, p.1 = j → v = vals p.2) → S w' ∧ wpAnyH P .any ops Q S fuel (listed.setIfInBounds j true) (a.put o.dst v) w' := by
        rintro v w' ⟨g, h1, h2', h3, h4⟩
        have hI' := next v g w' h1 h2' h3 h4
        refine ⟨hSB _ hI'.below, ih fuel _ _ _ _ _ w' (hL.next hjs) (fun i hi => ?_) (fun x hx hi q hq => ?_) hrest (by omega) hI'⟩
        · rw [Nat.testBit_or, Nat.testBit_two_pow, Bool.or_eq_true, decide_eq_true_eq] at hi
          rcases hi with hi | hi
          · exact hlk i hi
          · omega
        · rw [Nat.testBit_or, Nat.testBit_two_pow, Bool.or_eq_true, decide_eq_true_eq] at hi ⊢
          rcases hi with hi | hi
          · exact .inl (hcl x hx hi q hq)
          · refine .inl (hr.2 q ?_)
            obtain ⟨o', ho', e⟩ := mem_infos.1 hx
            rw [← hi, ho] at ho'
            obtain rfl : o = o' := by simpa using ho'
            rw [e, ← hi] at hq
            exact hq
      unfold wpOp
      simp only [ho, hwant, if_true]
      refine Or.inl ?_
      unfold Oper.wp
      rw [hev]
      rcases hrun with ⟨v, w', hrv, hK⟩ | ⟨f, vs, hrv, hc⟩
      · rw [hrv, Oper.upon_value]
        exact go v w' hK
      · rw [hrv, Oper.upon_enter]
        refine hc.mono ?_
        rintro e w' ⟨v, rfl, hK⟩
        exact go v w' hK
/-- **A region, in any order**: the first k operations by what each comes to (steps), then what waits for them all (l2). -/
theorem wp_region_freeS (S : World → Prop) {id : Nat} {a : Act} {w : World} (infos : List (Nat × Nat × Nat × Nat)) (k : Nat) (all : List (Nat × Nat)) (tab : List (Nat × List (Nat × Nat))) (l2 : List (Bool × Nat × Nat)) (mks : List Nat) (Ψ : Nat → Value → Nat × Nat → World → Prop)
    (hm : P.follows .mixedOrders = true) (hn : Region.noSelect ops = true) (hg : (ops.toList.all fun o => o.guard.isNone) = true) (hi : infosOf ops = infos)
    (hcp : (cps.all fun p => infos.all fun x => !(x.1 == p.1) || x.2.1.testBit p.2) = true) (hc : (Nat.ble (k + l2.length) ops.size && freeOk infos k all tab && headOk all k && slotsOk all a.tmps.size && idxOk all && seqOk infos l2 (2 ^ k - 1)) = true)
    (hSB : ∀ w', Below w.drew.heap.size w.drew w' → S w') (stable : ∀ i v g w w', Ψ i v g w → Below w.heap.size w w' → Ψ i v g w') (steps : StepsS cps P ops a Ψ mks w.drew tab)
    (fin : ∀ vals sp a' w', InvS cps a Ψ mks w.drew k all vals sp (2 ^ k - 1) a' w' → SeqH P ops (NoPanic Q) S l2 a' w') : (Code.region id ops true).wp P Q a w := by
  subst hi
  simp only [Bool.and_eq_true, Nat.ble_eq] at hc
  obtain ⟨⟨⟨⟨⟨c1, c2⟩, c3⟩, c4⟩, c5⟩, c6⟩ := hc
  refine wp_region_noPanic (wp_region_held_drew (S := S) hm (hSB _ (Below.refl _ _)) fun _ => ?_)
  refine freeS_any hn (fun _ _ _ _ _ h => h) hg (by omega) c2 c3 c4 c5 c6 hcp hSB stable steps fin k _ 0 _ (fun _ => undef) (fun _ => (0, 0)) a _ (ListedIs.start _) (fun i h => by simp at h) (fun x _ h => by simp at h) (by simp [List.filter_eq_self.2]) (by omega) ?_
  exact ⟨rfl, rfl, fun _ _ => rfl, fun x _ h => by simp at h, fun _ _ _ => rfl, Below.refl _ _, fun i _ h => by simp at h, fun i _ h => by simp at h, fun p _ h => by simp at h, fun i j _ _ h => by simp at h⟩
/-- Behind all: the frame, written out. -/
theorem InvS.frame {c : Act} {Ψ : Nat → Value → Nat × Nat → World → Prop} {mks : List Nat} {w0 : World} {k : Nat} {all : List (Nat × Nat)} {vals : Nat → Value} {sp : Nat → Nat × Nat} {a : Act} {w : World} (h : InvS cps c Ψ mks w0 k all vals sp (2 ^ k - 1) a w) (hs : slotsOk all c.tmps.size = true) (hh : headOk all k = true) : a = frA c vals all := by
  obtain ⟨at', ad⟩ := a
  have e1 : ad = (frA c vals all).defers := h.defers.trans (frA_size vals all c).2.symm
  have e2 : at' = (frA c vals all).tmps := by
    apply Array.ext_getElem?
    intro t
    cases hst : slotIn all t with
    | false => exact (h.off t hst).trans (frA_off vals all c hst).symm
    | true =>
      obtain ⟨x, hx, rfl⟩ := slotIn_iff.1 hst
      have hk : x.1 < k := by
        have := List.all_eq_true.1 hh x hx
        simpa using this
      exact (h.on x hx (by rw [full_bit]; exact decide_eq_true hk)).trans (frA_on vals all c hs x hx).symm
  rw [e1, e2]
end

end Go.Proofs.YtekhgidbnpfmnaaGreatDoor
