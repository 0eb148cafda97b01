/- Ways through numbered places, who stands ahead of whom (Lengauer and Tarjan), a list counted out. Nothing of any program. -/
import Derived.WalkKit
namespace Go.Proofs.YtggiaopdgijgnaaDoor
namespace Gra
/-- How many of a list's numbers are less. -/
def under (F : List Int) (q : Int) : Nat := F.countP fun x => decide (x < q)
theorem under_succ (F : List Int) (q : Int) : under F (q + 1) = under F q + F.count q := by
  unfold under List.count
  induction F with
  | nil => rfl
  | cons x F ih =>
    rw [List.countP_cons, List.countP_cons, List.countP_cons, ih]
    have e1 : (if decide (x < q + 1) = true then 1 else 0 : Nat) = (if decide (x < q) = true then 1 else 0) + (if (x == q) = true then 1 else 0) := by
      simp only [decide_eq_true_eq, beq_iff_eq]
      by_cases h : x = q
      · rw [if_pos (by omega), if_neg (by omega), if_pos h]
      · by_cases h2 : x < q
        · rw [if_pos (by omega), if_pos h2, if_neg h]
        · rw [if_neg (by omega), if_neg h2, if_neg h]
    omega
theorem under_le (F : List Int) (q : Int) : under F q ≤ F.length := List.countP_le_length
theorem under_mono (F : List Int) {q r : Int} (h : q ≤ r) : under F q ≤ under F r := by
  unfold under
  exact List.countP_mono_left fun x _ hx => by simp at *; omega
theorem under_none {F : List Int} {q : Int} (h : ∀ x ∈ F, q ≤ x) : under F q = 0 := by
  unfold under
  rw [List.countP_eq_zero]
  intro x hx
  have := h x hx
  simp; omega
theorem under_all {F : List Int} {q : Int} (h : ∀ x ∈ F, x < q) : under F q = F.length := by
  unfold under
  rw [List.countP_eq_length]
  intro x hx
  simpa using h x hx
theorem count_take_le (F : List Int) (q : Int) (t : Nat) : (F.take t).count q ≤ F.count q := (List.take_sublist t F).count_le q
theorem count_step (F : List Int) (q : Int) {t : Nat} (h : t < F.length) : (F.take (t + 1)).count q = (F.take t).count q + if F[t] = q then 1 else 0 := by
  rw [List.take_succ_eq_append_getElem h, List.count_append, List.count_singleton]
  congr 1
  by_cases e : F[t] = q <;> simp [e]
theorem count_before {F : List Int} {q : Int} {s t : Nat} (hst : s < t) (hs : s < F.length) (e : F[s] = q) : (F.take s).count q < (F.take t).count q := by
  have h1 := count_step F q hs
  rw [if_pos e] at h1
  have h2 : (F.take (s + 1)).count q ≤ (F.take t).count q := by
    have := count_take_le (F.take t) q (s + 1)
    rwa [List.take_take, Nat.min_eq_left (by omega)] at this
  omega
/-- Where the number at place s goes. -/
def posn (F : List Int) (s : Nat) (q : Int) : Nat := under F q + (F.take s).count q
theorem posn_lt {F : List Int} {s : Nat} {q : Int} (hs : s < F.length) (e : F[s] = q) : posn F s q < under F (q + 1) := by
  unfold posn
  rw [under_succ]
  have := count_before (t := F.length) hs hs e
  rw [List.take_length] at this
  omega
theorem posn_ne {F : List Int} {s t : Nat} {q r : Int} (hst : s < t) (ht : t < F.length) (e : F[s] = q) (f : F[t] = r) : posn F s q ≠ posn F t r := by
  have h1 := posn_lt (by omega) e
  have h2 := posn_lt ht f
  rcases Int.lt_trichotomy q r with c | c | c
  · have := under_mono F (show q + 1 ≤ r by omega)
    unfold posn at *
    omega
  · subst c
    have := count_before hst (by omega) e
    unfold posn
    omega
  · have := under_mono F (show r + 1 ≤ q by omega)
    unfold posn at *
    omega
/-- Each of them comes up. -/
theorem count_hits (F : List Int) (q : Int) {j : Nat} (h : j < F.count q) : ∃ s, ∃ hs : s < F.length, F[s] = q ∧ (F.take s).count q = j := by
  have key : ∀ t, t ≤ F.length → j < (F.take t).count q → ∃ s, ∃ hs : s < F.length, F[s] = q ∧ (F.take s).count q = j := by
    intro t
    induction t with
    | zero => intro _ h; simp at h
    | succ t ih =>
      intro ht hj
      rw [count_step F q (by omega)] at hj
      by_cases e : F[t] = q
      · rw [if_pos e] at hj
        rcases Nat.lt_or_ge j ((F.take t).count q) with c | c
        · exact ih (by omega) c
        · exact ⟨t, by omega, e, by omega⟩
      · rw [if_neg e] at hj
        exact ih (by omega) (by omega)
  exact key F.length (Nat.le_refl _) (by rwa [List.take_length])

/-- Where lists of lists begin. -/
def offs (L : List (List Int)) (p : Nat) : Nat := (L.take p).flatten.length
theorem offs_succ {L : List (List Int)} {p : Nat} (h : p < L.length) : offs L (p + 1) = offs L p + L[p].length := by
  unfold offs
  rw [List.take_succ_eq_append_getElem h, List.flatten_append, List.length_append]
  simp
theorem offs_mono {L : List (List Int)} {p q : Nat} (h : p ≤ q) : offs L p ≤ offs L q := by
  unfold offs
  have : L.take q = L.take p ++ (L.take q).drop p := by
    conv => lhs; rw [← List.take_append_drop p (L.take q)]
    rw [List.take_take, Nat.min_eq_left h]
  rw [this, List.flatten_append, List.length_append]
  omega
theorem offs_all (L : List (List Int)) : offs L L.length = L.flatten.length := by unfold offs; rw [List.take_length]
theorem flat_at {L : List (List Int)} {p j : Nat} (h : p < L.length) (hj : j < L[p].length) : L.flatten[offs L p + j]? = some L[p][j] := by
  have e : L.flatten = (L.take p).flatten ++ (L[p] ++ (L.drop (p + 1)).flatten) := by
    conv => lhs; rw [← List.take_append_drop p L]
    rw [List.flatten_append, List.drop_eq_getElem_cons h, List.flatten_cons]
  rw [e, List.getElem?_append_right (by unfold offs; omega)]
  unfold offs
  rw [Nat.add_sub_cancel_left, List.getElem?_append_left hj, List.getElem?_eq_getElem hj]
theorem flat_from {L : List (List Int)} {s : Nat} (h : s < L.flatten.length) : ∃ p, ∃ hp : p < L.length, ∃ j, j < L[p].length ∧ s = offs L p + j := by
  have key : ∀ n, n ≤ L.length → s < offs L n → ∃ p, ∃ hp : p < L.length, ∃ j, j < L[p].length ∧ s = offs L p + j := by
    intro n
    induction n with
    | zero => intro _ h; simp [offs] at h
    | succ n ih =>
      intro hn hs
      rcases Nat.lt_or_ge s (offs L n) with c | c
      · exact ih (by omega) c
      · rw [offs_succ (by omega)] at hs
        exact ⟨n, by omega, s - offs L n, by omega, by omega⟩
  exact key L.length (Nat.le_refl _) (by rw [offs_all]; exact h)
/-- What has been put where: of all ways ahead of the place p, and j of its own. -/
def Put (L : List (List Int)) (to : Nat → Int) (p j : Nat) : Prop :=
  ∀ p', ∀ hp : p' < L.length, ∀ j', ∀ hj : j' < L[p'].length, (p' < p ∨ p' = p ∧ j' < j) → to (posn L.flatten (offs L p' + j') L[p'][j']) = (p' : Int)
theorem Put.zero (L : List (List Int)) (to : Nat → Int) : Put L to 0 0 := fun p' _ j' _ h => by omega
theorem Put.line {L : List (List Int)} {to : Nat → Int} {p : Nat} (hp : p < L.length) (h : Put L to p L[p].length) : Put L to (p + 1) 0 := fun p' hp' j' hj' c => by
  rcases c with c | c
  · rcases Nat.lt_or_ge p' p with d | d
    · exact h p' hp' j' hj' (.inl d)
    · obtain rfl : p' = p := by omega
      exact h p' hp' j' hj' (.inr ⟨rfl, hj'⟩)
  · omega
theorem Put.next {L : List (List Int)} {to : Nat → Int} {p j : Nat} (hp : p < L.length) (hj : j < L[p].length) (h : Put L to p j) :
    Put L (fun i => if i = posn L.flatten (offs L p + j) L[p][j] then (p : Int) else to i) p (j + 1) := fun p' hp' j' hj' c => by
  have e1 := flat_at hp hj
  have e2 := flat_at hp' hj'
  obtain ⟨l1, e1⟩ := List.getElem?_eq_some_iff.1 e1
  obtain ⟨l2, e2⟩ := List.getElem?_eq_some_iff.1 e2
  by_cases d : p' = p ∧ j' = j
  · obtain ⟨rfl, rfl⟩ := d
    exact if_pos rfl
  · have hlt : offs L p' + j' < offs L p + j := by
      rcases c with c | ⟨rfl, c⟩
      · have h1 := offs_succ hp'
        have h2 := offs_mono (L := L) (show p' + 1 ≤ p by omega)
        omega
      · omega
    exact (if_neg (posn_ne hlt l1 e2 e1)).trans (h p' hp' j' hj' (by omega))
/-- Behind all: the part of each place holds just those that lead to it. -/
theorem Put.mem {L : List (List Int)} {to : Nat → Int} (h : Put L to L.length 0) (q x : Int) :
    (∃ i, under L.flatten q ≤ i ∧ i < under L.flatten (q + 1) ∧ to i = x) ↔ ∃ p : Nat, ∃ hp : p < L.length, x = p ∧ q ∈ L[p] := by
  constructor
  · rintro ⟨i, h1, h2, rfl⟩
    rw [under_succ] at h2
    obtain ⟨s, hs, e, hc⟩ := count_hits L.flatten q (j := i - under L.flatten q) (by omega)
    obtain ⟨p, hp, j, hj, rfl⟩ := flat_from hs
    have e1 := flat_at hp hj
    obtain ⟨l1, e1⟩ := List.getElem?_eq_some_iff.1 e1
    have e3 : L[p][j] = q := e1.symm.trans e
    refine ⟨p, hp, ?_, by rw [← e3]; exact List.getElem_mem _⟩
    have := h p hp j hj (.inl hp)
    rw [e3] at this
    unfold posn at this
    rw [hc, show under L.flatten q + (i - under L.flatten q) = i by omega] at this
    exact this
  · rintro ⟨p, hp, rfl, hq⟩
    obtain ⟨j, hj, e⟩ := List.mem_iff_getElem.1 hq
    have e1 := flat_at hp hj
    obtain ⟨l1, e1⟩ := List.getElem?_eq_some_iff.1 e1
    refine ⟨posn L.flatten (offs L p + j) q, by unfold posn; omega, posn_lt l1 (e1.trans e), ?_⟩
    have := h p hp j hj (.inl hp)
    rw [e] at this
    exact this

/-- A way from x to y, each place of which is fit. -/
inductive Fw (E : Nat → Nat → Prop) (ok : Nat → Prop) : Nat → Nat → Prop
  | nil {x : Nat} : ok x → Fw E ok x x
  | cons {x z y : Nat} : ok x → E x z → Fw E ok z y → Fw E ok x y
theorem Fw.fst {E : Nat → Nat → Prop} {ok : Nat → Prop} {x y : Nat} (h : Fw E ok x y) : ok x := by
  cases h <;> assumption
theorem Fw.lst {E : Nat → Nat → Prop} {ok : Nat → Prop} {x y : Nat} (h : Fw E ok x y) : ok y := by
  induction h with
  | nil h => exact h
  | cons _ _ _ ih => exact ih
theorem Fw.mono {E : Nat → Nat → Prop} {ok ok' : Nat → Prop} {x y : Nat} (h : Fw E ok x y) (k : ∀ v, ok v → ok' v) : Fw E ok' x y := by
  induction h with
  | nil h => exact .nil (k _ h)
  | cons h e _ ih => exact .cons (k _ h) e ih
theorem Fw.trans {E : Nat → Nat → Prop} {ok : Nat → Prop} {x y z : Nat} (h : Fw E ok x y) (k : Fw E ok y z) : Fw E ok x z := by
  induction h with
  | nil _ => exact k
  | cons h e _ ih => exact .cons h e (ih k)
theorem Fw.snoc {E : Nat → Nat → Prop} {ok : Nat → Prop} {x y z : Nat} (h : Fw E ok x y) (e : E y z) (hz : ok z) : Fw E ok x z :=
  h.trans (.cons h.lst e (.nil hz))
/-- One who stands above another one in a tree that is told by parents. -/
inductive Anc (par : Nat → Nat) : Nat → Nat → Prop
  | refl (a : Nat) : Anc par a a
  | up {a b : Nat} : 0 < b → Anc par a (par b) → Anc par a b
/-- A way to k through places greater than k. -/
inductive Hi (E : Nat → Nat → Prop) (k : Nat) : Nat → Prop
  | one {x : Nat} : E x k → Hi E k x
  | more {x y : Nat} : E x y → k < y → Hi E k y → Hi E k x

/-- Numbers that a walk gave that goes deeper ahead of wider. -/
structure Deep (m : Nat) (E : Nat → Nat → Prop) (par : Nat → Nat) : Prop where
  pos : 0 < m
  lim : ∀ x y, E x y → x < m ∧ y < m
  lt : ∀ k, 0 < k → k < m → par k < k
  tree : ∀ k, 0 < k → k < m → E (par k) k
  down : ∀ x y, E x y → x < y → Anc par x y
  iv : ∀ a b c, c < m → Anc par a c → a ≤ b → b ≤ c → Anc par a b

section
variable {m : Nat} {E : Nat → Nat → Prop} {par : Nat → Nat}
theorem Anc.le {lt : ∀ k, 0 < k → k < m → par k < k} {a b : Nat} (h : Anc par a b) (hb : b < m) : a ≤ b := by
  induction h with
  | refl => exact Nat.le_refl _
  | up h0 _ ih =>
    have := lt _ h0 hb
    have := ih (by omega)
    omega
theorem Anc.trans {a b c : Nat} (h : Anc par a b) (k : Anc par b c) : Anc par a c := by
  induction k with
  | refl => exact h
  | up h0 _ ih => exact .up h0 ih
variable (D : Deep m E par)
include D
theorem Deep.anc_le {a b : Nat} (h : Anc par a b) (hb : b < m) : a ≤ b := h.le (lt := D.lt) hb
theorem Deep.root {b : Nat} (hb : b < m) : Anc par 0 b := by
  induction b using Nat.strongRecOn with
  | ind b ih =>
    rcases Nat.eq_zero_or_pos b with h | h
    · subst h; exact .refl 0
    · have := D.lt b h hb
      exact .up h (ih _ this (by omega))
/-- The way down the tree. -/
theorem Deep.fall {a b : Nat} (h : Anc par a b) (hb : b < m) : Fw E (fun v => a ≤ v ∧ v ≤ b) a b := by
  induction h with
  | refl => exact .nil ⟨Nat.le_refl _, Nat.le_refl _⟩
  | @up b h0 hh ih =>
    have h1 := D.lt _ h0 hb
    have h2 := D.anc_le hh (by omega)
    exact ((ih (by omega)).mono fun v hv => ⟨hv.1, by omega⟩).snoc (D.tree _ h0 hb) ⟨by omega, Nat.le_refl _⟩
theorem Deep.hi_lt {k x : Nat} (h : Hi E k x) : x < m ∧ k < m := by
  induction h with
  | one e => exact D.lim _ _ e
  | more e _ _ ih => exact ⟨(D.lim _ _ e).1, ih.2⟩
/-- Who leads to k through greater ones, and is less, stands above it. -/
theorem Deep.hi_anc {k x : Nat} (h : Hi E k x) (hx : x < k) : Anc par x k := by
  cases h with
  | one e => exact D.down _ _ e hx
  | more e hk h =>
    exact D.iv _ _ _ (D.lim _ _ e).2 (D.down _ _ e (by omega)) (by omega) (by omega)
omit D in
theorem Hi.fw {k x : Nat} (h : Hi E k x) : E x k ∨ ∃ y, E x y ∧ k < y ∧ ∃ q, Fw E (fun v => k < v) y q ∧ E q k := by
  induction h with
  | one e => exact .inl e
  | more e hk _ ih =>
    refine .inr ⟨_, e, hk, ?_⟩
    rcases ih with h | ⟨y', e', hk', q, h1, h2⟩
    · exact ⟨_, .nil hk, h⟩
    · exact ⟨q, .cons hk e' h1, h2⟩
omit D in
/-- From a way of such as are greater, with a first one. -/
theorem Hi.of_fw {k x y : Nat} (h : Fw E (fun v => k < v) x y) (e : E y k) : Hi E k x := by
  induction h with
  | nil _ => exact .one e
  | cons _ e' h ih => exact .more e' h.fst (ih e)
/-- On each way that ends below d there is one to which one leads through greater ones. -/
theorem Deep.first {ok : Nat → Prop} {v q : Nat} (h : Fw E ok v q) (hq : q < m) :
    ∃ u, ok u ∧ Anc par u q ∧ (v = u ∨ (u < v ∧ Hi E u v)) := by
  induction h with
  | nil h => exact ⟨_, h, .refl _, .inl rfl⟩
  | @cons v z q hv e h ih =>
    obtain ⟨u, hu, ha, hz⟩ := ih hq
    have hl := D.lim _ _ e
    rcases Nat.lt_trichotomy u v with c | c | c
    · refine ⟨u, hu, ha, .inr ⟨c, ?_⟩⟩
      rcases hz with rfl | ⟨h1, h2⟩
      · exact .one e
      · exact .more e h1 h2
    · exact ⟨u, hu, ha, .inl c.symm⟩
    · refine ⟨v, hv, .trans ?_ ha, .inl rfl⟩
      rcases hz with rfl | ⟨h1, h2⟩
      · exact D.down _ _ e c
      · exact D.iv _ _ _ hl.2 (D.down _ _ e (by omega)) (by omega) (by omega)
/-- The same below d: either the way crosses d by one that stands below it, or all is below it. -/
theorem Deep.cross {d k v : Nat} (hd : d < k) (hk : k < m) (h : Fw E (· ≠ d) v k) :
    (∃ y x, Anc par y k ∧ d < y ∧ x < d ∧ Hi E y x) ∨ ∃ u, Anc par u k ∧ d < u ∧ (v = u ∨ (u < v ∧ Hi E u v)) := by
  induction h with
  | nil h => exact .inr ⟨_, .refl _, hd, .inl rfl⟩
  | @cons v z q hv e h ih =>
    rcases ih hd hk with h | ⟨u, ha, hu, hz⟩
    · exact .inl h
    · clear ih
      have hl := D.lim _ _ e
      have hi : u < v ∨ v < d → Hi E u v := fun _ => by
        rcases hz with rfl | ⟨h1, h2⟩
        · exact .one e
        · exact .more e h1 h2
      rcases Nat.lt_or_ge v d with c | c
      · exact .inl ⟨u, v, ha, hu, c, hi (.inr c)⟩
      · rcases Nat.lt_trichotomy u v with c' | c' | c'
        · exact .inr ⟨u, ha, hu, .inr ⟨c', hi (.inl c')⟩⟩
        · exact .inr ⟨u, ha, hu, .inl c'.symm⟩
        · refine .inr ⟨v, .trans ?_ ha, by omega, .inl rfl⟩
          rcases hz with rfl | ⟨h1, h2⟩
          · exact D.down _ _ e c'
          · exact D.iv _ _ _ hl.2 (D.down _ _ e (by omega)) (by omega) (by omega)
theorem Deep.crossed {d k x : Nat} (hx : x < d) (hd : d < k) (hk : k < m) (h : Fw E (· ≠ d) x k) : ∃ y x', Anc par y k ∧ d < y ∧ x' < d ∧ Hi E y x' := by
  rcases D.cross hd hk h with h | ⟨u, _, hu, h | h⟩
  · exact h
  · omega
  · omega
end

/-- All ways to b have a on them. -/
def Dom (E : Nat → Nat → Prop) (a b : Nat) : Prop := ¬ Fw E (· ≠ a) 0 b

section
variable {m : Nat} {E : Nat → Nat → Prop} {par : Nat → Nat} (D : Deep m E par)
include D
omit D in
theorem Dom.self (b : Nat) : Dom E b b := fun h => h.lst rfl
theorem Deep.dom_le {a b : Nat} (hb : b < m) (h : Dom E a b) : a ≤ b := by
  refine Nat.le_of_not_lt fun c => h ?_
  exact (D.fall (D.root hb) hb).mono fun v hv => by omega
omit D in
theorem Dom.trans {a b c : Nat} (h : Dom E a b) (k : Dom E b c) (hab : ∀ x, Fw E (· ≠ a) x c → Fw E (fun v => v ≠ a ∧ v ≠ b) x c ∨ Fw E (· ≠ a) x b) : Dom E a c := fun q => (hab 0 q).elim (fun q => k (q.mono fun _ h => h.2)) h
omit D in
theorem fw_split {a b x c : Nat} (q : Fw E (· ≠ a) x c) : Fw E (fun v => v ≠ a ∧ v ≠ b) x c ∨ Fw E (· ≠ a) x b := by
  induction q with
  | @nil x h =>
    by_cases e : x = b
    · subst e; exact .inr (.nil h)
    · exact .inl (.nil ⟨h, e⟩)
  | @cons x z c h e _ ih =>
    by_cases e' : x = b
    · subst e'; exact .inr (.nil h)
    · rcases ih with k | k
      · exact .inl (.cons ⟨h, e'⟩ e k)
      · exact .inr (.cons h e k)
omit D in
theorem Dom.tr {a b c : Nat} (h : Dom E a b) (k : Dom E b c) : Dom E a c := h.trans k fun _ => fw_split

/-- The least from which one comes to k through greater ones. -/
structure Semi (m : Nat) (E : Nat → Nat → Prop) (sd : Nat → Nat) : Prop where
  hi : ∀ k, 0 < k → k < m → Hi E k (sd k)
  least : ∀ k, 0 < k → k < m → ∀ x, Hi E k x → sd k ≤ x
variable {sd : Nat → Nat} (S : Semi m E sd)
include S
theorem Semi.lt {k : Nat} (h0 : 0 < k) (hk : k < m) : sd k < k := by
  have := S.least k h0 hk _ (.one (D.tree k h0 hk))
  have := D.lt k h0 hk
  omega
theorem Semi.anc {k : Nat} (h0 : 0 < k) (hk : k < m) : Anc par (sd k) k := D.hi_anc (S.hi k h0 hk) (S.lt D h0 hk)
omit D in
/-- From a place through greater ones than k to k, without one that is less than k. -/
theorem Semi.way {k a : Nat} (h0 : 0 < k) (hk : k < m) (ha : a < k) (q : Fw E (· ≠ a) 0 (sd k)) : Fw E (· ≠ a) 0 k := by
  rcases (S.hi k h0 hk).fw with e | ⟨y, e, hy, z, h1, h2⟩
  · exact q.snoc e (by omega)
  · exact (q.trans (.cons q.lst e (h1.mono fun v hv => by omega))).snoc h2 (by omega)
/-- Who stands ahead of k stands ahead of its least one. -/
theorem Semi.above {k a : Nat} (h0 : 0 < k) (hk : k < m) (h : Dom E a k) (hne : a ≠ k) : Dom E a (sd k) := fun q => by
  have := D.dom_le hk h
  exact h (S.way h0 hk (by omega) q)
/-- The nearest that stands ahead of each. -/
structure Near (m : Nat) (par : Nat → Nat) (sd near : Nat → Nat) : Prop where
  one : ∀ k, 0 < k → k < m → (near k = sd k ∧ ∀ u, Anc par u k → sd k < u → sd k ≤ sd u) ∨
    ∃ u, Anc par u k ∧ sd k < u ∧ u < k ∧ sd u < sd k ∧ near k = near u ∧ ∀ v, Anc par v k → sd k < v → sd u ≤ sd v
variable {near : Nat → Nat} (M : Near m par sd near)
include M
theorem Near.lt {k : Nat} (h0 : 0 < k) (hk : k < m) : near k < k := by
  induction k using Nat.strongRecOn with
  | ind k ih =>
    rcases M.one k h0 hk with ⟨h, _⟩ | ⟨u, _, h1, h2, _, h4, _⟩
    · rw [h]; exact S.lt D h0 hk
    · rw [h4]
      have := ih u h2 (by omega) (by omega)
      omega
theorem Near.dom {k : Nat} (h0 : 0 < k) (hk : k < m) (a : Nat) : Dom E a k ↔ a = k ∨ Dom E a (near k) := by
  induction k using Nat.strongRecOn generalizing a with
  | ind k ih =>
    have hs := S.lt D h0 hk
    rcases M.one k h0 hk with ⟨h, hm⟩ | ⟨u, hu, h1, h2, h3, h4, h5⟩
    · rw [h]
      have hself : Dom E (sd k) k := fun q => by
        rcases Nat.eq_zero_or_pos (sd k) with z | z
        · exact q.fst z.symm
        · obtain ⟨y, x, a1, a2, a3, a4⟩ := D.crossed z hs hk q
          have b1 := hm y a1 a2
          have b2 := S.least y (by omega) (Nat.lt_of_le_of_lt (D.anc_le a1 hk) hk) x a4
          omega
      constructor
      · intro q
        by_cases e : a = k
        · exact .inl e
        · exact .inr (S.above D h0 hk q e)
      · rintro (rfl | q)
        · exact Dom.self _
        · exact q.tr hself
    · rw [h4]
      have hu0 : 0 < u := by omega
      have hum : u < m := by omega
      have IH := ih u h2 hu0 hum
      have hdu := M.lt D S hu0 hum
      have hd : Dom E (near u) u := (IH (near u)).2 (.inr (Dom.self _))
      have hds : near u ≤ sd u := D.dom_le (by have := S.lt D hu0 hum; omega) (S.above D hu0 hum hd (by omega))
      have hself : Dom E (near u) k := fun q => by
        rcases Nat.eq_zero_or_pos (near u) with z | z
        · exact q.fst z.symm
        · obtain ⟨y, x, a1, a2, a3, a4⟩ := D.crossed z (by omega) hk q
          have hym : y < m := Nat.lt_of_le_of_lt (D.anc_le a1 hk) hk
          have b2 := S.least y (by omega) hym x a4
          have b3 : ¬ sd k < y := fun c => by have := h5 y a1 c; omega
          have hyu : Anc par y u := by
            have : ∀ c, Anc par u c → c < m → ∀ y, Anc par y c → y ≤ u → Anc par y u := by
              intro c hc hcm y hy hyu
              exact D.iv _ _ _ hcm hy hyu (D.anc_le hc hcm)
            exact this k hu hk y a1 (by omega)
          have q1 : Fw E (· ≠ near u) 0 (sd y) := (D.fall (D.root (by have := S.lt D (by omega : 0 < y) hym; omega)) (by have := S.lt D (by omega : 0 < y) hym; omega)).mono fun v hv => by omega
          have q2 := S.way (by omega) hym a2 q1
          exact hd (q2.trans ((D.fall hyu hum).mono fun v hv => by omega))
      constructor
      · intro q
        by_cases e : a = k
        · exact .inl e
        · refine .inr (((IH a).1 ?_).resolve_left ?_)
          · intro r
            have h9 := D.dom_le (by omega) (S.above D h0 hk q e)
            exact q (r.trans ((D.fall hu hk).mono fun v hv => by omega))
          · have h9 := D.dom_le (by omega) (S.above D h0 hk q e)
            omega
      · rintro (rfl | q)
        · exact Dom.self _
        · exact q.tr hself
/-- Who stands ahead is who stands above in the tree of the nearest. -/
theorem Near.anc {k : Nat} (hk : k < m) (a : Nat) : Dom E a k ↔ Anc near a k := by
  induction k using Nat.strongRecOn with
  | ind k ih =>
    rcases Nat.eq_zero_or_pos k with h | h0
    · subst h
      constructor
      · intro q
        have := D.dom_le hk q
        obtain rfl : a = 0 := by omega
        exact .refl 0
      · intro q
        cases q with
        | refl => exact Dom.self _
        | up h _ => omega
    · rw [M.dom D S h0 hk, ih _ (M.lt D S h0 hk) (by have := M.lt D S h0 hk; omega)]
      constructor
      · rintro (rfl | q)
        · exact .refl _
        · exact .up h0 q
      · intro q
        cases q with
        | refl => exact .inl rfl
        | up _ h => exact .inr h
end
end Gra
end Go.Proofs.YtggiaopdgijgnaaDoor
