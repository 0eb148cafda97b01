/- Of no program: turned ways and Lengauer's and Tarjan's theorem; the walk as a machine and what it reaches; its numbers; Kahn's way; the forest; spans. -/
import Derived.WalkKit
import Derived.Test.YtggiaopdgijgnaaGreatDoorElsM
import Derived.Test.YtggiaopdgijgnaaGreatDoorMak
namespace Go.Proofs.YtggiaopdgijgnaaGreatDoor
open Go.RowKit

namespace Gra
/-- How many of a list's numbers are less. -/
def under (F : List Int) (q : Int) : Nat := F.countP fun x => decide (x < q)
theorem under_succ (F : List Int) (q : Int) : under F (q + 1) = under F q + F.count q := by
  unfold under List.count
  induction F with
  | nil => rfl
  | cons x F ih =>
    rw [List.countP_cons, List.countP_cons, List.countP_cons, ih]
    have e1 : (if decide (x < q + 1) = true then 1 else 0 : Nat) = (if decide (x < q) = true then 1 else 0) + (if (x == q) = true then 1 else 0) := by
      simp only [decide_eq_true_eq, beq_iff_eq]
      by_cases h : x = q
      · rw [if_pos (by omega), if_neg (by omega), if_pos h]
      · by_cases h2 : x < q
        · rw [if_pos (by omega), if_pos h2, if_neg h]
        · rw [if_neg (by omega), if_neg h2, if_neg h]
    omega
theorem under_le (F : List Int) (q : Int) : under F q ≤ F.length := List.countP_le_length
theorem under_mono (F : List Int) {q r : Int} (h : q ≤ r) : under F q ≤ under F r := by
  unfold under
  exact List.countP_mono_left fun x _ hx => by simp at *; omega
theorem under_none {F : List Int} {q : Int} (h : ∀ x ∈ F, q ≤ x) : under F q = 0 := by
  unfold under
  rw [List.countP_eq_zero]
  intro x hx
  have := h x hx
  simp; omega
theorem under_all {F : List Int} {q : Int} (h : ∀ x ∈ F, x < q) : under F q = F.length := by
  unfold under
  rw [List.countP_eq_length]
  intro x hx
  simpa using h x hx
theorem count_take_le (F : List Int) (q : Int) (t : Nat) : (F.take t).count q ≤ F.count q := (List.take_sublist t F).count_le q
theorem count_step (F : List Int) (q : Int) {t : Nat} (h : t < F.length) : (F.take (t + 1)).count q = (F.take t).count q + if F[t] = q then 1 else 0 := by
  rw [List.take_succ_eq_append_getElem h, List.count_append, List.count_singleton]
  congr 1
  by_cases e : F[t] = q <;> simp [e]
theorem count_before {F : List Int} {q : Int} {s t : Nat} (hst : s < t) (hs : s < F.length) (e : F[s] = q) : (F.take s).count q < (F.take t).count q := by
  have h1 := count_step F q hs
  rw [if_pos e] at h1
  have h2 : (F.take (s + 1)).count q ≤ (F.take t).count q := by
    have := count_take_le (F.take t) q (s + 1)
    rwa [List.take_take, Nat.min_eq_left (by omega)] at this
  omega
/-- Where the number at place s goes. -/
def posn (F : List Int) (s : Nat) (q : Int) : Nat := under F q + (F.take s).count q
theorem posn_lt {F : List Int} {s : Nat} {q : Int} (hs : s < F.length) (e : F[s] = q) : posn F s q < under F (q + 1) := by
  unfold posn
  rw [under_succ]
  have := count_before (t := F.length) hs hs e
  rw [List.take_length] at this
  omega
theorem posn_ne {F : List Int} {s t : Nat} {q r : Int} (hst : s < t) (ht : t < F.length) (e : F[s] = q) (f : F[t] = r) : posn F s q ≠ posn F t r := by
  have h1 := posn_lt (by omega) e
  have h2 := posn_lt ht f
  rcases Int.lt_trichotomy q r with c | c | c
  · have := under_mono F (show q + 1 ≤ r by omega)
    unfold posn at *
    omega
  · subst c
    have := count_before hst (by omega) e
    unfold posn
    omega
  · have := under_mono F (show r + 1 ≤ q by omega)
    unfold posn at *
    omega
/-- Each of them comes up. -/
theorem count_hits (F : List Int) (q : Int) {j : Nat} (h : j < F.count q) : ∃ s, ∃ hs : s < F.length, F[s] = q ∧ (F.take s).count q = j := by
  have key : ∀ t, t ≤ F.length → j < (F.take t).count q → ∃ s, ∃ hs : s < F.length, F[s] = q ∧ (F.take s).count q = j := by
    intro t
    induction t with
    | zero => intro _ h; simp at h
    | succ t ih =>
      intro ht hj
      rw [count_step F q (by omega)] at hj
      by_cases e : F[t] = q
      · rw [if_pos e] at hj
        rcases Nat.lt_or_ge j ((F.take t).count q) with c | c
        · exact ih (by omega) c
        · exact ⟨t, by omega, e, by omega⟩
      · rw [if_neg e] at hj
        exact ih (by omega) (by omega)
  exact key F.length (Nat.le_refl _) (by rwa [List.take_length])

/-- Where lists of lists begin. -/
def offs (L : List (List Int)) (p : Nat) : Nat := (L.take p).flatten.length
theorem offs_succ {L : List (List Int)} {p : Nat} (h : p < L.length) : offs L (p + 1) = offs L p + L[p].length := by
  unfold offs
  rw [List.take_succ_eq_append_getElem h, List.flatten_append, List.length_append]
  simp
theorem offs_mono {L : List (List Int)} {p q : Nat} (h : p ≤ q) : offs L p ≤ offs L q := by
  unfold offs
  have : L.take q = L.take p ++ (L.take q).drop p := by
    conv => lhs; rw [← List.take_append_drop p (L.take q)]
    rw [List.take_take, Nat.min_eq_left h]
  rw [this, List.flatten_append, List.length_append]
  omega
theorem offs_all (L : List (List Int)) : offs L L.length = L.flatten.length := by unfold offs; rw [List.take_length]
theorem flat_at {L : List (List Int)} {p j : Nat} (h : p < L.length) (hj : j < L[p].length) : L.flatten[offs L p + j]? = some L[p][j] := by
  have e : L.flatten = (L.take p).flatten ++ (L[p] ++ (L.drop (p + 1)).flatten) := by
    conv => lhs; rw [← List.take_append_drop p L]
    rw [List.flatten_append, List.drop_eq_getElem_cons h, List.flatten_cons]
  rw [e, List.getElem?_append_right (by unfold offs; omega)]
  unfold offs
  rw [Nat.add_sub_cancel_left, List.getElem?_append_left hj, List.getElem?_eq_getElem hj]
theorem flat_from {L : List (List Int)} {s : Nat} (h : s < L.flatten.length) : ∃ p, ∃ hp : p < L.length, ∃ j, j < L[p].length ∧ s = offs L p + j := by
  have key : ∀ n, n ≤ L.length → s < offs L n → ∃ p, ∃ hp : p < L.length, ∃ j, j < L[p].length ∧ s = offs L p + j := by
    intro n
    induction n with
    | zero => intro _ h; simp [offs] at h
    | succ n ih =>
      intro hn hs
      rcases Nat.lt_or_ge s (offs L n) with c | c
      · exact ih (by omega) c
      · rw [offs_succ (by omega)] at hs
        exact ⟨n, by omega, s - offs L n, by omega, by omega⟩
  exact key L.length (Nat.le_refl _) (by rw [offs_all]; exact h)
/-- What has been put where: of all ways ahead of the place p, and j of its own. -/
def Put (L : List (List Int)) (to : Nat → Int) (p j : Nat) : Prop :=
  ∀ p', ∀ hp : p' < L.length, ∀ j', ∀ hj : j' < L[p'].length, (p' < p ∨ p' = p ∧ j' < j) → to (posn L.flatten (offs L p' + j') L[p'][j']) = (p' : Int)
theorem Put.zero (L : List (List Int)) (to : Nat → Int) : Put L to 0 0 := fun p' _ j' _ h => by omega
theorem Put.line {L : List (List Int)} {to : Nat → Int} {p : Nat} (hp : p < L.length) (h : Put L to p L[p].length) : Put L to (p + 1) 0 := fun p' hp' j' hj' c => by
  rcases c with c | c
  · rcases Nat.lt_or_ge p' p with d | d
    · exact h p' hp' j' hj' (.inl d)
    · obtain rfl : p' = p := by omega
      exact h p' hp' j' hj' (.inr ⟨rfl, hj'⟩)
  · omega
theorem Put.next {L : List (List Int)} {to : Nat → Int} {p j : Nat} (hp : p < L.length) (hj : j < L[p].length) (h : Put L to p j) :
    Put L (fun i => if i = posn L.flatten (offs L p + j) L[p][j] then (p : Int) else to i) p (j + 1) := fun p' hp' j' hj' c => by
  have e1 := flat_at hp hj
  have e2 := flat_at hp' hj'
  obtain ⟨l1, e1⟩ := List.getElem?_eq_some_iff.1 e1
  obtain ⟨l2, e2⟩ := List.getElem?_eq_some_iff.1 e2
  by_cases d : p' = p ∧ j' = j
  · obtain ⟨rfl, rfl⟩ := d
    exact if_pos rfl
  · have hlt : offs L p' + j' < offs L p + j := by
      rcases c with c | ⟨rfl, c⟩
      · have h1 := offs_succ hp'
        have h2 := offs_mono (L := L) (show p' + 1 ≤ p by omega)
        omega
      · omega
    exact (if_neg (posn_ne hlt l1 e2 e1)).trans (h p' hp' j' hj' (by omega))
/-- Behind all: the part of each place holds just those that lead to it. -/
theorem Put.mem {L : List (List Int)} {to : Nat → Int} (h : Put L to L.length 0) (q x : Int) :
    (∃ i, under L.flatten q ≤ i ∧ i < under L.flatten (q + 1) ∧ to i = x) ↔ ∃ p : Nat, ∃ hp : p < L.length, x = p ∧ q ∈ L[p] := by
  constructor
  · rintro ⟨i, h1, h2, rfl⟩
    rw [under_succ] at h2
    obtain ⟨s, hs, e, hc⟩ := count_hits L.flatten q (j := i - under L.flatten q) (by omega)
    obtain ⟨p, hp, j, hj, rfl⟩ := flat_from hs
    have e1 := flat_at hp hj
    obtain ⟨l1, e1⟩ := List.getElem?_eq_some_iff.1 e1
    have e3 : L[p][j] = q := e1.symm.trans e
    refine ⟨p, hp, ?_, by rw [← e3]; exact List.getElem_mem _⟩
    have := h p hp j hj (.inl hp)
    rw [e3] at this
    unfold posn at this
    rw [hc, show under L.flatten q + (i - under L.flatten q) = i by omega] at this
    exact this
  · rintro ⟨p, hp, rfl, hq⟩
    obtain ⟨j, hj, e⟩ := List.mem_iff_getElem.1 hq
    have e1 := flat_at hp hj
    obtain ⟨l1, e1⟩ := List.getElem?_eq_some_iff.1 e1
    refine ⟨posn L.flatten (offs L p + j) q, by unfold posn; omega, posn_lt l1 (e1.trans e), ?_⟩
    have := h p hp j hj (.inl hp)
    rw [e] at this
    exact this

/-- A way from x to y, each place of which is fit. -/
inductive Fw (E : Nat → Nat → Prop) (ok : Nat → Prop) : Nat → Nat → Prop
  | nil {x : Nat} : ok x → Fw E ok x x
  | cons {x z y : Nat} : ok x → E x z → Fw E ok z y → Fw E ok x y
theorem Fw.fst {E : Nat → Nat → Prop} {ok : Nat → Prop} {x y : Nat} (h : Fw E ok x y) : ok x := by
  cases h <;> assumption
theorem Fw.lst {E : Nat → Nat → Prop} {ok : Nat → Prop} {x y : Nat} (h : Fw E ok x y) : ok y := by
  induction h with
  | nil h => exact h
  | cons _ _ _ ih => exact ih
theorem Fw.mono {E : Nat → Nat → Prop} {ok ok' : Nat → Prop} {x y : Nat} (h : Fw E ok x y) (k : ∀ v, ok v → ok' v) : Fw E ok' x y := by
  induction h with
  | nil h => exact .nil (k _ h)
  | cons h e _ ih => exact .cons (k _ h) e ih
theorem Fw.trans {E : Nat → Nat → Prop} {ok : Nat → Prop} {x y z : Nat} (h : Fw E ok x y) (k : Fw E ok y z) : Fw E ok x z := by
  induction h with
  | nil _ => exact k
  | cons h e _ ih => exact .cons h e (ih k)
theorem Fw.snoc {E : Nat → Nat → Prop} {ok : Nat → Prop} {x y z : Nat} (h : Fw E ok x y) (e : E y z) (hz : ok z) : Fw E ok x z :=
  h.trans (.cons h.lst e (.nil hz))
/-- One who stands above another one in a tree that is told by parents. -/
inductive Anc (par : Nat → Nat) : Nat → Nat → Prop
  | refl (a : Nat) : Anc par a a
  | up {a b : Nat} : 0 < b → Anc par a (par b) → Anc par a b
/-- A way to k through places greater than k. -/
inductive Hi (E : Nat → Nat → Prop) (k : Nat) : Nat → Prop
  | one {x : Nat} : E x k → Hi E k x
  | more {x y : Nat} : E x y → k < y → Hi E k y → Hi E k x

/-- Numbers that a walk gave that goes deeper ahead of wider. -/
structure Deep (m : Nat) (E : Nat → Nat → Prop) (par : Nat → Nat) : Prop where
  pos : 0 < m
  lim : ∀ x y, E x y → x < m ∧ y < m
  lt : ∀ k, 0 < k → k < m → par k < k
  tree : ∀ k, 0 < k → k < m → E (par k) k
  down : ∀ x y, E x y → x < y → Anc par x y
  iv : ∀ a b c, c < m → Anc par a c → a ≤ b → b ≤ c → Anc par a b

section
variable {m : Nat} {E : Nat → Nat → Prop} {par : Nat → Nat}
theorem Anc.le {lt : ∀ k, 0 < k → k < m → par k < k} {a b : Nat} (h : Anc par a b) (hb : b < m) : a ≤ b := by
  induction h with
  | refl => exact Nat.le_refl _
  | up h0 _ ih =>
    have := lt _ h0 hb
    have := ih (by omega)
    omega
theorem Anc.trans {a b c : Nat} (h : Anc par a b) (k : Anc par b c) : Anc par a c := by
  induction k with
  | refl => exact h
  | up h0 _ ih => exact .up h0 ih
variable (D : Deep m E par)
include D
theorem Deep.anc_le {a b : Nat} (h : Anc par a b) (hb : b < m) : a ≤ b := h.le (lt := D.lt) hb
theorem Deep.root {b : Nat} (hb : b < m) : Anc par 0 b := by
  induction b using Nat.strongRecOn with
  | ind b ih =>
    rcases Nat.eq_zero_or_pos b with h | h
    · subst h; exact .refl 0
    · have := D.lt b h hb
      exact .up h (ih _ this (by omega))
/-- The way down the tree. -/
theorem Deep.fall {a b : Nat} (h : Anc par a b) (hb : b < m) : Fw E (fun v => a ≤ v ∧ v ≤ b) a b := by
  induction h with
  | refl => exact .nil ⟨Nat.le_refl _, Nat.le_refl _⟩
  | @up b h0 hh ih =>
    have h1 := D.lt _ h0 hb
    have h2 := D.anc_le hh (by omega)
    exact ((ih (by omega)).mono fun v hv => ⟨hv.1, by omega⟩).snoc (D.tree _ h0 hb) ⟨by omega, Nat.le_refl _⟩
theorem Deep.hi_lt {k x : Nat} (h : Hi E k x) : x < m ∧ k < m := by
  induction h with
  | one e => exact D.lim _ _ e
  | more e _ _ ih => exact ⟨(D.lim _ _ e).1, ih.2⟩
/-- Who leads to k through greater ones, and is less, stands above it. -/
theorem Deep.hi_anc {k x : Nat} (h : Hi E k x) (hx : x < k) : Anc par x k := by
  cases h with
  | one e => exact D.down _ _ e hx
  | more e hk h =>
    exact D.iv _ _ _ (D.lim _ _ e).2 (D.down _ _ e (by omega)) (by omega) (by omega)
omit D in
theorem Hi.fw {k x : Nat} (h : Hi E k x) : E x k ∨ ∃ y, E x y ∧ k < y ∧ ∃ q, Fw E (fun v => k < v) y q ∧ E q k := by
  induction h with
  | one e => exact .inl e
  | more e hk _ ih =>
    refine .inr ⟨_, e, hk, ?_⟩
    rcases ih with h | ⟨y', e', hk', q, h1, h2⟩
    · exact ⟨_, .nil hk, h⟩
    · exact ⟨q, .cons hk e' h1, h2⟩
omit D in
/-- From a way of such as are greater, with a first one. -/
theorem Hi.of_fw {k x y : Nat} (h : Fw E (fun v => k < v) x y) (e : E y k) : Hi E k x := by
  induction h with
  | nil _ => exact .one e
  | cons _ e' h ih => exact .more e' h.fst (ih e)
/-- On each way that ends below d there is one to which one leads through greater ones. -/
theorem Deep.first {ok : Nat → Prop} {v q : Nat} (h : Fw E ok v q) (hq : q < m) :
    ∃ u, ok u ∧ Anc par u q ∧ (v = u ∨ (u < v ∧ Hi E u v)) := by
  induction h with
  | nil h => exact ⟨_, h, .refl _, .inl rfl⟩
  | @cons v z q hv e h ih =>
    obtain ⟨u, hu, ha, hz⟩ := ih hq
    have hl := D.lim _ _ e
    rcases Nat.lt_trichotomy u v with c | c | c
    · refine ⟨u, hu, ha, .inr ⟨c, ?_⟩⟩
      rcases hz with rfl | ⟨h1, h2⟩
      · exact .one e
      · exact .more e h1 h2
    · exact ⟨u, hu, ha, .inl c.symm⟩
    · refine ⟨v, hv, .trans ?_ ha, .inl rfl⟩
      rcases hz with rfl | ⟨h1, h2⟩
      · exact D.down _ _ e c
      · exact D.iv _ _ _ hl.2 (D.down _ _ e (by omega)) (by omega) (by omega)
/-- The same below d: either the way crosses d by one that stands below it, or all is below it. -/
theorem Deep.cross {d k v : Nat} (hd : d < k) (hk : k < m) (h : Fw E (· ≠ d) v k) :
    (∃ y x, Anc par y k ∧ d < y ∧ x < d ∧ Hi E y x) ∨ ∃ u, Anc par u k ∧ d < u ∧ (v = u ∨ (u < v ∧ Hi E u v)) := by
  induction h with
  | nil h => exact .inr ⟨_, .refl _, hd, .inl rfl⟩
  | @cons v z q hv e h ih =>
    rcases ih hd hk with h | ⟨u, ha, hu, hz⟩
    · exact .inl h
    · clear ih
      have hl := D.lim _ _ e
      have hi : u < v ∨ v < d → Hi E u v := fun _ => by
        rcases hz with rfl | ⟨h1, h2⟩
        · exact .one e
        · exact .more e h1 h2
      rcases Nat.lt_or_ge v d with c | c
      · exact .inl ⟨u, v, ha, hu, c, hi (.inr c)⟩
      · rcases Nat.lt_trichotomy u v with c' | c' | c'
        · exact .inr ⟨u, ha, hu, .inr ⟨c', hi (.inl c')⟩⟩
        · exact .inr ⟨u, ha, hu, .inl c'.symm⟩
        · refine .inr ⟨v, .trans ?_ ha, by omega, .inl rfl⟩
          rcases hz with rfl | ⟨h1, h2⟩
          · exact D.down _ _ e c'
          · exact D.iv _ _ _ hl.2 (D.down _ _ e (by omega)) (by omega) (by omega)
theorem Deep.crossed {d k x : Nat} (hx : x < d) (hd : d < k) (hk : k < m) (h : Fw E (· ≠ d) x k) : ∃ y x', Anc par y k ∧ d < y ∧ x' < d ∧ Hi E y x' := by
  rcases D.cross hd hk h with h | ⟨u, _, hu, h | h⟩
  · exact h
  · omega
  · omega
end

/-- All ways to b have a on them. -/
def Dom (E : Nat → Nat → Prop) (a b : Nat) : Prop := ¬ Fw E (· ≠ a) 0 b

section
variable {m : Nat} {E : Nat → Nat → Prop} {par : Nat → Nat} (D : Deep m E par)
include D
omit D in
theorem Dom.self (b : Nat) : Dom E b b := fun h => h.lst rfl
theorem Deep.dom_le {a b : Nat} (hb : b < m) (h : Dom E a b) : a ≤ b := by
  refine Nat.le_of_not_lt fun c => h ?_
  exact (D.fall (D.root hb) hb).mono fun v hv => by omega
omit D in
theorem Dom.trans {a b c : Nat} (h : Dom E a b) (k : Dom E b c) (hab : ∀ x, Fw E (· ≠ a) x c → Fw E (fun v => v ≠ a ∧ v ≠ b) x c ∨ Fw E (· ≠ a) x b) : Dom E a c := fun q => (hab 0 q).elim (fun q => k (q.mono fun _ h => h.2)) h
omit D in
theorem fw_split {a b x c : Nat} (q : Fw E (· ≠ a) x c) : Fw E (fun v => v ≠ a ∧ v ≠ b) x c ∨ Fw E (· ≠ a) x b := by
  induction q with
  | @nil x h =>
    by_cases e : x = b
    · subst e; exact .inr (.nil h)
    · exact .inl (.nil ⟨h, e⟩)
  | @cons x z c h e _ ih =>
    by_cases e' : x = b
    · subst e'; exact .inr (.nil h)
    · rcases ih with k | k
      · exact .inl (.cons ⟨h, e'⟩ e k)
      · exact .inr (.cons h e k)
omit D in
theorem Dom.tr {a b c : Nat} (h : Dom E a b) (k : Dom E b c) : Dom E a c := h.trans k fun _ => fw_split

/-- The least from which one comes to k through greater ones. -/
structure Semi (m : Nat) (E : Nat → Nat → Prop) (sd : Nat → Nat) : Prop where
  hi : ∀ k, 0 < k → k < m → Hi E k (sd k)
  least : ∀ k, 0 < k → k < m → ∀ x, Hi E k x → sd k ≤ x
variable {sd : Nat → Nat} (S : Semi m E sd)
include S
theorem Semi.lt {k : Nat} (h0 : 0 < k) (hk : k < m) : sd k < k := by
  have := S.least k h0 hk _ (.one (D.tree k h0 hk))
  have := D.lt k h0 hk
  omega
theorem Semi.anc {k : Nat} (h0 : 0 < k) (hk : k < m) : Anc par (sd k) k := D.hi_anc (S.hi k h0 hk) (S.lt D h0 hk)
omit D in
/-- From a place through greater ones than k to k, without one that is less than k. -/
theorem Semi.way {k a : Nat} (h0 : 0 < k) (hk : k < m) (ha : a < k) (q : Fw E (· ≠ a) 0 (sd k)) : Fw E (· ≠ a) 0 k := by
  rcases (S.hi k h0 hk).fw with e | ⟨y, e, hy, z, h1, h2⟩
  · exact q.snoc e (by omega)
  · exact (q.trans (.cons q.lst e (h1.mono fun v hv => by omega))).snoc h2 (by omega)
/-- Who stands ahead of k stands ahead of its least one. -/
theorem Semi.above {k a : Nat} (h0 : 0 < k) (hk : k < m) (h : Dom E a k) (hne : a ≠ k) : Dom E a (sd k) := fun q => by
  have := D.dom_le hk h
  exact h (S.way h0 hk (by omega) q)
/-- The nearest that stands ahead of each. -/
structure Near (m : Nat) (par : Nat → Nat) (sd near : Nat → Nat) : Prop where
  one : ∀ k, 0 < k → k < m → (near k = sd k ∧ ∀ u, Anc par u k → sd k < u → sd k ≤ sd u) ∨
    ∃ u, Anc par u k ∧ sd k < u ∧ u < k ∧ sd u < sd k ∧ near k = near u ∧ ∀ v, Anc par v k → sd k < v → sd u ≤ sd v
variable {near : Nat → Nat} (M : Near m par sd near)
include M
theorem Near.lt {k : Nat} (h0 : 0 < k) (hk : k < m) : near k < k := by
  induction k using Nat.strongRecOn with
  | ind k ih =>
    rcases M.one k h0 hk with ⟨h, _⟩ | ⟨u, _, h1, h2, _, h4, _⟩
    · rw [h]; exact S.lt D h0 hk
    · rw [h4]
      have := ih u h2 (by omega) (by omega)
      omega
theorem Near.dom {k : Nat} (h0 : 0 < k) (hk : k < m) (a : Nat) : Dom E a k ↔ a = k ∨ Dom E a (near k) := by
  induction k using Nat.strongRecOn generalizing a with
  | ind k ih =>
    have hs := S.lt D h0 hk
    rcases M.one k h0 hk with ⟨h, hm⟩ | ⟨u, hu, h1, h2, h3, h4, h5⟩
    · rw [h]
      have hself : Dom E (sd k) k := fun q => by
        rcases Nat.eq_zero_or_pos (sd k) with z | z
        · exact q.fst z.symm
        · obtain ⟨y, x, a1, a2, a3, a4⟩ := D.crossed z hs hk q
          have b1 := hm y a1 a2
          have b2 := S.least y (by omega) (Nat.lt_of_le_of_lt (D.anc_le a1 hk) hk) x a4
          omega
      constructor
      · intro q
        by_cases e : a = k
        · exact .inl e
        · exact .inr (S.above D h0 hk q e)
      · rintro (rfl | q)
        · exact Dom.self _
        · exact q.tr hself
    · rw [h4]
      have hu0 : 0 < u := by omega
      have hum : u < m := by omega
      have IH := ih u h2 hu0 hum
      have hdu := M.lt D S hu0 hum
      have hd : Dom E (near u) u := (IH (near u)).2 (.inr (Dom.self _))
      have hds : near u ≤ sd u := D.dom_le (by have := S.lt D hu0 hum; omega) (S.above D hu0 hum hd (by omega))
      have hself : Dom E (near u) k := fun q => by
        rcases Nat.eq_zero_or_pos (near u) with z | z
        · exact q.fst z.symm
        · obtain ⟨y, x, a1, a2, a3, a4⟩ := D.crossed z (by omega) hk q
          have hym : y < m := Nat.lt_of_le_of_lt (D.anc_le a1 hk) hk
          have b2 := S.least y (by omega) hym x a4
          have b3 : ¬ sd k < y := fun c => by have := h5 y a1 c; omega
          have hyu : Anc par y u := by
            have : ∀ c, Anc par u c → c < m → ∀ y, Anc par y c → y ≤ u → Anc par y u := by
              intro c hc hcm y hy hyu
              exact D.iv _ _ _ hcm hy hyu (D.anc_le hc hcm)
            exact this k hu hk y a1 (by omega)
          have q1 : Fw E (· ≠ near u) 0 (sd y) := (D.fall (D.root (by have := S.lt D (by omega : 0 < y) hym; omega)) (by have := S.lt D (by omega : 0 < y) hym; omega)).mono fun v hv => by omega
          have q2 := S.way (by omega) hym a2 q1
          exact hd (q2.trans ((D.fall hyu hum).mono fun v hv => by omega))
      constructor
      · intro q
        by_cases e : a = k
        · exact .inl e
        · refine .inr (((IH a).1 ?_).resolve_left ?_)
          · intro r
            have h9 := D.dom_le (by omega) (S.above D h0 hk q e)
            exact q (r.trans ((D.fall hu hk).mono fun v hv => by omega))
          · have h9 := D.dom_le (by omega) (S.above D h0 hk q e)
            omega
      · rintro (rfl | q)
        · exact Dom.self _
        · exact q.tr hself
/-- Who stands ahead is who stands above in the tree of the nearest. -/
theorem Near.anc {k : Nat} (hk : k < m) (a : Nat) : Dom E a k ↔ Anc near a k := by
  induction k using Nat.strongRecOn with
  | ind k ih =>
    rcases Nat.eq_zero_or_pos k with h | h0
    · subst h
      constructor
      · intro q
        have := D.dom_le hk q
        obtain rfl : a = 0 := by omega
        exact .refl 0
      · intro q
        cases q with
        | refl => exact Dom.self _
        | up h _ => omega
    · rw [M.dom D S h0 hk, ih _ (M.lt D S h0 hk) (by have := M.lt D S h0 hk; omega)]
      constructor
      · rintro (rfl | q)
        · exact .refl _
        · exact .up h0 q
      · intro q
        cases q with
        | refl => exact .inl rfl
        | up _ h => exact .inr h
end
end Gra

namespace Gra
/-- What a walk came to: which places, in which order, from which one to each; what waits (the last one on top). -/
structure Tr where
  came : Nat → Bool
  ord : List Nat
  fr : Nat → Int
  st : List (Int × Nat)
section
variable {σ : Type} (mv : σ → Nat → Bool) (ms : σ → Nat → σ)
/-- Places that one leads to wait, such as were not come to, and may be. -/
def waitS (came : Nat → Bool) (f : Int) : List Nat → σ → List (Int × Nat) → σ × List (Int × Nat)
  | [], s, st => (s, st)
  | x :: l, s, st => if came x then waitS came f l s st else waitS came f l (ms s x) (if mv s x then st ++ [(f, x)] else st)
def upB (f : Nat → Bool) (k : Nat) : Nat → Bool := fun i => if i = k then true else f i
def upI (f : Nat → Int) (k : Nat) (v : Int) : Nat → Int := fun i => if i = k then v else f i
/-- A place comes up. -/
def comeT (T : Tr) (f : Int) (x : Nat) : Tr := { came := upB T.came x, ord := T.ord ++ [x], fr := upI T.fr x f, st := T.st }
/-- The topmost one that waits goes. -/
def stepT (N : Nat → List Nat) (st0 : List (Int × Nat)) (f : Int) (x : Nat) (s : σ) (T : Tr) : σ × Tr :=
  if T.came x then (s, { T with st := st0 })
  else
    let r := waitS mv ms (upB T.came x) (x : Int) (N x) s st0
    (r.1, { comeT T f x with st := r.2 })
/-- One after another. -/
inductive GoT (N : Nat → List Nat) : σ × Tr → σ × Tr → Prop
  | refl (x : σ × Tr) : GoT N x x
  | next {a b : σ × Tr} {st0 : List (Int × Nat)} {f : Int} {x : Nat} : GoT N a b → b.2.st = st0 ++ [(f, x)] → GoT N a (stepT mv ms N st0 f x b.1 b.2)
end
/-- How many of the first n were not come to. -/
def uncame (n : Nat) (came : Nat → Bool) : Nat := ((List.range n).filter fun i => !came i).length
theorem uncame_up {n x : Nat} {came : Nat → Bool} (hx : x < n) (h : came x = false) : uncame n (upB came x) + 1 = uncame n came := by
  have left_one : ∀ {p : Nat → Bool} {j : Nat} (_ : p j = true), ∀ k, ((List.range k).filter fun i => p i && !(i == j)).length + (if j < k then 1 else 0) = ((List.range k).filter p).length := by
    intro p j hp k
    induction k with
    | zero => simp
    | succ k ih =>
      rw [List.range_succ, List.filter_append, List.filter_append, List.length_append, List.length_append]
      by_cases e : k = j
      · subst e
        rw [if_neg (by omega)] at ih
        rw [if_pos (by omega)]
        simp [hp] at *
        omega
      · have h1 : (List.filter (fun i => p i && !(i == j)) [k]).length = (List.filter p [k]).length := by
          have : (k == j) = false := by simpa using e
          simp [List.filter_cons, this]
        by_cases hk : j < k
        · rw [if_pos hk] at ih
          rw [if_pos (by omega)]
          omega
        · rw [if_neg hk] at ih
          rw [if_neg (by omega)]
          omega
  have h1 := left_one (p := fun i => !came i) (j := x) (by simp [h]) n
  rw [if_pos hx] at h1
  unfold uncame
  rw [← h1]
  congr 2
  apply List.filter_congr
  intro i _
  unfold upB
  by_cases e : i = x
  · subst e; simp
  · rw [if_neg e]
    have : (i == x) = false := by simpa using e
    simp [this]
/-- What holds of the numbers: as many as there are places, none of another one; no more wait than may. -/
structure SizeT (n D M : Nat) (T : Tr) : Prop where
  cnt : T.ord.length + uncame n T.came = n
  ins : ∀ y ∈ T.st, y.2 < n
  room : T.st.length + uncame n T.came * (D + 1) ≤ M
section
variable {σ : Type} {mv : σ → Nat → Bool} {ms : σ → Nat → σ}
theorem waitS_size {came : Nat → Bool} {f : Int} {n : Nat} : ∀ (l : List Nat) (s : σ) (st : List (Int × Nat)), (∀ x ∈ l, x < n) → (∀ y ∈ st, y.2 < n) →
    (waitS mv ms came f l s st).2.length ≤ st.length + l.length ∧ ∀ y ∈ (waitS mv ms came f l s st).2, y.2 < n
  | [], _, st, _, h => ⟨by simp [waitS], h⟩
  | x :: l, s, st, hl, h => by
    unfold waitS
    split
    · obtain ⟨h1, h2⟩ := waitS_size l s st (fun y hy => hl y (List.mem_cons_of_mem _ hy)) h
      exact ⟨by simp; omega, h2⟩
    · have h3 : ∀ y ∈ (if mv s x then st ++ [(f, x)] else st), y.2 < n := by
        split
        · intro y hy
          rcases List.mem_append.1 hy with hy | hy
          · exact h y hy
          · obtain rfl := List.mem_singleton.1 hy
            exact hl x (by simp)
        · exact h
      obtain ⟨h1, h2⟩ := waitS_size l (ms s x) _ (fun y hy => hl y (List.mem_cons_of_mem _ hy)) h3
      refine ⟨Nat.le_trans h1 ?_, h2⟩
      split <;> simp <;> omega
theorem waitS_len {came : Nat → Bool} {f : Int} : ∀ (l : List Nat) (s : σ) (st : List (Int × Nat)), (waitS mv ms came f l s st).2.length ≤ st.length + l.length
  | [], _, st => by simp [waitS]
  | x :: l, s, st => by
    unfold waitS
    split
    · have h1 := waitS_len (came := came) (f := f) l s st
      simp; omega
    · refine Nat.le_trans (waitS_len l (ms s x) _) ?_
      split <;> simp <;> omega
theorem waitS_snoc {came : Nat → Bool} {f : Int} : ∀ (l : List Nat) (x : Nat) (s : σ) (st : List (Int × Nat)), waitS mv ms came f (l ++ [x]) s st = if came x then waitS mv ms came f l s st else (ms (waitS mv ms came f l s st).1 x, if mv (waitS mv ms came f l s st).1 x then (waitS mv ms came f l s st).2 ++ [(f, x)] else (waitS mv ms came f l s st).2)
  | [], x, s, st => by
    simp only [List.nil_append, waitS]
    split <;> rfl
  | y :: l, x, s, st => by
    simp only [List.cons_append, waitS]
    split
    · exact waitS_snoc l x s st
    · exact waitS_snoc l x _ _
theorem SizeT.step {N : Nat → List Nat} {n D M : Nat} {s : σ} {T : Tr} {st0 : List (Int × Nat)} {f : Int} {x : Nat} (h : SizeT n D M T) (e : T.st = st0 ++ [(f, x)]) (hN : ∀ p q, q ∈ N p → q < n) (hD : ∀ p, (N p).length ≤ D) :
    SizeT n D M (stepT mv ms N st0 f x s T).2 ∧ (stepT mv ms N st0 f x s T).2.st.length + uncame n (stepT mv ms N st0 f x s T).2.came * (D + 1) < T.st.length + uncame n T.came * (D + 1) := by
  have hx : x < n := h.ins (f, x) (by rw [e]; simp)
  have hin : ∀ y ∈ st0, y.2 < n := fun y hy => h.ins y (by rw [e]; exact List.mem_append_left _ hy)
  have hlen : T.st.length = st0.length + 1 := by rw [e]; simp
  have hr := h.room
  unfold stepT
  split
  · exact ⟨⟨h.cnt, hin, by simp only; omega⟩, by simp only; omega⟩
  · rename_i hc
    have hc' : T.came x = false := by simpa using hc
    have hu := uncame_up hx hc'
    obtain ⟨h1, h2⟩ := waitS_size (mv := mv) (ms := ms) (came := upB T.came x) (f := (x : Int)) (N x) s st0 (hN x) hin
    have h3 := hD x
    have h4 : uncame n T.came * (D + 1) = uncame n (upB T.came x) * (D + 1) + (D + 1) := by rw [← hu, Nat.add_mul, Nat.one_mul]
    have h5 := h.cnt
    refine ⟨⟨?_, h2, ?_⟩, ?_⟩
    · show (T.ord ++ [x]).length + uncame n (upB T.came x) = n
      rw [List.length_append]; simp; omega
    · show (waitS mv ms (upB T.came x) (x : Int) (N x) s st0).2.length + uncame n (upB T.came x) * (D + 1) ≤ M
      omega
    · show (waitS mv ms (upB T.came x) (x : Int) (N x) s st0).2.length + uncame n (upB T.came x) * (D + 1) < _
      omega
theorem waitS_from {came : Nat → Bool} {f : Int} : ∀ (l : List Nat) (s : σ) (st : List (Int × Nat)), ∀ y ∈ (waitS mv ms came f l s st).2, y ∈ st ∨ y.1 = f
  | [], _, _, y, hy => .inl hy
  | x :: l, s, st, y, hy => by
    unfold waitS at hy
    split at hy
    · exact waitS_from l s st y hy
    · rcases waitS_from l _ _ y hy with h | h
      · split at h
        · rcases List.mem_append.1 h with h | h
          · exact .inl h
          · obtain rfl := List.mem_singleton.1 h
            exact .inr rfl
        · exact .inl h
      · exact .inr h
/-- What waits came from a place, or from none. -/
def FromT (n : Nat) (T : Tr) : Prop := ∀ y ∈ T.st, -1 ≤ y.1 ∧ y.1 ≤ (n : Int)
theorem FromT.step {N : Nat → List Nat} {n : Nat} {s : σ} {T : Tr} {st0 : List (Int × Nat)} {f : Int} {x : Nat} (h : FromT n T) (e : T.st = st0 ++ [(f, x)]) (hx : x < n) : FromT n (stepT mv ms N st0 f x s T).2 := by
  have h0 : ∀ y ∈ st0, -1 ≤ y.1 ∧ y.1 ≤ (n : Int) := fun y hy => h y (by rw [e]; exact List.mem_append_left _ hy)
  unfold stepT
  split
  · exact h0
  · intro y hy
    rcases waitS_from _ _ _ y hy with h1 | h1
    · exact h0 y h1
    · exact ⟨by omega, by omega⟩
theorem uncame_none (n : Nat) : uncame n (fun _ => false) = n := by
  have e : ((List.range n).filter fun i => !(fun _ => false : Nat → Bool) i) = List.range n := List.filter_eq_self.2 fun _ _ => rfl
  unfold uncame
  rw [e, List.length_range]
/-- How a walk begins. -/
def startT (st : List (Int × Nat)) : Tr := { came := fun _ => false, ord := [], fr := fun _ => 0, st := st }
theorem SizeT.start {n D : Nat} {st : List (Int × Nat)} (h : ∀ y ∈ st, y.2 < n) : SizeT n D (st.length + n * (D + 1)) (startT st) :=
  ⟨(Nat.zero_add _).trans (uncame_none n), h, by have e := uncame_none n; show st.length + uncame n (fun _ => false) * (D + 1) ≤ _; rw [e]; exact Nat.le_refl _⟩
end
end Gra

namespace Gra
/-- What ways lead to from some places on, by such alone as may be. -/
inductive Came (N : Nat → List Nat) (mv : Nat → Bool) (l : List Nat) : Nat → Prop
  | start {x : Nat} : x ∈ l → mv x = true → Came N mv l x
  | next {p q : Nat} : Came N mv l p → q ∈ N p → mv q = true → Came N mv l q
section
variable {mv : Nat → Bool} {N : Nat → List Nat} {l0 : List Nat}
abbrev waitP (mv : Nat → Bool) (came : Nat → Bool) (f : Int) (l : List Nat) (st : List (Int × Nat)) : List (Int × Nat) := (waitS (σ := Unit) (fun _ p => mv p) (fun _ _ => ()) came f l () st).2
theorem waitP_is (came : Nat → Bool) (f : Int) : ∀ (l : List Nat) (st : List (Int × Nat)), waitP mv came f l st = st ++ (l.filter fun x => !came x && mv x).map fun x => (f, x)
  | [], st => by simp [waitP, waitS]
  | x :: l, st => by
    show (waitS (σ := Unit) (fun _ p => mv p) (fun _ _ => ()) came f (x :: l) () st).2 = _
    unfold waitS
    by_cases hc : came x = true
    · rw [if_pos hc]
      have h := waitP_is came f l st
      rw [List.filter_cons_of_neg (by simp [hc])]
      exact h
    · rw [if_neg hc]
      have hc' : came x = false := by simpa using hc
      by_cases hm : mv x = true
      · simp only [hm, if_true]
        have h := waitP_is came f l (st ++ [(f, x)])
        rw [List.filter_cons_of_pos (by simp [hc', hm]), List.map_cons]
        show waitP mv came f l (st ++ [(f, x)]) = _
        rw [h, List.append_assoc]
        rfl
      · have hm' : mv x = false := by simpa using hm
        simp only [hm', if_false, Bool.false_eq_true]
        have h := waitP_is came f l st
        rw [List.filter_cons_of_neg (by simp [hm'])]
        exact h
theorem waitP_mem {came : Nat → Bool} {f : Int} {l : List Nat} {st : List (Int × Nat)} {y : Int × Nat} : y ∈ waitP mv came f l st ↔ y ∈ st ∨ (y.1 = f ∧ y.2 ∈ l ∧ came y.2 = false ∧ mv y.2 = true) := by
  rw [waitP_is, List.mem_append, List.mem_map]
  constructor
  · rintro (h | ⟨x, hx, rfl⟩)
    · exact .inl h
    · have := List.mem_filter.1 hx
      simp only [Bool.and_eq_true, Bool.not_eq_true'] at this
      exact .inr ⟨rfl, this.1, this.2⟩
  · rintro (h | ⟨h1, h2, h3, h4⟩)
    · exact .inl h
    · exact .inr ⟨y.2, List.mem_filter.2 ⟨h2, by simp [h3, h4]⟩, by rw [← h1]⟩
abbrev GoP (mv : Nat → Bool) (N : Nat → List Nat) (T T' : Tr) : Prop := GoT (σ := Unit) (fun _ p => mv p) (fun _ _ => ()) N ((), T) ((), T')
abbrev stepP (mv : Nat → Bool) (N : Nat → List Nat) (st0 : List (Int × Nat)) (f : Int) (x : Nat) (T : Tr) : Tr :=
  if T.came x then { T with st := st0 } else { comeT T f x with st := waitP mv (upB T.came x) x (N x) st0 }
theorem stepP_is (st0 : List (Int × Nat)) (f : Int) (x : Nat) (T : Tr) : (stepT (σ := Unit) (fun _ p => mv p) (fun _ _ => ()) N st0 f x () T).2 = stepP mv N st0 f x T := by
  unfold stepT stepP
  split <;> rfl
/-- A walk, step by step. -/
theorem GoP.ind {I : Tr → Prop} {T T' : Tr} (h : GoP mv N T T') (h0 : I T) (hs : ∀ T st0 f x, I T → T.st = st0 ++ [(f, x)] → I (stepP mv N st0 f x T)) : I T' := by
  have key : ∀ a b : Unit × Tr, GoT (σ := Unit) (fun _ p => mv p) (fun _ _ => ()) N a b → I a.2 → I b.2 := by
    intro a b h
    induction h with
    | refl => exact id
    | next _ e ih =>
      intro h0
      rw [stepP_is]
      exact hs _ _ _ _ (ih h0) e
  exact key _ _ h h0
def startP (mv : Nat → Bool) (l : List Nat) : Tr := startT (waitP mv (fun _ => false) (-1) l [])
/-- What holds of a walk under way: what it came to is reached, and what is reached from there waits. -/
structure CameI (mv : Nat → Bool) (N : Nat → List Nat) (l0 : List Nat) (T : Tr) : Prop where
  stc : ∀ y ∈ T.st, Came N mv l0 y.2
  cc : ∀ x, T.came x = true → Came N mv l0 x
  beg : ∀ x ∈ l0, mv x = true → T.came x = true ∨ ∃ f, (f, x) ∈ T.st
  nxt : ∀ p, T.came p = true → ∀ q ∈ N p, mv q = true → T.came q = true ∨ ∃ f, (f, q) ∈ T.st
  ordd : T.ord.Nodup
  orc : ∀ x, x ∈ T.ord ↔ T.came x = true
theorem CameI.start : CameI mv N l0 (startP mv l0) where
  stc y hy := by
    rcases waitP_mem.1 hy with h | ⟨_, h2, _, h4⟩
    · cases h
    · exact .start h2 h4
  cc x h := by cases h
  beg x hx hm := .inr ⟨-1, waitP_mem.2 (.inr ⟨rfl, hx, rfl, hm⟩)⟩
  nxt p h := by cases h
  ordd := List.nodup_nil
  orc x := ⟨(fun h => by cases h), (fun h => by cases h)⟩
theorem upB_same (f : Nat → Bool) (k : Nat) : upB f k k = true := by unfold upB; rw [if_pos rfl]
theorem upB_true {f : Nat → Bool} {k i : Nat} (h : f i = true) : upB f k i = true := by unfold upB; split <;> first | rfl | exact h
theorem upB_or {f : Nat → Bool} {k i : Nat} (h : upB f k i = true) : i = k ∨ f i = true := by
  unfold upB at h
  split at h
  · exact .inl ‹_›
  · exact .inr h
theorem CameI.step {T : Tr} {st0 : List (Int × Nat)} {f : Int} {x : Nat} (h : CameI mv N l0 T) (e : T.st = st0 ++ [(f, x)]) : CameI mv N l0 (stepP mv N st0 f x T) := by
  have hx : Came N mv l0 x := h.stc (f, x) (by rw [e]; simp)
  have h0 : ∀ y ∈ st0, y ∈ T.st := fun y hy => by rw [e]; exact List.mem_append_left _ hy
  have hm : ∀ {g : Int} {q : Nat}, (g, q) ∈ T.st → (g, q) ∈ st0 ∨ q = x := fun hq => by
    rw [e] at hq
    rcases List.mem_append.1 hq with hq | hq
    · exact .inl hq
    · have := List.mem_singleton.1 hq
      exact .inr (by injection this)
  unfold stepP
  split
  · rename_i hc
    refine ⟨fun y hy => h.stc y (h0 y hy), h.cc, fun y hy hmv => ?_, fun p hp q hq hmv => ?_, h.ordd, h.orc⟩
    · rcases h.beg y hy hmv with h1 | ⟨g, h1⟩
      · exact .inl h1
      · rcases hm h1 with h2 | rfl
        · exact .inr ⟨g, h2⟩
        · exact .inl hc
    · rcases h.nxt p hp q hq hmv with h1 | ⟨g, h1⟩
      · exact .inl h1
      · rcases hm h1 with h2 | rfl
        · exact .inr ⟨g, h2⟩
        · exact .inl hc
  · rename_i hc
    have hc' : T.came x = false := by simpa using hc
    refine ⟨fun y hy => ?_, fun y hy => ?_, fun y hy hmv => ?_, fun p hp q hq hmv => ?_, ?_, fun y => ?_⟩
    · rcases waitP_mem.1 hy with h1 | ⟨_, h2, _, h4⟩
      · exact h.stc y (h0 y h1)
      · exact .next hx h2 h4
    · rcases upB_or hy with rfl | hy
      · exact hx
      · exact h.cc y hy
    · rcases h.beg y hy hmv with h1 | ⟨g, h1⟩
      · exact .inl (upB_true h1)
      · rcases hm h1 with h2 | rfl
        · exact .inr ⟨g, waitP_mem.2 (.inl h2)⟩
        · exact .inl (upB_same _ _)
    · rcases upB_or hp with rfl | hp
      · by_cases hq' : upB T.came p q = true
        · exact .inl hq'
        · exact .inr ⟨_, waitP_mem.2 (.inr ⟨rfl, hq, by simpa using hq', hmv⟩)⟩
      · rcases h.nxt p hp q hq hmv with h1 | ⟨g, h1⟩
        · exact .inl (upB_true h1)
        · rcases hm h1 with h2 | rfl
          · exact .inr ⟨g, waitP_mem.2 (.inl h2)⟩
          · exact .inl (upB_same _ _)
    · show (T.ord ++ [x]).Nodup
      refine List.nodup_append.2 ⟨h.ordd, by simp, fun a ha b hb => ?_⟩
      obtain rfl := List.mem_singleton.1 hb
      rintro rfl
      have := (h.orc a).1 ha
      rw [hc'] at this
      cases this
    · show y ∈ T.ord ++ [x] ↔ upB T.came x y = true
      rw [List.mem_append, List.mem_singleton]
      constructor
      · rintro (h1 | rfl)
        · exact upB_true ((h.orc y).1 h1)
        · exact upB_same _ _
      · intro h1
        rcases upB_or h1 with rfl | h1
        · exact .inr rfl
        · exact .inl ((h.orc y).2 h1)
/-- A walk's end. -/
theorem GoP.came {T : Tr} (h : GoP mv N (startP mv l0) T) (he : T.st = []) : (∀ x, T.came x = true ↔ Came N mv l0 x) ∧ T.ord.Nodup ∧ ∀ x, x ∈ T.ord ↔ T.came x = true := by
  have hI : CameI mv N l0 T := h.ind CameI.start fun _ _ _ _ h e => h.step e
  refine ⟨fun x => ⟨hI.cc x, fun hx => ?_⟩, hI.ordd, hI.orc⟩
  induction hx with
  | start h1 h2 =>
    rcases hI.beg _ h1 h2 with h3 | ⟨f, h3⟩
    · exact h3
    · rw [he] at h3; cases h3
  | next _ h1 h2 ih =>
    rcases hI.nxt _ ih _ h1 h2 with h3 | ⟨f, h3⟩
    · exact h3
    · rw [he] at h3; cases h3
end
end Gra

namespace Gra
theorem Anc.congr {p p' : Nat → Nat} {a b : Nat} (h : Anc p a b) (lt : ∀ k, 0 < k → k ≤ b → p k < k) (e : ∀ k, 0 < k → k ≤ b → p' k = p k) : Anc p' a b := by
  induction h with
  | refl => exact .refl _
  | @up b h0 _ ih =>
    have h1 := lt b h0 (Nat.le_refl _)
    exact .up h0 (by
      rw [e b h0 (Nat.le_refl _)]
      exact ih (fun k hk hb => lt k hk (by omega)) fun k hk hb => e k hk (by omega))
theorem el_inj {l : List Nat} (h : l.Nodup) {i j : Nat} (hi : i < l.length) (hj : j < l.length) (e : el l i = el l j) : i = j := by
  rw [← el_eq hi, ← el_eq hj] at e
  have hp := List.pairwise_iff_getElem.1 h
  rcases Nat.lt_trichotomy i j with h1 | h1 | h1
  · exact absurd e (hp i j hi hj h1)
  · exact h1
  · exact absurd e.symm (hp j i hj hi h1)
/-- What holds of a walk under way that began at one place. -/
structure DfsI (N : Nat → List Nat) (T : Tr) (par : Nat → Nat) : Prop where
  nd : T.ord.Nodup
  orc : ∀ x, x ∈ T.ord ↔ T.came x = true
  pos : 0 < T.ord.length
  root : el T.ord 0 = 0
  lt : ∀ k, 0 < k → k < T.ord.length → par k < k
  fr : ∀ k, 0 < k → k < T.ord.length → T.fr (el T.ord k) = ((el T.ord (par k) : Nat) : Int)
  tree : ∀ k, 0 < k → k < T.ord.length → el T.ord k ∈ N (el T.ord (par k))
  src : ∀ y ∈ T.st, ∃ i, i < T.ord.length ∧ y.1 = ((el T.ord i : Nat) : Int) ∧ y.2 ∈ N (el T.ord i)
  srt : T.st.Pairwise fun (y z : Int × Nat) => ∀ i j, i < T.ord.length → j < T.ord.length → y.1 = ((el T.ord i : Nat) : Int) → z.1 = ((el T.ord j : Nat) : Int) → i ≤ j
  desc : ∀ y ∈ T.st, ∀ i, i < T.ord.length → y.1 = ((el T.ord i : Nat) : Int) → ∀ b, i ≤ b → b < T.ord.length → Anc par i b
  wait : ∀ i, i < T.ord.length → ∀ q ∈ N (el T.ord i), T.came q = true ∨ (((el T.ord i : Nat) : Int), q) ∈ T.st
  down : ∀ i j, i < j → j < T.ord.length → el T.ord j ∈ N (el T.ord i) → Anc par i j
  iv : ∀ a b c, c < T.ord.length → Anc par a c → a ≤ b → b ≤ c → Anc par a b
abbrev yes : Nat → Bool := fun _ => true
theorem DfsI.step {N : Nat → List Nat} {T : Tr} {par : Nat → Nat} {st0 : List (Int × Nat)} {f : Int} {x : Nat} (h : DfsI N T par) (e : T.st = st0 ++ [(f, x)]) : ∃ par', DfsI N (stepP yes N st0 f x T) par' := by
  have h0 : ∀ y ∈ st0, y ∈ T.st := fun y hy => by rw [e]; exact List.mem_append_left _ hy
  have hsr := h.srt
  rw [e] at hsr
  have hs0 := (List.pairwise_append.1 hsr).1
  have hs1 := fun y hy => (List.pairwise_append.1 hsr).2.2 y hy (f, x) (by simp)
  have hm : ∀ {y : Int × Nat}, y ∈ T.st → y ∈ st0 ∨ y = (f, x) := fun hq => by
    rw [e] at hq
    rcases List.mem_append.1 hq with hq | hq
    · exact .inl hq
    · exact .inr (List.mem_singleton.1 hq)
  unfold stepP
  split
  · rename_i hc
    refine ⟨par, h.nd, h.orc, h.pos, h.root, h.lt, h.fr, h.tree, fun y hy => h.src y (h0 y hy), hs0, fun y hy => h.desc y (h0 y hy), fun i hi q hq => ?_, h.down, h.iv⟩
    rcases h.wait i hi q hq with h1 | h1
    · exact .inl h1
    · rcases hm h1 with h2 | h2
      · exact .inr h2
      · injection h2 with _ h3
        subst h3
        exact .inl hc
  · rename_i hc
    have hc' : T.came x = false := by simpa using hc
    obtain ⟨s, hst, hsf, hsx⟩ := h.src (f, x) (by rw [e]; simp)
    simp only at hsf hsx
    obtain ⟨t, ht⟩ : ∃ t, T.ord.length = t := ⟨_, rfl⟩
    have hpos := h.pos
    rw [ht] at hst hpos
    have hxo : x ∉ T.ord := fun q => by rw [h.orc, hc'] at q; cases q
    have hlen : (T.ord ++ [x]).length = t + 1 := by simp [ht]
    have eo : ∀ {k}, k < t → el (T.ord ++ [x]) k = el T.ord k := fun hk => el_left (by omega)
    have et : el (T.ord ++ [x]) t = x := by rw [← ht]; exact el_last _ _
    have hnd : (T.ord ++ [x]).Nodup := List.nodup_append.2 ⟨h.nd, by simp, fun a ha b hb => by
      obtain rfl := List.mem_singleton.1 hb
      rintro rfl
      exact hxo ha⟩
    have hU : ∀ {i j}, i < t + 1 → j < t + 1 → el (T.ord ++ [x]) i = el (T.ord ++ [x]) j → i = j := fun hi hj q => el_inj hnd (by omega) (by omega) q
    have hA : ∀ {a b}, b < t → Anc par a b → Anc (fun k => if k = t then s else par k) a b := fun hb q => q.congr (fun k hk hb' => h.lt k hk (by omega)) fun k hk hb' => by rw [if_neg (by omega)]
    have hA' : ∀ {a b}, b < t → Anc (fun k => if k = t then s else par k) a b → Anc par a b := fun hb q => q.congr (fun k hk hb' => by
      rw [if_neg (by omega)]; exact h.lt k hk (by omega)) fun k hk hb' => by rw [if_neg (by omega)]
    have hT : ∀ {a}, Anc par a s → Anc (fun k => if k = t then s else par k) a t := fun q => .up hpos (by rw [if_pos rfl]; exact hA hst q)
    have hT' : ∀ {a}, Anc (fun k => if k = t then s else par k) a t → a = t ∨ Anc par a s := fun q => by
      cases q with
      | refl => exact .inl rfl
      | up _ q =>
        rw [if_pos rfl] at q
        exact .inr (hA' hst q)
    have hS : ∀ y ∈ st0, ∀ i, i < t + 1 → y.1 = ((el (T.ord ++ [x]) i : Nat) : Int) → i < t ∧ y.1 = ((el T.ord i : Nat) : Int) := fun y hy i hi q => by
      obtain ⟨i0, hi0, q0, _⟩ := h.src y (h0 y hy)
      rw [ht] at hi0
      have : i = i0 := hU hi (by omega) (by rw [eo hi0]; omega)
      subst this
      exact ⟨hi0, q0⟩
    have hN : ∀ y ∈ waitP yes (upB T.came x) x (N x) st0, y ∈ st0 ∨ (y.1 = (x : Int) ∧ y.2 ∈ N x ∧ upB T.came x y.2 = false) := fun y hy => by
      rcases waitP_mem.1 hy with q | ⟨q1, q2, q3, _⟩
      · exact .inl q
      · exact .inr ⟨q1, q2, q3⟩
    have hX : ∀ i, i < t + 1 → (x : Int) = ((el (T.ord ++ [x]) i : Nat) : Int) → i = t := fun i hi q => hU hi (by omega) (by rw [et]; omega)
    refine ⟨fun k => if k = t then s else par k, hnd, fun y => ?_, by rw [show (comeT T f x).ord = T.ord ++ [x] from rfl, hlen]; omega, by rw [show (comeT T f x).ord = T.ord ++ [x] from rfl, eo hpos]; exact h.root, ?_, ?_, ?_, ?_, ?_, ?_, ?_, ?_, ?_⟩
    · show y ∈ T.ord ++ [x] ↔ upB T.came x y = true
      rw [List.mem_append, List.mem_singleton]
      constructor
      · rintro (h1 | rfl)
        · exact upB_true ((h.orc y).1 h1)
        · exact upB_same _ _
      · intro h1
        rcases upB_or h1 with rfl | h1
        · exact .inr rfl
        · exact .inl ((h.orc y).2 h1)
    all_goals simp only [show (comeT T f x).ord = T.ord ++ [x] from rfl, hlen]
    · intro k hk hkt
      split
      · omega
      · exact h.lt k hk (by omega)
    · intro k hk hkt
      show upI T.fr x f _ = _
      unfold upI
      by_cases q : k = t
      · subst q
        rw [et, if_pos rfl, if_pos rfl, eo hst]
        exact hsf
      · have hk' : k < t := by omega
        rw [eo hk', if_neg q, eo (by have := h.lt k hk (by omega); omega), if_neg]
        · exact h.fr k hk (by omega)
        · rintro rfl
          exact hxo (by rw [← el_eq (show k < T.ord.length by omega)]; exact List.getElem_mem _)
    · intro k hk hkt
      by_cases q : k = t
      · subst q
        rw [et, if_pos rfl, eo hst]
        exact hsx
      · have hk' : k < t := by omega
        rw [eo hk', if_neg q, eo (by have := h.lt k hk (by omega); omega)]
        exact h.tree k hk (by omega)
    · intro y hy
      rcases hN y hy with q | ⟨q1, q2, _⟩
      · obtain ⟨i, hi, g1, g2⟩ := h.src y (h0 y q)
        exact ⟨i, by omega, by rw [eo (by omega)]; exact g1, by rw [eo (by omega)]; exact g2⟩
      · exact ⟨t, by omega, by rw [et]; exact q1, by rw [et]; exact q2⟩
    · show (waitP yes (upB T.came x) x (N x) st0).Pairwise _
      rw [waitP_is]
      refine List.pairwise_append.2 ⟨hs0.imp_of_mem fun {y z} hy hz q i j hi hj q1 q2 => ?_, ?_, fun y hy z hz i j hi hj q1 q2 => ?_⟩
      · have g1 := hS y hy i hi q1
        have g2 := hS z hz j hj q2
        exact q i j (by omega) (by omega) g1.2 g2.2
      · refine List.pairwise_map.2 (List.Pairwise.imp (R := fun _ _ => True) (fun _ i j hi hj q1 q2 => ?_) (List.pairwise_iff_getElem.2 fun _ _ _ _ _ => trivial))
        have g1 := hX i hi q1
        have g2 := hX j hj q2
        omega
      · have g1 := hS y hy i hi q1
        obtain ⟨z', _, rfl⟩ := List.mem_map.1 hz
        have g2 := hX j hj q2
        omega
    · intro y hy i hi q1 b hb hbt
      rcases hN y hy with q | ⟨q2, _, _⟩
      · obtain ⟨g1, g2⟩ := hS y q i hi q1
        by_cases hbb : b = t
        · subst hbb
          exact hT (h.desc y (h0 y q) i (by omega) g2 s (hs1 y q i s (by omega) (by omega) g2 hsf) (by omega))
        · exact hA (by omega) (h.desc y (h0 y q) i (by omega) g2 b hb (by omega))
      · have g1 := hX i hi (q2 ▸ q1)
        obtain rfl : i = b := by omega
        exact .refl _
    · intro i hi q hq
      by_cases g : i = t
      · subst g
        rw [et] at hq ⊢
        by_cases hq' : upB T.came x q = true
        · exact .inl hq'
        · exact .inr (waitP_mem.2 (.inr ⟨rfl, hq, by simpa using hq', rfl⟩))
      · rw [eo (by omega)] at hq ⊢
        rcases h.wait i (by omega) q hq with h1 | h1
        · exact .inl (upB_true h1)
        · rcases hm h1 with h2 | h2
          · exact .inr (waitP_mem.2 (.inl h2))
          · injection h2 with _ h3
            subst h3
            exact .inl (upB_same _ _)
    · intro i j hij hj hq
      by_cases g : j = t
      · subst g
        rw [et, eo hij] at hq
        rcases h.wait i (by omega) x hq with h1 | h1
        · rw [hc'] at h1; cases h1
        · refine hT (h.desc _ h1 i (by omega) rfl s ?_ (by omega))
          rcases hm h1 with h2 | h2
          · exact hs1 _ h2 i s (by omega) (by omega) rfl hsf
          · injection h2 with h3 _
            have : i = s := el_inj h.nd (by omega) (by omega) (by omega)
            omega
      · rw [eo (by omega), eo (by omega)] at hq
        exact hA (by omega) (h.down i j hij (by omega) hq)
    · intro a b c hc1 ha hab hbc
      by_cases g : c = t
      · subst g
        rcases hT' ha with rfl | q
        · obtain rfl : a = b := by omega
          exact .refl _
        · by_cases hb : b = c
          · subst hb; exact ha
          · rcases Nat.lt_or_ge s b with h1 | h1
            · exact hA (by omega) (q.trans (h.desc (f, x) (by rw [e]; simp) s (by omega) hsf b (by omega) (by omega)))
            · exact hA (by omega) (h.iv a b s (by omega) q hab h1)
      · exact hA (by omega) (h.iv a b c (by omega) (hA' (by omega) ha) hab hbc)
/-- Ways between numbers. -/
def NumE (N : Nat → List Nat) (T : Tr) (i j : Nat) : Prop := i < T.ord.length ∧ j < T.ord.length ∧ el T.ord j ∈ N (el T.ord i)
theorem DfsI.deep {N : Nat → List Nat} {T : Tr} {par : Nat → Nat} (h : DfsI N T par) : Deep T.ord.length (NumE N T) par where
  pos := h.pos
  lim _ _ q := ⟨q.1, q.2.1⟩
  lt := h.lt
  tree k h0 hk := ⟨by have := h.lt k h0 hk; omega, hk, h.tree k h0 hk⟩
  down x y q hxy := h.down x y hxy q.2.1 q.2.2
  iv := h.iv
/-- The first step. -/
theorem DfsI.first {N : Nat → List Nat} : DfsI N (stepP yes N [] (-1) 0 (startP yes [0])) (fun _ => 0) := by
  have e : stepP yes N [] (-1) 0 (startP yes [0]) = { came := upB (fun _ => false) 0, ord := [0], fr := upI (fun _ => 0) 0 (-1), st := waitP yes (upB (fun _ => false) 0) (0 : Nat) (N 0) [] } := rfl
  rw [e]
  have hi : ∀ {i}, i < [0].length → i = 0 := fun h => by simp at h; exact h
  have hw : ∀ y ∈ waitP yes (upB (fun _ => false) 0) (0 : Nat) (N 0) [], y.1 = 0 ∧ y.2 ∈ N 0 := fun y hy => by
    rcases waitP_mem.1 hy with q | ⟨q1, q2, _⟩
    · cases q
    · exact ⟨q1, q2⟩
  refine ⟨by simp, fun x => ?_, by simp, rfl, fun k h0 hk => ?_, fun k h0 hk => ?_, fun k h0 hk => ?_, fun y hy => ⟨0, by simp, (hw y hy).1, (hw y hy).2⟩, ?_, fun y hy i hi' _ b hb hbt => ?_, fun i hi' q hq => ?_, fun i j hij hj => ?_, fun a b c hc ha hab hbc => ?_⟩
  · simp only [List.mem_singleton]
    exact ⟨fun h => by subst h; exact upB_same _ _, fun h => by
      rcases upB_or h with h | h
      · exact h
      · cases h⟩
  · have := hi hk; omega
  · have := hi hk; omega
  · have := hi hk; omega
  · refine List.pairwise_iff_getElem.2 fun _ _ _ _ _ i j h1 h2 _ _ => ?_
    have := hi h1
    omega
  · have := hi hbt
    obtain rfl : i = b := by have := hi hi'; omega
    exact .refl _
  · obtain rfl := hi hi'
    by_cases hq' : upB (fun _ => false) 0 q = true
    · exact .inl hq'
    · exact .inr (waitP_mem.2 (.inr ⟨rfl, hq, by simpa using hq', rfl⟩))
  · have := hi hj; omega
  · have := hi hc
    obtain rfl : a = b := by omega
    exact .refl _
theorem dfs_end {N : Nat → List Nat} {T : Tr} (h : GoP yes N (startP yes [0]) T) (he : T.st = []) : ∃ par, DfsI N T par := by
  have key : T = startP yes [0] ∨ ∃ par, DfsI N T par := by
    refine GoP.ind (I := fun T => T = startP yes [0] ∨ ∃ par, DfsI N T par) h (.inl rfl) fun T st0 f x hI e => .inr ?_
    rcases hI with rfl | ⟨par, hI⟩
    · have e' : ([] : List (Int × Nat)) ++ [(-1, 0)] = st0 ++ [(f, x)] := e
      obtain ⟨e1, e2⟩ := List.append_inj' e' rfl
      subst e1
      injection e2 with e2
      injection e2 with e3 e4
      subst e3; subst e4
      exact ⟨_, DfsI.first⟩
    · exact hI.step e
  rcases key with rfl | h
  · cases he
  · exact h
end Gra

namespace Gra
theorem nodup_sub : ∀ {A B : List Nat}, A.Nodup → (∀ x ∈ A, x ∈ B) → A.length ≤ B.length
  | [], _, _, _ => Nat.zero_le _
  | a :: A, B, h, hs => by
    have h1 := List.nodup_cons.1 h
    have ha := hs a (by simp)
    have h2 := nodup_sub (A := A) (B := B.erase a) h1.2 fun x hx => (List.mem_erase_of_ne (fun e : x = a => h1.1 (by rw [← e]; exact hx))).2 (hs x (List.mem_cons_of_mem _ hx))
    rw [List.length_erase_of_mem ha] at h2
    have := List.length_pos_of_mem ha
    rw [List.length_cons]
    omega
theorem nodup_lt {A : List Nat} {n : Nat} (h : A.Nodup) (hb : ∀ x ∈ A, x < n) : A.length ≤ n := by
  simpa using nodup_sub h (B := List.range n) fun x hx => List.mem_range.2 (hb x hx)
/-- Where each one has one ahead of it there is a circle. -/
theorem cyc_of_preds {n : Nat} {S : Nat → Prop} {E : Nat → Nat → Prop} (hS : ∀ x, S x → x < n) (hp : ∀ x, S x → ∃ y, S y ∧ E y x) {x0 : Nat} (h0 : S x0) : ∃ x, S x ∧ ∃ y, E x y ∧ Fw E S y x := by
  obtain ⟨f, hf⟩ : ∃ f : Nat → Nat, ∀ x, S x → S (f x) ∧ E (f x) x :=
    by
      refine ⟨fun x => @dite _ (S x) (Classical.propDecidable _) (fun h => (hp x h).choose) fun _ => 0, fun x h => ?_⟩
      simp only [dif_pos h]
      exact (hp x h).choose_spec
  let g : Nat → Nat := fun i => Nat.rec x0 (fun _ y => f y) i
  have hg : ∀ i, S (g i) := fun i => by
    induction i with
    | zero => exact h0
    | succ i ih => exact (hf _ ih).1
  have hs : ∀ i, E (g (i + 1)) (g i) := fun i => (hf _ (hg i)).2
  have hway : ∀ d i, Fw E S (g (i + d)) (g i) := fun d i => by
    induction d with
    | zero => exact .nil (hg i)
    | succ d ih => exact .cons (hg (i + d + 1)) (hs (i + d)) ih
  apply Classical.byContradiction
  intro hno
  have hne : ∀ i j, i < j → g i ≠ g j := fun i j hij e => hno ⟨g j, hg j, g (j - 1), by
    have := hs (j - 1)
    rwa [show j - 1 + 1 = j by omega] at this, by
    have := hway (j - 1 - i) i
    rw [show i + (j - 1 - i) = j - 1 by omega, e] at this
    exact this⟩
  have hnd : ((List.range (n + 1)).map g).Nodup := by
    refine List.pairwise_iff_getElem.2 fun i j hi hj hij => ?_
    simp only [List.getElem_map, List.getElem_range]
    exact hne i j hij
  have := nodup_lt (n := n) hnd fun x hx => by
    obtain ⟨i, _, rfl⟩ := List.mem_map.1 hx
    exact hS _ (hg i)
  simp at this
  omega
def cycM (s : Nat → Int) (p : Nat) : Bool := decide (IntKind.i32.wrap (s p - 1) = 0)
def cycS (s : Nat → Int) (p : Nat) : Nat → Int := upn s p (IntKind.i32.wrap (s p - 1))
theorem wait_cyc {came : Nat → Bool} {f : Int} : ∀ (l : List Nat) (s : Nat → Int) (st : List (Int × Nat)), (∀ z ∈ l, came z = false) → (∀ z, (l.count z : Int) ≤ s z ∧ s z ≤ 100000) →
    (∀ q, (waitS cycM cycS came f l s st).1 q = s q - l.count q) ∧ ∀ y, y ∈ (waitS cycM cycS came f l s st).2 ↔ y ∈ st ∨ (y.1 = f ∧ y.2 ∈ l ∧ s y.2 - l.count y.2 = 0)
  | [], s, st, _, _ => ⟨fun q => by simp [waitS], fun y => by simp [waitS]⟩
  | x :: l, s, st, hc, hs => by
    unfold waitS
    rw [if_neg (by rw [hc x (by simp)]; simp)]
    have hx := hs x
    rw [List.count_cons_self] at hx
    have hw : IntKind.i32.wrap (s x - 1) = s x - 1 := IntWalk.i32_in _ (by omega)
    have hs1 : ∀ z, cycS s x z - l.count z = s z - (x :: l).count z := fun z => by
      unfold cycS
      by_cases e : z = x
      · subst e; rw [upn_at, hw, List.count_cons_self]; omega
      · rw [upn_off _ _ e, List.count_cons_of_ne (by simpa using fun q : x = z => e q.symm)]
    have hs2 : ∀ z, (l.count z : Int) ≤ cycS s x z ∧ cycS s x z ≤ 100000 := fun z => by
      have h1 := hs1 z
      have h2 := hs z
      have h3 : cycS s x z ≤ s z := by
        unfold cycS
        by_cases e : z = x
        · subst e; rw [upn_at, hw]; omega
        · rw [upn_off _ _ e]; omega
      exact ⟨by omega, by omega⟩
    obtain ⟨h1, h2⟩ := wait_cyc (came := came) (f := f) l (cycS s x) (if cycM s x then st ++ [(f, x)] else st) (fun z hz => hc z (List.mem_cons_of_mem _ hz)) hs2
    refine ⟨fun q => by rw [h1, hs1], fun y => ?_⟩
    rw [h2, hs1]
    have hm : cycM s x = true ↔ s x - 1 = 0 := by unfold cycM; rw [decide_eq_true_iff, hw]
    have hxc := hs1 x
    constructor
    · rintro (h | ⟨h3, h4, h5⟩)
      · by_cases e : cycM s x = true
        · rw [if_pos e] at h
          rcases List.mem_append.1 h with h | h
          · exact .inl h
          · obtain rfl := List.mem_singleton.1 h
            refine .inr ⟨rfl, by simp, ?_⟩
            have := hm.1 e
            have h9 := (hs x).1
            rw [List.count_cons_self] at h9 ⊢
            simp only
            omega
        · rw [if_neg e] at h
          exact .inl h
      · exact .inr ⟨h3, List.mem_cons_of_mem _ h4, h5⟩
    · rintro (h | ⟨h3, h4, h5⟩)
      · refine .inl ?_
        split
        · exact List.mem_append_left _ h
        · exact h
      · by_cases hl : y.2 ∈ l
        · exact .inr ⟨h3, hl, h5⟩
        · have e : y.2 = x := (List.mem_cons.1 h4).resolve_right hl
          rw [e] at h5 hl
          rw [List.count_cons_self, List.count_eq_zero.2 hl] at h5
          refine .inl ?_
          rw [if_pos (hm.2 (by omega))]
          exact List.mem_append_right _ (by rw [List.mem_singleton, ← h3, ← e])
/-- What waits for all is told of the ways from such as were not come to. -/
def leftN (N : Nat → List Nat) (O : List Nat) (came : Nat → Bool) (q : Nat) : Nat := ((O.filter fun x => !came x).flatMap N).count q
theorem leftN_off {N : Nat → List Nat} {came : Nat → Bool} {x : Nat} : ∀ {O : List Nat}, x ∉ O → ∀ q, leftN N O (upB came x) q = leftN N O came q := fun {O} h q => by
  unfold leftN
  congr 2
  refine List.filter_congr fun y hy => ?_
  unfold upB
  rw [if_neg (fun e : y = x => h (by rw [← e]; exact hy))]
theorem leftN_up {N : Nat → List Nat} {came : Nat → Bool} {x : Nat} (hx : came x = false) : ∀ {O : List Nat}, O.Nodup → x ∈ O → ∀ q, leftN N O (upB came x) q + (N x).count q = leftN N O came q
  | [], _, h, _ => by cases h
  | y :: O, hn, hm, q => by
    have h1 := List.nodup_cons.1 hn
    by_cases e : y = x
    · subst e
      have h2 := leftN_off (N := N) (came := came) h1.1 q
      unfold leftN at h2 ⊢
      rw [List.filter_cons_of_neg (by simp [upB]), List.filter_cons_of_pos (by simp [hx]), List.flatMap_cons, List.count_append, h2]
      omega
    · have h2 := leftN_up (N := N) hx h1.2 ((List.mem_cons.1 hm).resolve_left fun q => e q.symm) q
      have h3 : upB came x y = came y := by unfold upB; rw [if_neg e]
      unfold leftN at h2 ⊢
      by_cases hc : came y = true
      · rw [List.filter_cons_of_neg (by simp [h3, hc]), List.filter_cons_of_neg (by simp [hc])]
        exact h2
      · have hc' : came y = false := by simpa using hc
        rw [List.filter_cons_of_pos (by simp [h3, hc']), List.filter_cons_of_pos (by simp [hc']), List.flatMap_cons, List.flatMap_cons, List.count_append, List.count_append]
        omega
theorem leftN_pos {N : Nat → List Nat} {O : List Nat} {came : Nat → Bool} {q : Nat} : 0 < leftN N O came q ↔ ∃ x ∈ O, came x = false ∧ q ∈ N x := by
  unfold leftN
  rw [List.count_pos_iff, List.mem_flatMap]
  constructor
  · rintro ⟨x, h1, h2⟩
    have := List.mem_filter.1 h1
    exact ⟨x, this.1, by simpa using this.2, h2⟩
  · rintro ⟨x, h1, h2, h3⟩
    exact ⟨x, List.mem_filter.2 ⟨h1, by simp [h2]⟩, h3⟩
theorem leftN_sub {N : Nat → List Nat} {O : List Nat} {came : Nat → Bool} {x : Nat} (hx : came x = false) (ho : x ∈ O) (q : Nat) : (N x).count q ≤ leftN N O came q := by
  unfold leftN
  have h1 : x ∈ O.filter fun x => !came x := List.mem_filter.2 ⟨ho, by simp [hx]⟩
  generalize (O.filter fun x => !came x) = F at h1
  induction F with
  | nil => cases h1
  | cons y F ih =>
    rw [List.flatMap_cons, List.count_append]
    rcases List.mem_cons.1 h1 with e | h
    · subst e; omega
    · have := ih h; omega
structure KahnI (N : Nat → List Nat) (O : List Nat) (s : Nat → Int) (T : Tr) : Prop where
  val : ∀ q, s q = leftN N O T.came q
  bd : ∀ q, s q ≤ 100000
  cin : ∀ x, T.came x = true → x ∈ O
  cz : ∀ x, T.came x = true → s x = 0
  sin : ∀ y ∈ T.st, y.2 ∈ O ∧ s y.2 = 0
  full : ∀ q ∈ O, s q = 0 → T.came q = true ∨ ∃ f, (f, q) ∈ T.st
  nd : T.ord.Nodup
  orc : ∀ x, x ∈ T.ord ↔ T.came x = true
  rk : ∃ r : Nat → Nat, (∀ x, T.came x = true → r x < T.ord.length) ∧ ∀ x, T.came x = true → ∀ y ∈ O, x ∈ N y → T.came y = true ∧ r y < r x
theorem KahnI.step {N : Nat → List Nat} {O : List Nat} {s : Nat → Int} {T : Tr} {st0 : List (Int × Nat)} {f : Int} {x : Nat} (hO : O.Nodup) (hO2 : ∀ x ∈ O, ∀ q ∈ N x, q ∈ O) (h : KahnI N O s T) (e : T.st = st0 ++ [(f, x)]) :
    KahnI N O (stepT cycM cycS N st0 f x s T).1 (stepT cycM cycS N st0 f x s T).2 := by
  have hin : ∀ y ∈ st0, y ∈ T.st := fun y hy => by rw [e]; exact List.mem_append_left _ hy
  have hx := h.sin (f, x) (by rw [e]; simp)
  have hst : ∀ {g : Int} {q : Nat}, (g, q) ∈ T.st → q = x ∨ (g, q) ∈ st0 := fun {g q} hq => by
    rw [e] at hq
    rcases List.mem_append.1 hq with hq | hq
    · exact .inr hq
    · exact .inl (Prod.mk.inj (List.mem_singleton.1 hq)).2
  unfold stepT
  split
  · rename_i hc
    refine ⟨h.val, h.bd, h.cin, h.cz, fun y hy => h.sin y (hin y hy), fun q hq hs => ?_, h.nd, h.orc, h.rk⟩
    rcases h.full q hq hs with h1 | ⟨g, h1⟩
    · exact .inl h1
    · rcases hst h1 with rfl | h2
      · exact .inl hc
      · exact .inr ⟨g, h2⟩
  · rename_i hc
    have hc' : T.came x = false := by simpa using hc
    have hpre : ∀ y ∈ O, x ∈ N y → T.came y = true := fun y hy hxy => by
      apply Classical.byContradiction
      intro hn
      have := leftN_pos.2 ⟨y, hy, by simpa using hn, hxy⟩
      have h2 := h.val x
      rw [hx.2] at h2
      omega
    have hcl : ∀ z ∈ N x, upB T.came x z = false := fun z hz => by
      have hp := leftN_pos.2 ⟨x, hx.1, hc', hz⟩
      unfold upB
      by_cases q : z = x
      · subst q
        have h2 := h.val z
        rw [hx.2] at h2
        omega
      · rw [if_neg q]
        apply Classical.byContradiction
        intro hn
        have h2 := h.cz z (by simpa using hn)
        rw [h.val z] at h2
        omega
    obtain ⟨w1, w2⟩ := wait_cyc (came := upB T.came x) (f := (x : Int)) (N x) s st0 hcl fun z => ⟨by
      have := leftN_sub hc' hx.1 z (N := N)
      rw [h.val z]
      omega, h.bd z⟩
    have hval : ∀ q, s q - ((N x).count q : Int) = (leftN N O (upB T.came x) q : Int) := fun q => by
      have := leftN_up (N := N) hc' hO hx.1 q
      rw [h.val q]
      omega
    have hup : ∀ {q}, upB T.came x q = true → q = x ∨ T.came q = true := fun hq => by
      unfold upB at hq
      split at hq
      · rename_i q; exact .inl q
      · exact .inr hq
    have hz : ∀ q, s q = 0 → s q - ((N x).count q : Int) = 0 := fun q hq => by
      have := hval q
      omega
    refine ⟨fun q => by rw [w1]; exact hval q, fun q => by rw [w1]; have := h.bd q; omega, fun q hq => ?_, fun q hq => ?_, fun y hy => ?_, fun q hq hs => ?_, ?_, fun q => ?_, ?_⟩
    · rcases hup hq with rfl | h1
      · exact hx.1
      · exact h.cin q h1
    · rw [w1]
      rcases hup hq with rfl | h1
      · exact hz _ hx.2
      · exact hz q (h.cz q h1)
    · rcases (w2 y).1 hy with h1 | ⟨h1, h2, h3⟩
      · have h4 := h.sin y (hin y h1)
        exact ⟨h4.1, by rw [w1]; exact hz _ h4.2⟩
      · exact ⟨hO2 x hx.1 _ h2, by rw [w1]; exact h3⟩
    · rw [w1] at hs
      by_cases hq0 : s q = 0
      · rcases h.full q hq hq0 with h1 | ⟨g, h1⟩
        · exact .inl (by show upB T.came x q = true; unfold upB; split <;> first | rfl | exact h1)
        · rcases hst h1 with rfl | h2
          · exact .inl (by show upB T.came q q = true; unfold upB; rw [if_pos rfl])
          · exact .inr ⟨g, (w2 _).2 (.inl h2)⟩
      · refine .inr ⟨x, (w2 _).2 (.inr ⟨rfl, ?_, hs⟩)⟩
        apply Classical.byContradiction
        intro hn
        rw [List.count_eq_zero.2 hn] at hs
        omega
    · refine List.nodup_append.2 ⟨h.nd, by simp, fun a ha b hb => ?_⟩
      obtain rfl := List.mem_singleton.1 hb
      rintro rfl
      exact hc ((h.orc a).1 ha)
    · show q ∈ T.ord ++ [x] ↔ upB T.came x q = true
      rw [List.mem_append, List.mem_singleton, h.orc]
      unfold upB
      by_cases q' : q = x
      · simp [q']
      · simp [q']
    · obtain ⟨r, r1, r2⟩ := h.rk
      refine ⟨fun z => if z = x then T.ord.length else r z, fun z hz => ?_, fun z hz y hy hzy => ?_⟩
      · show (if z = x then T.ord.length else r z) < (T.ord ++ [x]).length
        rw [List.length_append, List.length_singleton]
        split
        · omega
        · rename_i q
          have := r1 z ((hup hz).resolve_left q)
          omega
      · have hzz : z = x ∨ T.came z = true := hup hz
        have key : T.came y = true ∧ (y ≠ x) := by
          by_cases q : z = x
          · subst q
            have := hpre y hy hzy
            exact ⟨this, fun e => by rw [e] at this; exact hc this⟩
          · have h1 := r2 z (hzz.resolve_left q) y hy hzy
            exact ⟨h1.1, fun e => by rw [e] at h1; exact hc h1.1⟩
        refine ⟨by show upB T.came x y = true; unfold upB; split <;> first | rfl | exact key.1, ?_⟩
        simp only [if_neg key.2]
        split
        · exact r1 y key.1
        · rename_i q
          exact (r2 z (hzz.resolve_left q) y hy hzy).2
theorem kahn_cyc {N : Nat → List Nat} {n : Nat} {O : List Nat} {s : Nat → Int} {T : Tr} (hO : O.Nodup) (hn : ∀ x ∈ O, x < n) (hO2 : ∀ x ∈ O, ∀ q ∈ N x, q ∈ O) (h : KahnI N O s T) (he : T.st = []) :
    T.ord.length < O.length ↔ ∃ p ∈ O, ∃ q ∈ N p, Fw (fun x z => z ∈ N x) (· ∈ O) q p := by
  constructor
  · intro hl
    obtain ⟨q0, h1, h2⟩ : ∃ q ∈ O, T.came q = false := by
      apply Classical.byContradiction
      intro hno
      have := nodup_sub hO (B := T.ord) fun x hx => (h.orc x).2 (by
        apply Classical.byContradiction
        intro hc
        exact hno ⟨x, hx, by simpa using hc⟩)
      omega
    obtain ⟨x, hx, y, hy, hw⟩ := cyc_of_preds (n := n) (S := fun x => x ∈ O ∧ T.came x = false) (E := fun x z => z ∈ N x) (fun x hx => hn x hx.1) (fun x hx => by
      have hs : s x ≠ 0 := fun hs => by
        rcases h.full x hx.1 hs with h1 | ⟨f, h1⟩
        · rw [hx.2] at h1; cases h1
        · rw [he] at h1; cases h1
      rw [h.val] at hs
      obtain ⟨y, y1, y2, y3⟩ := leftN_pos.1 (show 0 < leftN N O T.came x by omega)
      exact ⟨y, ⟨y1, y2⟩, y3⟩) (x0 := q0) ⟨h1, h2⟩
    exact ⟨x, hx.1, y, hy, hw.mono fun v hv => hv.1⟩
  · rintro ⟨p, hp, q, hq, hw⟩
    apply Classical.byContradiction
    intro hl
    have hall : ∀ x ∈ O, T.came x = true := fun x hx => by
      apply Classical.byContradiction
      intro hc
      have hxn : x ∉ T.ord := fun h' => hc ((h.orc x).1 h')
      have := nodup_sub (A := x :: T.ord) (B := O) (List.nodup_cons.2 ⟨hxn, h.nd⟩) fun y hy => by
        rcases List.mem_cons.1 hy with rfl | hy
        · exact hx
        · exact h.cin y ((h.orc y).1 hy)
      rw [List.length_cons] at this
      omega
    obtain ⟨r, -, r2⟩ := h.rk
    have hle : ∀ {a b : Nat}, Fw (fun x z => z ∈ N x) (· ∈ O) a b → r a ≤ r b := fun hw => by
      induction hw with
      | nil _ => exact Nat.le_refl _
      | cons hx he hw ih =>
        have := (r2 _ (hall _ hw.fst) _ hx he).2
        omega
    have h1 := hle hw
    have h2 := (r2 q (hall q (hO2 p hp q hq)) p hp hq).2
    omega
theorem kahn_start {N : Nat → List Nat} {O : List Nat} {f : Int} (hO0 : 0 ∈ O) (hO1 : ∀ q ∈ O, q ≠ 0 → ∃ x ∈ O, q ∈ N x) (hb : ∀ q, (O.flatMap N).count q ≤ 90000) {s0 : Nat → Int} (hs0 : ∀ q, s0 q = (([0] : List Nat).count q + (O.flatMap N).count q : Nat)) :
    KahnI N O (waitS cycM cycS (fun _ => false) f [0] s0 []).1 (startT (waitS cycM cycS (fun _ => false) f [0] s0 []).2) := by
  obtain ⟨w1, w2⟩ := wait_cyc (came := fun _ => false) (f := f) [0] s0 [] (fun _ _ => rfl) fun z => by
    rw [hs0]
    have h1 := hb z
    have h2 : ([0] : List Nat).count z ≤ 1 := List.count_le_length
    exact ⟨by omega, by omega⟩
  have hl : ∀ q, leftN N O (fun _ => false) q = (O.flatMap N).count q := fun q => by
    unfold leftN
    have e : (O.filter fun x => !(fun _ => false : Nat → Bool) x) = O := List.filter_eq_self.2 fun _ _ => rfl
    rw [e]
  have hv : ∀ q, (waitS cycM cycS (fun _ => false) f [0] s0 []).1 q = ((O.flatMap N).count q : Int) := fun q => by
    rw [w1, hs0]
    omega
  refine ⟨fun q => by rw [hv, ← hl]; rfl, fun q => by rw [hv]; have := hb q; omega, fun x h => (nomatch h), fun x h => (nomatch h), fun y hy => ?_, fun q hq hs => ?_, List.nodup_nil, fun x => by simp [startT], ⟨fun _ => 0, fun x h => (nomatch h), fun x h => (nomatch h)⟩⟩
  · rcases (w2 y).1 hy with h | ⟨h1, h2, h3⟩
    · cases h
    · rw [w1]
      exact ⟨by rw [List.mem_singleton.1 h2]; exact hO0, h3⟩
  · by_cases h0 : q = 0
    · subst h0
      exact .inr ⟨f, (w2 _).2 (.inr ⟨rfl, by simp, by rw [← w1]; exact hs⟩)⟩
    · obtain ⟨x, x1, x2⟩ := hO1 q hq h0
      rw [hv] at hs
      have : 0 < (O.flatMap N).count q := List.count_pos_iff.2 (List.mem_flatMap.2 ⟨x, x1, x2⟩)
      omega
/-- A walk, step by step, with a state. -/
theorem GoT.ind {σ : Type} {mv : σ → Nat → Bool} {ms : σ → Nat → σ} {N : Nat → List Nat} {I : σ → Tr → Prop} {a b : σ × Tr} (h : GoT mv ms N a b) (h0 : I a.1 a.2) (hs : ∀ s T st0 f x, I s T → T.st = st0 ++ [(f, x)] → I (stepT mv ms N st0 f x s T).1 (stepT mv ms N st0 f x s T).2) : I b.1 b.2 := by
  induction h with
  | refl => exact h0
  | next _ e ih => exact hs _ _ _ _ _ ih e
end Gra

namespace Gra
/-- Numbers from the last one down to t are in the forest: of each, who stands above it (or further up), and the least of those on the way. -/
structure ForI (m : Nat) (par : Nat → Nat) (t : Nat) (low over best : Nat → Int) : Prop where
  lo : ∀ j, j < m → ∃ x : Nat, low j = x ∧ x ≤ j
  un : ∀ j, j ≤ t → j < m → over j = -1 ∧ best j = j
  ov : ∀ j, t < j → j < m → ∃ a : Nat, over j = a ∧ Anc par a j ∧ a < j ∧ (∀ v, Anc par v j → a < v → t < v) ∧ ∃ b : Nat, best j = b ∧ Anc par b j ∧ a < b ∧ ∀ v, Anc par v j → a < v → low b ≤ low v
section
variable {m t : Nat} {par : Nat → Nat} {low over best : Nat → Int} {E : Nat → Nat → Prop}
/-- One way up is shortened. -/
theorem ForI.short (D : Deep m E par) (h : ForI m par t low over best) {j a : Nat} (hj : t < j) (hm : j < m) (ha : over j = a) (hat : t < a) {bj ba : Nat} (hbj : best j = bj) (hba : best a = ba) :
    ∃ r : Nat, over a = r ∧ r < a ∧ ForI m par t low (upn over j r) (if low ba < low bj then upn best j ba else best) := by
  obtain ⟨a', e1, a1, a2, a3, b, e2, b1, b2, b3⟩ := h.ov j hj hm
  obtain rfl : a = a' := by omega
  obtain rfl : bj = b := by omega
  obtain ⟨r, e3, r1, r2, r3, c, e4, c1, c2, c3⟩ := h.ov a hat (by omega)
  obtain rfl : ba = c := by omega
  refine ⟨r, e3, r2, h.lo, fun i hi hi' => ?_, fun i hi hi' => ?_⟩
  · have := h.un i hi hi'
    have hne : i ≠ j := by omega
    refine ⟨by rw [upn_off _ _ hne]; exact this.1, ?_⟩
    split
    · rw [upn_off _ _ hne]; exact this.2
    · exact this.2
  · by_cases e : i = j
    · subst e
      have hdn : ∀ v, Anc par v i → v ≤ a → Anc par v a := fun v hv hva => D.iv v a i hm hv hva (by omega)
      refine ⟨r, upn_at _ _ _, r1.trans a1, by omega, fun v hv hrv => ?_, ?_⟩
      · rcases Nat.lt_or_ge a v with q | q
        · exact a3 v hv q
        · exact r3 v (hdn v hv q) hrv
      · by_cases q : low ba < low bj
        · rw [if_pos q]
          refine ⟨ba, upn_at _ _ _, c1.trans a1, c2, fun v hv hrv => ?_⟩
          rcases Nat.lt_or_ge a v with q' | q'
          · have := b3 v hv q'; omega
          · exact c3 v (hdn v hv q') hrv
        · rw [if_neg q]
          refine ⟨bj, hbj, b1, by omega, fun v hv hrv => ?_⟩
          rcases Nat.lt_or_ge a v with q' | q'
          · exact b3 v hv q'
          · have := c3 v (hdn v hv q') hrv; omega
    · obtain ⟨a', f1, f2, f3, f4, b', f5, f6⟩ := h.ov i hi hi'
      refine ⟨a', by rw [upn_off _ _ e]; exact f1, f2, f3, f4, b', ?_, f6⟩
      split
      · rw [upn_off _ _ e]; exact f5
      · exact f5
/-- Who is the least above a number, where its way up is short. -/
def LeastU (par : Nat → Nat) (t : Nat) (low : Nat → Int) (k u : Nat) : Prop := Anc par u k ∧ t < u ∧ ∀ v, Anc par v k → t < v → low u ≤ low v
theorem ForI.bestU (D : Deep m E par) (h : ForI m par t low over best) {k : Nat} (hk : t < k) (hm : k < m) (hr : over k ≤ (t : Int)) : ∃ u : Nat, best k = u ∧ u < m ∧ LeastU par t low k u := by
  obtain ⟨a, e1, a1, a2, a3, b, e2, b1, b2, b3⟩ := h.ov k hk hm
  have := D.anc_le b1 hm
  exact ⟨b, e2, by omega, b1, a3 b b1 b2, fun v hv hv' => b3 v hv (by omega)⟩
theorem ForI.lowU (h : ForI m par t low over best) {i x : Nat} (hi : i ≤ t) (hx : x ≤ i) : ForI m par t (upn low i x) over best := by
  refine ⟨fun j hj => ?_, h.un, fun j hj hm => ?_⟩
  · by_cases e : j = i
    · subst e; exact ⟨x, upn_at _ _ _, hx⟩
    · obtain ⟨y, y1, y2⟩ := h.lo j hj
      exact ⟨y, by rw [upn_off _ _ e]; exact y1, y2⟩
  · obtain ⟨a, e1, a1, a2, a3, b, e2, b1, b2, b3⟩ := h.ov j hj hm
    refine ⟨a, e1, a1, a2, a3, b, e2, b1, b2, fun v hv hv' => ?_⟩
    have h1 := a3 v hv hv'
    have h2 := a3 b b1 b2
    rw [upn_off _ _ (by omega), upn_off _ _ (by omega)]
    exact b3 v hv hv'
theorem ForI.link (D : Deep m E par) {k : Nat} (h : ForI m par k low over best) (h0 : 0 < k) (hk : k < m) : ForI m par (k - 1) low (upn over k (par k : Nat)) best := by
  refine ⟨h.lo, fun j hj hm => ?_, fun j hj hm => ?_⟩
  · have := h.un j (by omega) hm
    exact ⟨by rw [upn_off _ _ (by omega)]; exact this.1, this.2⟩
  · by_cases e : j = k
    · subst e
      have hp := D.lt j h0 hk
      have hv : ∀ v, Anc par v j → par j < v → v = j := fun v hv hlt => by
        cases hv with
        | refl => rfl
        | up _ hh => have := D.anc_le hh (by omega); omega
      refine ⟨par j, upn_at _ _ _, .up h0 (.refl _), hp, fun v h1 h2 => by rw [hv v h1 h2]; omega, j, (h.un j (Nat.le_refl _) hm).2, .refl _, hp, fun v h1 h2 => by rw [hv v h1 h2]; exact Int.le_refl _⟩
    · obtain ⟨a, e1, a1, a2, a3, b, e2, b1, b2, b3⟩ := h.ov j (by omega) hm
      exact ⟨a, by rw [upn_off _ _ e]; exact e1, a1, a2, fun v h1 h2 => by have := a3 v h1 h2; omega, b, e2, b1, b2, b3⟩
/-- The least ones, found from the last number down to t. -/
structure LowI (m : Nat) (E : Nat → Nat → Prop) (t : Nat) (low : Nat → Int) : Prop where
  un : ∀ j, j ≤ t → j < m → low j = j
  sd : ∀ j, t < j → j < m → ∃ x : Nat, low j = x ∧ Hi E j x ∧ ∀ y, Hi E j y → x ≤ y
/-- While it is being found for k: what was looked at. -/
structure LowK (m : Nat) (E : Nat → Nat → Prop) (par : Nat → Nat) (k : Nat) (low : Nat → Int) (seen : Nat → Prop) : Prop where
  un : ∀ j, j < k → low j = j
  sd : ∀ j, k < j → j < m → ∃ x : Nat, low j = x ∧ Hi E j x ∧ ∀ y, Hi E j y → x ≤ y
  me : ∃ x : Nat, low k = x ∧ x ≤ k ∧ (x = k ∨ Hi E k x)
  cov : ∀ y, seen y → (y < k → low k ≤ y) ∧ ∀ v, Anc par v y → k < v → low k ≤ low v
theorem LowI.begin {k : Nat} (h : LowI m E k low) (hk : k < m) : LowK m E par k low (fun _ => False) :=
  ⟨fun j hj => h.un j (by omega) (by omega), h.sd, ⟨k, h.un k (Nat.le_refl _) hk, Nat.le_refl _, .inl rfl⟩, fun _ h => h.elim⟩
theorem hi_down (D : Deep m E par) {k u x y : Nat} (h : Hi E u x) (hu : k < u) (ha : Anc par u y) (e : E y k) : Hi E k x := by
  have hy := (D.lim _ _ e).1
  have h1 : Hi E k u := Hi.of_fw ((D.fall ha hy).mono fun v hv => by omega) e
  induction h with
  | one e' => exact .more e' hu h1
  | more e' hz _ ih => exact .more e' (by omega) ih
theorem LowK.step (D : Deep m E par) {k y : Nat} {seen : Nat → Prop} (h : LowK m E par k low seen) (e : E y k) {u : Nat} (hu : (y ≤ k ∧ u = y) ∨ (k < y ∧ LeastU par k low y u)) :
    ∃ x : Nat, min (low k) (low u) = x ∧ x ≤ k ∧ LowK m E par k (upn low k x) fun z => seen z ∨ z = y := by
  obtain ⟨c, c1, c2, c3⟩ := h.me
  have hy := (D.lim _ _ e).1
  have hc : ∃ z : Nat, low u = z ∧ (z = c ∨ Hi E k z) ∧ (y < k → z ≤ y) ∧ ∀ v, Anc par v y → k < v → (z : Int) ≤ low v := by
    rcases hu with ⟨h1, rfl⟩ | ⟨h1, h2⟩
    · rcases Nat.lt_or_ge u k with q | q
      · exact ⟨u, h.un u q, .inr (.one e), fun _ => Nat.le_refl _, fun v hv hkv => by have := D.anc_le hv hy; omega⟩
      · obtain rfl : u = k := by omega
        exact ⟨c, c1, .inl rfl, fun q => by omega, fun v hv hkv => by have := D.anc_le hv hy; omega⟩
    · have hum : u < m := by have := D.anc_le h2.1 hy; omega
      obtain ⟨x, x1, x2, x3⟩ := h.sd u h2.2.1 hum
      exact ⟨x, x1, .inr (hi_down D x2 h2.2.1 h2.1 e), fun q => by omega, fun v hv hkv => by have := h2.2.2 v hv hkv; omega⟩
  obtain ⟨z, z1, z2, z3, z4⟩ := hc
  refine ⟨min c z, by omega, by omega, fun j hj => by rw [upn_off _ _ (by omega)]; exact h.un j hj, fun j hj hm => by rw [upn_off _ _ (by omega)]; exact h.sd j hj hm, ⟨min c z, upn_at _ _ _, by omega, ?_⟩, fun w hw => ?_⟩
  · rcases Nat.le_total c z with q | q
    · rw [Nat.min_eq_left q]; exact c3
    · rw [Nat.min_eq_right q]
      exact z2.elim (fun e => e ▸ c3) .inr
  · rw [upn_at]
    rcases hw with hw | rfl
    · obtain ⟨w1, w2⟩ := h.cov w hw
      refine ⟨fun q => by have := w1 q; omega, fun v hv hkv => ?_⟩
      rw [upn_off _ _ (by omega)]
      have := w2 v hv hkv
      omega
    · refine ⟨fun q => by have := z3 q; omega, fun v hv hkv => ?_⟩
      rw [upn_off _ _ (by omega)]
      have := z4 v hv hkv
      omega
theorem LowK.done (D : Deep m E par) {k : Nat} {seen : Nat → Prop} (h : LowK m E par k low seen) (h0 : 0 < k) (hk : k < m) (hall : ∀ y, E y k → seen y) :
    ∃ x : Nat, low k = x ∧ x < k ∧ LowI m E (k - 1) low := by
  obtain ⟨c, c1, c2, c3⟩ := h.me
  have hp := D.lt k h0 hk
  have h1 := (h.cov _ (hall _ (D.tree k h0 hk))).1 hp
  have hck : c < k := by omega
  have hl : ∀ x, Hi E k x → c ≤ x := fun x hx => by
    rcases Nat.lt_or_ge x k with q | q
    · rcases hx.fw with e | ⟨y, e, hy, z, w1, w2⟩
      · have := (h.cov x (hall x e)).1 q
        omega
      · obtain ⟨u, u1, u2, u3⟩ := D.first w1 (D.lim _ _ w2).1
        have := (h.cov z (hall z w2)).2 u u2 u1
        have hum : u < m := by have := D.anc_le u2 (D.lim _ _ w2).1; have := (D.lim _ _ w2).1; omega
        obtain ⟨s, s1, s2, s3⟩ := h.sd u u1 hum
        have := s3 x (by
          rcases u3 with rfl | ⟨u4, u5⟩
          · exact .one e
          · exact .more e u4 u5)
        omega
    · omega
  refine ⟨c, c1, hck, fun j hj _ => h.un j (by omega), fun j hj hm => ?_⟩
  by_cases q : j = k
  · subst q
    exact ⟨c, c1, c3.resolve_left (by omega), hl⟩
  · exact h.sd j (by omega) hm
/-- Numbers held one behind the other. -/
def Lst (behind : Nat → Int) : Int → List Nat → Prop
  | x, [] => x = -1
  | x, j :: l => x = j ∧ Lst behind (behind j) l
theorem Lst.congr {f g : Nat → Int} : ∀ {l : List Nat} {x : Int}, Lst f x l → (∀ j ∈ l, g j = f j) → Lst g x l
  | [], _, h, _ => h
  | j :: l, _, h, e => ⟨h.1, by rw [e j (by simp)]; exact h.2.congr fun i hi => e i (List.mem_cons_of_mem _ hi)⟩
/-- What the nearest one is told by, at first. -/
def One1 (par : Nat → Nat) (low near : Nat → Int) (t j : Nat) : Prop := (∀ v : Nat, Anc par v j → low j < v → t < v) ∧
  ((near j = low j ∧ ∀ v : Nat, Anc par v j → low j < v → low j ≤ low v) ∨ ∃ u : Nat, near j = u ∧ Anc par u j ∧ low j < u ∧ u < j ∧ low u < low j ∧ ∀ v : Nat, Anc par v j → low j < v → low u ≤ low v)
/-- What is held, what waits, what is told. -/
structure ShI (m : Nat) (par : Nat → Nat) (low : Nat → Int) (t1 t2 : Nat) (R : List Nat) (first behind near : Nat → Int) (L : Nat → List Nat) : Prop where
  lst : ∀ p, p < m → Lst behind (first p) (L p)
  mem : ∀ p, p < m → ∀ j ∈ L p, t1 < j ∧ j < m ∧ low j = p ∧ ∀ c, t2 < c → c < m → par c = p → ¬ Anc par c j
  rem : ∀ j ∈ R, t1 < j ∧ j < m
  one : ∀ j, t1 < j → j < m → One1 par low near t2 j ∨ j ∈ L (low j).toNat ∨ j ∈ R
theorem ShI.put (D : Deep m E par) {k p : Nat} {first behind near : Nat → Int} {L : Nat → List Nat} (h : ShI m par low k k [] first behind near L) (h0 : 0 < k) (hk : k < m) (hp : low k = p) (hpk : p < k) :
    ShI m par low (k - 1) k [] (upn first p (k : Nat)) (upn behind k (first p)) near (upn L p (k :: L p)) := by
  refine ⟨fun q hq => ?_, fun q hq j hj => ?_, fun j hj => (nomatch hj), fun j hj hm => ?_⟩
  · have hl := (h.lst q hq).congr (g := upn behind k (first p)) fun j hj => upn_off _ _ (by have := (h.mem q hq j hj).1; omega)
    by_cases e : q = p
    · subst e
      rw [upn_at, upn_at]
      exact ⟨rfl, by rw [upn_at]; exact hl⟩
    · rw [upn_off _ _ e, upn_off _ _ e]
      exact hl
  · by_cases e : q = p
    · subst e
      rw [upn_at] at hj
      rcases List.mem_cons.1 hj with rfl | hj
      · exact ⟨by omega, hk, hp, fun c hc hcm _ ha => by have := D.anc_le ha hk; omega⟩
      · have := h.mem q hq j hj
        exact ⟨by omega, this.2⟩
    · rw [upn_off _ _ e] at hj
      have := h.mem q hq j hj
      exact ⟨by omega, this.2⟩
  · by_cases e : j = k
    · subst e
      refine .inr (.inl ?_)
      rw [hp, Int.toNat_natCast, upn_at]
      simp
    · rcases h.one j (by omega) hm with h1 | h1 | h1
      · exact .inl h1
      · refine .inr (.inl ?_)
        unfold upn
        split
        · rename_i q; rw [← q]; exact List.mem_cons_of_mem _ h1
        · exact h1
      · cases h1
theorem ShI.take (D : Deep m E par) {k : Nat} {first behind near : Nat → Int} {L : Nat → List Nat} (h : ShI m par low (k - 1) k [] first behind near L) (h0 : 0 < k) (hk : k < m) :
    ShI m par low (k - 1) (k - 1) (L (par k)) (upn first (par k) (-1)) behind near (upn L (par k) []) ∧ ∀ j ∈ L (par k), low j = (par k : Nat) := by
  have hp := D.lt k h0 hk
  refine ⟨⟨fun q hq => ?_, fun q hq j hj => ?_, fun j hj => ?_, fun j hj hm => ?_⟩, fun j hj => (h.mem _ (by omega) j hj).2.2.1⟩
  · by_cases e : q = par k
    · subst e; rw [upn_at, upn_at]; rfl
    · rw [upn_off _ _ e, upn_off _ _ e]; exact h.lst q hq
  · by_cases e : q = par k
    · subst e; rw [upn_at] at hj; cases hj
    · rw [upn_off _ _ e] at hj
      obtain ⟨h1, h2, h3, h4⟩ := h.mem q hq j hj
      refine ⟨h1, h2, h3, fun c hc hcm hpc => ?_⟩
      by_cases q' : c = k
      · subst q'; exact absurd hpc.symm e
      · exact h4 c (by omega) hcm hpc
  · have := h.mem _ (by omega) j hj
    exact ⟨this.1, this.2.1⟩
  · rcases h.one j hj hm with h1 | h1 | h1
    · exact .inl ⟨fun v hv hlt => by have := h1.1 v hv hlt; omega, h1.2⟩
    · by_cases e : (low j).toNat = par k
      · rw [e] at h1; exact .inr (.inr h1)
      · refine .inr (.inl ?_)
        rw [upn_off _ _ e]; exact h1
    · cases h1
/-- One that was held is told. -/
theorem ShI.told (D : Deep m E par) {k j u : Nat} {R : List Nat} {first behind near : Nat → Int} {L : Nat → List Nat} (h : ShI m par low (k - 1) (k - 1) (j :: R) first behind near L) (h0 : 0 < k) (hk : k < m) (hj : low j = (par k : Nat)) (hlj : Anc par (par k) j) (hu : LeastU par (k - 1) low j u) :
    ShI m par low (k - 1) (k - 1) R first behind (upn near j (if low u < (par k : Nat) then (u : Int) else (par k : Nat))) L := by
  have hp := D.lt k h0 hk
  have hjm := h.rem j (by simp)
  refine ⟨h.lst, h.mem, fun i hi => h.rem i (List.mem_cons_of_mem _ hi), fun i hi hm => ?_⟩
  by_cases e : i = j
  · subst e
    have hlow : ∀ v : Nat, Anc par v i → low i < v → k - 1 < v := fun v hv hlt => by
      apply Classical.byContradiction
      intro hc
      rw [hj] at hlt
      have h1 : Anc par v k := D.iv v k i hjm.2 hv (by omega) (by omega)
      cases h1 with
      | refl => omega
      | up _ hh => have := D.anc_le hh (by omega); omega
    refine .inl ⟨hlow, ?_⟩
    rw [upn_at]
    by_cases q : low u < (par k : Nat)
    · rw [if_pos q]
      refine .inr ⟨u, rfl, hu.1, by rw [hj]; have := hu.2.1; omega, ?_, by rw [hj]; exact q, fun v hv hlt => hu.2.2 v hv (hlow v hv hlt)⟩
      have h1 := D.anc_le hu.1 hjm.2
      rcases Nat.lt_or_ge u i with q' | q'
      · exact q'
      · obtain rfl : u = i := by omega
        rw [hj] at q; omega
    · rw [if_neg q]
      exact .inl ⟨hj.symm, fun v hv hlt => by have := hu.2.2 v hv (hlow v hv hlt); omega⟩
  · rcases h.one i hi hm with h1 | h1 | h1
    · refine .inl ?_
      unfold One1
      rw [upn_off _ _ e]
      exact h1
    · exact .inr (.inl h1)
    · exact .inr (.inr ((List.mem_cons.1 h1).resolve_left e))
/-- Behind all numbers each is told. -/
theorem ShI.end (D : Deep m E par) {first behind near : Nat → Int} {L : Nat → List Nat} (h : ShI m par low 0 0 [] first behind near L) (hS : LowI m E 0 low) : ∀ j, 0 < j → j < m → One1 par low near 0 j := fun j hj hm => by
  rcases h.one j hj hm with h1 | h1 | h1
  · exact h1
  · obtain ⟨p, hp, hh, hl⟩ := hS.sd j hj hm
    have hpj : p < j := by
      have := hl _ (.one (D.tree j hj hm))
      have := D.lt j hj hm
      omega
    rw [hp, Int.toNat_natCast] at h1
    obtain ⟨_, _, _, h5⟩ := h.mem p (by omega) j h1
    have key : ∀ b, Anc par p b → p < b → b < m → ∃ c, 0 < c ∧ c < m ∧ par c = p ∧ Anc par c b := fun b hb => by
      induction hb with
      | refl => intro q; omega
      | @up b hb0 hh ih =>
        intro q hbm
        by_cases e : p = par b
        · exact ⟨b, hb0, hbm, e.symm, .refl _⟩
        · have hle := D.anc_le hh (by have := D.lt b hb0 hbm; omega)
          obtain ⟨c, c1, c2, c3, c4⟩ := ih (by omega) (by have := D.lt b hb0 hbm; omega)
          exact ⟨c, c1, c2, c3, .up hb0 c4⟩
    obtain ⟨c, c1, c2, c3, c4⟩ := key j (D.hi_anc hh hpj) hpj hm
    exact absurd c4 (h5 c c1 c2 c3)
  · cases h1
/-- The second look: those below k are told at last. -/
structure NearK (m : Nat) (par : Nat → Nat) (low : Nat → Int) (k : Nat) (near : Nat → Int) : Prop where
  lt : ∀ j, j < m → 0 ≤ near j ∧ near j < m
  old : ∀ j, k ≤ j → 0 < j → j < m → One1 par low near 0 j
  one : ∀ j, 0 < j → j < k → (near j = low j ∧ ∀ u : Nat, Anc par u j → low j < u → low j ≤ low u) ∨
    ∃ u : Nat, Anc par u j ∧ low j < u ∧ u < j ∧ low u < low j ∧ near j = near u ∧ ∀ v : Nat, Anc par v j → low j < v → low u ≤ low v
theorem NearK.next {k : Nat} {near : Nat → Int} (h : NearK m par low k near) (h0 : 0 < k) (hk : k < m) :
    NearK m par low (k + 1) (if near k = low k then near else upn near k (near (near k).toNat)) := by
  have ho := h.old k (Nat.le_refl _) h0 hk
  by_cases e : near k = low k
  · rw [if_pos e]
    refine ⟨h.lt, fun j hj => h.old j (by omega), fun j hj hjk => ?_⟩
    by_cases q : j = k
    · subst q
      rcases ho.2 with h1 | ⟨u, u1, u2, u3, u4, u5, u6⟩
      · exact .inl h1
      · rw [e] at u1
        omega
    · exact h.one j hj (by omega)
  · rw [if_neg e]
    obtain ⟨u, u1, u2, u3, u4, u5, u6⟩ := ho.2.resolve_left fun h1 => e h1.1
    have hu : (near k).toNat = u := by omega
    rw [hu]
    refine ⟨fun j hj => ?_, fun j hj hj0 hm => ?_, fun j hj hjk => ?_⟩
    · unfold upn
      split
      · exact h.lt u (by omega)
      · exact h.lt j hj
    · have := h.old j (by omega) hj0 hm
      unfold One1 at this ⊢
      rw [upn_off _ _ (by omega)]
      exact this
    · by_cases q : j = k
      · subst q
        refine .inr ⟨u, u2, u3, u4, u5, ?_, u6⟩
        rw [upn_at, upn_off _ _ (by omega)]
      · rw [upn_off _ _ q]
        rcases h.one j hj (by omega) with h1 | ⟨v, v1, v2, v3, v4, v5, v6⟩
        · exact .inl h1
        · refine .inr ⟨v, v1, v2, v3, v4, ?_, v6⟩
          rw [upn_off _ _ (by omega)]
          exact v5
/-- Lengauer's and Tarjan's answer. -/
theorem near_done (D : Deep m E par) {near : Nat → Int} (h : NearK m par low m near) (hS : LowI m E 0 low) :
    ∃ sd : Nat → Nat, Semi m E sd ∧ Near m par sd fun j => (near j).toNat := by
  have hsd : ∀ j, 0 < j → j < m → ∃ x : Nat, low j = x ∧ Hi E j x ∧ ∀ y, Hi E j y → x ≤ y := fun j h0 hm => hS.sd j h0 hm
  have hu0 : ∀ (u j : Nat), low j < u → 0 < j → j < m → 0 < u := fun u j h h0 hm => by
    obtain ⟨x, h1, _⟩ := hsd j h0 hm
    omega
  refine ⟨fun j => (low j).toNat, ⟨fun k h0 hk => ?_, fun k h0 hk x hx => ?_⟩, ⟨fun k h0 hk => ?_⟩⟩
  · obtain ⟨x, h1, h2, h3⟩ := hsd k h0 hk
    simp only [h1, Int.toNat_natCast]; exact h2
  · obtain ⟨z, h1, h2, h3⟩ := hsd k h0 hk
    simp only [h1, Int.toNat_natCast]; exact h3 x hx
  · obtain ⟨z, z1, z2, z3⟩ := hsd k h0 hk
    have hcv : ∀ v, Anc par v k → (low k).toNat < v → ∃ y : Nat, low v = y := fun v hv hlt => by
      have h1 := D.anc_le hv hk
      obtain ⟨y, y1, _⟩ := hsd v (hu0 v k (by omega) h0 hk) (by omega)
      exact ⟨y, y1⟩
    rcases h.one k h0 hk with ⟨h1, h2⟩ | ⟨u, u1, u2, u3, u4, u5, u6⟩
    · refine .inl ⟨by simp only [h1], fun u hu hlt => ?_⟩
      obtain ⟨y, hy⟩ := hcv u hu hlt
      have := h2 u hu (by omega)
      omega
    · refine .inr ⟨u, u1, by omega, u3, ?_, by simp only [u5], fun v hv hlt => ?_⟩
      · obtain ⟨y, hy⟩ := hcv u u1 (by omega)
        omega
      · obtain ⟨y, hy⟩ := hcv v hv hlt
        obtain ⟨y', hy'⟩ := hcv u u1 (by omega)
        have := u6 v hv (by omega)
        omega
end
end Gra

namespace Gra
/-- A sum over so many numbers from one on. -/
def Sm (f : Nat → Nat) (lo : Nat) : Nat → Nat
  | 0 => 0
  | n + 1 => f lo + Sm f (lo + 1) n
theorem Sm_succ (f : Nat → Nat) (lo n : Nat) : Sm f lo (n + 1) = f lo + Sm f (lo + 1) n := rfl
theorem Sm_congr {f g : Nat → Nat} : ∀ {n lo : Nat}, (∀ j, lo ≤ j → j < lo + n → f j = g j) → Sm f lo n = Sm g lo n
  | 0, _, _ => rfl
  | n + 1, lo, h => by
    unfold Sm
    rw [h lo (Nat.le_refl _) (by omega), Sm_congr fun j h1 h2 => h j (by omega) (by omega)]
theorem Sm_add (f : Nat → Nat) : ∀ (n lo m : Nat), Sm f lo (n + m) = Sm f lo n + Sm f (lo + n) m
  | 0, lo, m => by simp [Sm]
  | n + 1, lo, m => by
    rw [show n + 1 + m = (n + m) + 1 by omega, Sm_succ, Sm_succ, Sm_add f n (lo + 1) m, show lo + 1 + n = lo + (n + 1) by omega]
    omega
theorem Sm_last (f : Nat → Nat) (n lo : Nat) : Sm f lo (n + 1) = Sm f lo n + f (lo + n) := by
  rw [Sm_add f n lo 1]
  simp [Sm]
theorem Sm_ge {f : Nat → Nat} : ∀ {n lo j : Nat}, lo ≤ j → j < lo + n → f j ≤ Sm f lo n
  | 0, lo, j, h1, h2 => by omega
  | n + 1, lo, j, h1, h2 => by
    unfold Sm
    by_cases e : j = lo
    · subst e; omega
    · have := Sm_ge (f := f) (n := n) (lo := lo + 1) (j := j) (by omega) (by omega)
      omega
theorem Sm_up {f : Nat → Nat} {v : Nat} : ∀ {n lo j : Nat}, lo ≤ j → j < lo + n → Sm (upn f j v) lo n + f j = Sm f lo n + v
  | 0, lo, j, h1, h2 => by omega
  | n + 1, lo, j, h1, h2 => by
    unfold Sm
    by_cases e : j = lo
    · subst e
      rw [upn_at, Sm_congr (f := upn f j v) (g := f) fun i h3 h4 => upn_off _ _ (by omega)]
      omega
    · rw [upn_off f v (show lo ≠ j by omega)]
      have := Sm_up (f := f) (v := v) (n := n) (lo := lo + 1) (j := j) (by omega) (by omega)
      omega
theorem Sm_zero {f : Nat → Nat} {n lo : Nat} (h : ∀ j, lo ≤ j → j < lo + n → f j = 0) : Sm f lo n = 0 := by
  have h1 := Sm_congr (f := f) (g := fun _ => 0) h
  rw [h1]
  clear h h1
  induction n generalizing lo with
  | zero => rfl
  | succ n ih => unfold Sm; rw [ih]
/-- What a number under a adds. -/
def addF (nr o : Nat → Nat) (a j : Nat) : Nat := if nr j = a then o j + 1 else 0
/-- How many stand below each, those above t being counted. -/
structure CntI (K : Nat) (nr o : Nat → Nat) (t : Nat) : Prop where
  val : ∀ a, a < K → o a = Sm (addF nr o a) (t + 1) (K - 1 - t)
  all : Sm o 0 (t + 1) = K - 1 - t
  bd : ∀ a, a < K → o a ≤ K
theorem CntI.start {K : Nat} (nr : Nat → Nat) : CntI K nr (fun _ => 0) (K - 1) :=
  ⟨fun a _ => by rw [Nat.sub_self]; rfl, by rw [Nat.sub_self]; exact Sm_zero fun _ _ _ => rfl, fun _ _ => Nat.zero_le _⟩
theorem CntI.step {K : Nat} {nr o : Nat → Nat} {k : Nat} (h : CntI K nr o k) (h0 : 0 < k) (hk : k < K) (hlt : nr k < k) : CntI K nr (upn o (nr k) (o (nr k) + (o k + 1))) (k - 1) := by
  have hall : Sm (upn o (nr k) (o (nr k) + (o k + 1))) 0 (k - 1 + 1) = K - 1 - (k - 1) := by
    have h1 := Sm_up (f := o) (v := o (nr k) + (o k + 1)) (n := k - 1 + 1) (lo := 0) (j := nr k) (by omega) (by omega)
    have h2 := Sm_last o k 0
    rw [Nat.zero_add] at h2
    have h3 := h.all
    rw [h2] at h3
    rw [show k - 1 + 1 = k by omega] at h1 ⊢
    omega
  refine ⟨fun a ha => ?_, hall, fun a ha => ?_⟩
  · rw [show k - 1 + 1 = k by omega, show K - 1 - (k - 1) = (K - 1 - k) + 1 by omega]
    unfold Sm
    have h1 : Sm (addF nr (upn o (nr k) (o (nr k) + (o k + 1))) a) (k + 1) (K - 1 - k) = Sm (addF nr o a) (k + 1) (K - 1 - k) := Sm_congr fun j h1 h2 => by
      unfold addF
      rw [upn_off o _ (show j ≠ nr k by omega)]
    rw [h1, ← h.val a ha]
    unfold addF
    rw [upn_off o _ (show k ≠ nr k by omega)]
    by_cases e : nr k = a
    · subst e; rw [upn_at, if_pos rfl]; omega
    · rw [upn_off o _ (fun q => e q.symm), if_neg e]; omega
  · by_cases e : a = nr k
    · have := Sm_ge (f := upn o (nr k) (o (nr k) + (o k + 1))) (n := k - 1 + 1) (lo := 0) (j := nr k) (by omega) (by omega)
      rw [e]
      omega
    · rw [upn_off o _ e]; exact h.bd a ha
/-- Where each number stands in the row. -/
def atF (nr S : Nat → Nat) : Nat → Nat
  | 0 => 0
  | j + 1 => if h : nr (j + 1) < j + 1 then atF nr S (nr (j + 1)) + 1 + Sm (addF nr S (nr (j + 1))) 1 j else 0
termination_by j => j
theorem atF_zero (nr S : Nat → Nat) : atF nr S 0 = 0 := by unfold atF; rfl
theorem atF_pos {nr S : Nat → Nat} {j : Nat} (h0 : 0 < j) (h : nr j < j) : atF nr S j = atF nr S (nr j) + 1 + Sm (addF nr S (nr j)) 1 (j - 1) := by
  obtain ⟨i, rfl⟩ : ∃ i, j = i + 1 := ⟨j - 1, by omega⟩
  rw [atF, dif_pos h]
  rfl
section
variable {K : Nat} {nr S : Nat → Nat} (hlt : ∀ k, 0 < k → k < K → nr k < k) (hS : ∀ a, a < K → S a = Sm (addF nr S a) 1 (K - 1))
include hlt hS
/-- What stands below lies within. -/
theorem at_child {j : Nat} (h0 : 0 < j) (hj : j < K) : atF nr S (nr j) < atF nr S j ∧ atF nr S j + S j ≤ atF nr S (nr j) + S (nr j) := by
  have h1 := hlt j h0 hj
  have h2 := atF_pos (S := S) h0 h1
  have h3 := hS (nr j) (by omega)
  rw [show K - 1 = (j - 1) + ((K - 1 - j) + 1) by omega, Sm_add, show 1 + (j - 1) = j by omega] at h3
  rw [Sm_succ] at h3
  have h4 : addF nr S (nr j) j = S j + 1 := if_pos rfl
  have h5 : Sm (addF nr S (nr j)) 1 (j - 1) + (addF nr S (nr j) j + Sm (addF nr S (nr j)) (j + 1) (K - 1 - j)) = S (nr j) := h3.symm
  omega
theorem at_anc {a b : Nat} (h : Anc nr a b) (hb : b < K) : atF nr S a ≤ atF nr S b ∧ atF nr S b + S b ≤ atF nr S a + S a := by
  induction h with
  | refl => exact ⟨Nat.le_refl _, Nat.le_refl _⟩
  | @up b h0 _ ih =>
    have h1 := hlt b h0 hb
    have h2 := ih (by omega)
    have h3 := at_child hlt hS h0 hb
    omega
theorem at_bd {b : Nat} (hb : b < K) : atF nr S b + S b ≤ S 0 := by
  have hr : Anc nr 0 b := by
    induction b using Nat.strongRecOn with
    | ind b ih =>
      rcases Nat.eq_zero_or_pos b with h | h
      · subst h; exact .refl 0
      · have := hlt b h hb
        exact .up h (ih _ this (by omega))
  have := (at_anc hlt hS hr hb).2
  rw [atF_zero] at this
  omega
omit hS in
theorem at_sib {b c : Nat} (hc0 : 0 < c) (hcb : c < b) (hb : b < K) (e : nr c = nr b) : atF nr S c + S c < atF nr S b := by
  have h1 := hlt b (by omega) hb
  have h2 := atF_pos (S := S) (show 0 < b by omega) h1
  have h3 := atF_pos (S := S) hc0 (hlt c hc0 (by omega))
  rw [e] at h3
  have h4 : Sm (addF nr S (nr b)) 1 (b - 1) = Sm (addF nr S (nr b)) 1 (c - 1) + (addF nr S (nr b) c + Sm (addF nr S (nr b)) (c + 1) (b - 1 - c)) := by
    rw [show b - 1 = (c - 1) + ((b - 1 - c) + 1) by omega, Sm_add, show 1 + (c - 1) = c by omega]
    rw [show (c - 1) + ((b - 1 - c) + 1) - c = b - 1 - c by omega]
    rfl
  have h5 : addF nr S (nr b) c = S c + 1 := if_pos e
  omega
/-- Who stands above is told by two places in the row. -/
theorem at_iff : ∀ {n a b : Nat}, a + b ≤ n → a < K → b < K → (Anc nr a b ↔ atF nr S a ≤ atF nr S b ∧ atF nr S b ≤ atF nr S a + S a) := by
  intro n
  induction n with
  | zero =>
    intro a b hn ha hb
    obtain rfl : a = 0 := by omega
    obtain rfl : b = 0 := by omega
    exact ⟨fun _ => by omega, fun _ => .refl 0⟩
  | succ n ih =>
    intro a b hn ha hb
    refine ⟨fun h => ?_, fun ⟨h1, h2⟩ => ?_⟩
    · have := at_anc hlt hS h hb
      omega
    · by_cases e : a = b
      · subst e; exact .refl _
      rcases Nat.eq_zero_or_pos b with hb0 | hb0
      · subst hb0
        rw [atF_zero] at h1
        have := atF_pos (S := S) (show 0 < a by omega) (hlt a (by omega) ha)
        omega
      · have hp := hlt b hb0 hb
        have hc := at_child hlt hS hb0 hb
        by_cases q : atF nr S a ≤ atF nr S (nr b)
        · exact .up hb0 ((ih (by omega) ha (by omega)).2 ⟨q, by omega⟩)
        · have hpa : Anc nr (nr b) a := (ih (by omega) (by omega) ha).2 ⟨by omega, by omega⟩
          have key : ∀ a, Anc nr (nr b) a → a < K → a ≠ nr b → ∃ c, 0 < c ∧ c < K ∧ nr c = nr b ∧ Anc nr c a := fun a h => by
            induction h with
            | refl => intro _ h; exact absurd rfl h
            | @up a h0 hh ih2 =>
              intro haK _
              by_cases r : nr a = nr b
              · exact ⟨a, h0, haK, r, .refl _⟩
              · have := hlt a h0 haK
                obtain ⟨c, c1, c2, c3, c4⟩ := ih2 (by omega) r
                exact ⟨c, c1, c2, c3, .up h0 c4⟩
          obtain ⟨c, c1, c2, c3, c4⟩ := key a hpa ha (fun r => by rw [r] at q; omega)
          have hca := at_anc hlt hS c4 ha
          rcases Nat.lt_trichotomy c b with r | r | r
          · have := at_sib (S := S) hlt c1 r hb c3; omega
          · subst r
            cases c4 with
            | refl => exact absurd rfl e
            | up h0 hh =>
              have h9 := at_child hlt hS h0 ha
              have h8 := at_anc hlt hS hh (by have := hlt _ h0 ha; omega)
              omega
          · have := at_sib (S := S) hlt hb0 r c2 c3.symm; omega
end
end Gra

end Go.Proofs.YtggiaopdgijgnaaGreatDoor
