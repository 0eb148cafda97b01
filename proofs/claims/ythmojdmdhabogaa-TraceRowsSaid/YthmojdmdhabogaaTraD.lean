/- What package trace's functions mean, in plain numbers: sums of 64 bits, the first mark that is unlike, addresses, folds, rows by place and address, the most. Nothing of any program. -/
import Derived.Test.YthmojdmdhabogaaCorM
namespace Go.Proofs.Ythmojdmdhabogaa
open Go.RowKit

/-! ### Lists that rise -/
/-- A strict total order. -/
structure Tot {α : Type} (lt : α → α → Bool) : Prop where
  irr : ∀ x, lt x x = false
  tr : ∀ x y z, lt x y = true → lt y z = true → lt x z = true
  tri : ∀ x y, lt x y = false → lt y x = false → x = y
theorem Tot.asym {α : Type} {lt : α → α → Bool} (h : Tot lt) {x y : α} (e : lt x y = true) : lt y x = false := by
  cases k : lt y x with
  | false => rfl
  | true =>
    have := h.tr _ _ _ e k
    rw [h.irr] at this
    cases this
/-- x put into a list that rises, where it belongs, if it isn't there. -/
def ins {α : Type} [DecidableEq α] (lt : α → α → Bool) (x : α) : List α → List α
  | [] => [x]
  | y :: l => if lt y x = true then y :: ins lt x l else if y = x then y :: l else x :: y :: l
section
variable {α : Type} [DecidableEq α] {lt : α → α → Bool}
theorem mem_ins (x y : α) : ∀ l : List α, y ∈ ins lt x l ↔ y = x ∨ y ∈ l
  | [] => by simp [ins]
  | z :: l => by
    unfold ins
    split
    · simp only [List.mem_cons, mem_ins x y l]
      constructor
      · rintro (h | h | h) <;> simp [h]
      · rintro (h | h | h) <;> simp [h]
    · split
      · rename_i e
        subst e
        simp
      · simp
theorem ins_rises (hT : Tot lt) (x : α) : ∀ l : List α, l.Pairwise (fun a b => lt a b = true) → (ins lt x l).Pairwise (fun a b => lt a b = true)
  | [], _ => by simp [ins]
  | z :: l, h => by
    obtain ⟨h1, h2⟩ := List.pairwise_cons.1 h
    unfold ins
    split
    · rename_i e
      refine List.pairwise_cons.2 ⟨fun a ha => ?_, ins_rises hT x l h2⟩
      rcases (mem_ins x a l).1 ha with rfl | ha
      · exact e
      · exact h1 a ha
    · rename_i e
      split
      · exact h
      · rename_i ne
        have hxz : lt x z = true := by
          cases k : lt x z with
          | true => rfl
          | false => exact absurd (hT.tri _ _ (by simpa using e) k) ne
        refine List.pairwise_cons.2 ⟨fun a ha => ?_, h⟩
        rcases List.mem_cons.1 ha with rfl | ha
        · exact hxz
        · exact hT.tr _ _ _ hxz (h1 a ha)
theorem ins_len (x : α) : ∀ l : List α, (ins lt x l).length ≤ l.length + 1
  | [] => by simp [ins]
  | z :: l => by
    unfold ins
    split
    · have := ins_len x l
      simp
      omega
    · split <;> simp
theorem ins_in (hT : Tot lt) (x : α) : ∀ l : List α, l.Pairwise (fun a b => lt a b = true) → x ∈ l → ins lt x l = l
  | z :: l, h, hm => by
    obtain ⟨h1, h2⟩ := List.pairwise_cons.1 h
    unfold ins
    by_cases e : z = x
    · subst e
      rw [if_neg (by rw [hT.irr]; simp), if_pos rfl]
    · have hx : x ∈ l := (List.mem_cons.1 hm).resolve_left fun q => e q.symm
      rw [if_pos (h1 x hx), ins_in hT x l h2 hx]
/-- Where x belongs: what is ahead is less, what is there is not. -/
theorem ins_at [Inhabited α] (x : α) : ∀ (l : List α) (k : Nat), k ≤ l.length → (∀ j, j < k → lt (l.getD j default) x = true) → (k < l.length → lt (l.getD k default) x = false) →
    ins lt x l = if k < l.length ∧ l.getD k default = x then l else l.take k ++ x :: l.drop k
  | [], k, hk, _, _ => by
    obtain rfl : k = 0 := by simpa using hk
    simp [ins]
  | z :: l, 0, _, _, h0 => by
    have := h0 (by simp)
    simp only [List.getD_cons_zero] at this
    unfold ins
    rw [if_neg (by rw [this]; simp)]
    by_cases e : z = x
    · simp [e]
    · simp [e]
  | z :: l, k + 1, hk, h1, h0 => by
    have hz := h1 0 (by omega)
    simp only [List.getD_cons_zero] at hz
    have ih := ins_at x l k (by simpa using hk) (fun j hj => by have := h1 (j + 1) (by omega); simpa using this) (fun hl => by have := h0 (by simpa using hl); simpa using this)
    unfold ins
    rw [if_pos hz, ih]
    by_cases e : k < l.length ∧ l.getD k default = x
    · rw [if_pos e, if_pos (by simpa using e)]
    · rw [if_neg e, if_neg (by simpa using e)]
      simp
omit [DecidableEq α] in
theorem rises_nodup (hT : Tot lt) {l : List α} (h : l.Pairwise (fun a b => lt a b = true)) : l.Nodup :=
  h.imp fun {a b} e => fun q => by
    subst q
    rw [hT.irr] at e
    cases e
omit [DecidableEq α] in
/-- Two lists that rise and have the same members are one. -/
theorem rises_ext (hT : Tot lt) : ∀ l m : List α, l.Pairwise (fun a b => lt a b = true) → m.Pairwise (fun a b => lt a b = true) → (∀ x, x ∈ l ↔ x ∈ m) → l = m
  | [], [], _, _, _ => rfl
  | [], y :: m, _, _, h => absurd ((h y).2 (by simp)) (by simp)
  | x :: l, [], _, _, h => absurd ((h x).1 (by simp)) (by simp)
  | x :: l, y :: m, hl, hm, h => by
    obtain ⟨l1, l2⟩ := List.pairwise_cons.1 hl
    obtain ⟨m1, m2⟩ := List.pairwise_cons.1 hm
    have e : x = y := by
      rcases List.mem_cons.1 ((h x).1 (by simp)) with e | hx
      · exact e
      · rcases List.mem_cons.1 ((h y).2 (by simp)) with e | hy
        · exact e.symm
        · have := hT.asym (l1 y hy)
          rw [m1 x hx] at this
          cases this
    subst e
    congr 1
    refine rises_ext hT l m l2 m2 fun z => ⟨fun hz => ?_, fun hz => ?_⟩
    · rcases List.mem_cons.1 ((h z).1 (by simp [hz])) with rfl | hz'
      · have := l1 z hz
        rw [hT.irr] at this
        cases this
      · exact hz'
    · rcases List.mem_cons.1 ((h z).2 (by simp [hz])) with rfl | hz'
      · have := m1 z hz
        rw [hT.irr] at this
        cases this
      · exact hz'
/-- A list's members, rising, each once. -/
def rise (lt : α → α → Bool) (l : List α) : List α := l.foldl (fun r x => ins lt x r) []
theorem rise_snoc (l : List α) (x : α) : rise lt (l ++ [x]) = ins lt x (rise lt l) := by simp [rise]
theorem snoc_cases {β : Type} (l : List β) : l = [] ∨ ∃ m x, l = m ++ [x] := by
  rcases List.eq_nil_or_concat l with h | ⟨m, x, h⟩
  · exact .inl h
  · exact .inr ⟨m, x, by simpa using h⟩
theorem snoc_ind {β : Type} {p : List β → Prop} (h0 : p []) (h1 : ∀ l x, p l → p (l ++ [x])) (l : List β) : p l := by
  have : ∀ r : List β, p r.reverse := fun r => by
    induction r with
    | nil => exact h0
    | cons x r ih => rw [List.reverse_cons]; exact h1 _ x ih
  have h := this l.reverse
  rwa [List.reverse_reverse] at h
theorem mem_rise (l : List α) (x : α) : x ∈ rise lt l ↔ x ∈ l := by
  induction l using snoc_ind with
  | h0 => simp [rise]
  | h1 l y ih => rw [rise_snoc, mem_ins, ih]; simp [or_comm]
theorem rise_rises (hT : Tot lt) (l : List α) : (rise lt l).Pairwise (fun a b => lt a b = true) := by
  induction l using snoc_ind with
  | h0 => simp [rise]
  | h1 l y ih => rw [rise_snoc]; exact ins_rises hT y _ ih
theorem rise_len (l : List α) : (rise lt l).length ≤ l.length := by
  induction l using snoc_ind with
  | h0 => simp [rise]
  | h1 l y ih =>
    rw [rise_snoc]
    have := ins_len (lt := lt) y (rise lt l)
    simp
    omega
theorem rise_same (hT : Tot lt) {l m : List α} (h : ∀ x, x ∈ l ↔ x ∈ m) : rise lt l = rise lt m :=
  rises_ext hT _ _ (rise_rises hT l) (rise_rises hT m) fun x => by rw [mem_rise, mem_rise]; exact h x
end
/-- A list that has what rises, each once: it is what rises, turned about. -/
theorem perm_nodup {α : Type} [DecidableEq α] : ∀ {l m : List α}, l.Nodup → m.Nodup → (∀ x, x ∈ l ↔ x ∈ m) → l.Perm m
  | [], m, _, _, h => by
    cases m with
    | nil => exact .nil
    | cons y m => exact absurd ((h y).2 (by simp)) (by simp)
  | x :: l, m, hl, hm, h => by
    obtain ⟨l1, l2⟩ := List.nodup_cons.1 hl
    have hx := (h x).1 (by simp)
    have e := List.perm_cons_erase hx
    refine (List.Perm.cons x (perm_nodup l2 (hm.erase x) fun y => ?_)).trans e.symm
    rw [hm.mem_erase_iff]
    constructor
    · intro hy
      exact ⟨fun q => l1 (q ▸ hy), (h y).1 (by simp [hy])⟩
    · rintro ⟨hne, hy⟩
      exact (List.mem_cons.1 ((h y).2 hy)).resolve_left hne

/-! ### Numbers -/
def iLt (x y : Int) : Bool := decide (x < y)
theorem iLt_tot : Tot iLt := ⟨fun x => by simp [iLt], fun x y z => by simp [iLt]; omega, fun x y => by simp [iLt]; omega⟩
theorem w64_add (a b : Int) : wrap64 (wrap64 a + b) = wrap64 (a + b) := by unfold wrap64; omega
theorem w64_sub (a b : Int) : wrap64 (wrap64 a - b) = wrap64 (a - b) := by unfold wrap64; omega
theorem w64_addr (a b : Int) : wrap64 (a + wrap64 b) = wrap64 (a + b) := by unfold wrap64; omega
theorem w64_subr (a b : Int) : wrap64 (a - wrap64 b) = wrap64 (a - b) := by unfold wrap64; omega
theorem w64_zero : wrap64 0 = 0 := by unfold wrap64; omega
theorem w64_bd (a : Int) : -9223372036854775808 ≤ wrap64 a ∧ wrap64 a ≤ 9223372036854775807 := by unfold wrap64; omega
/-- A number of 64 bits, with a sign. -/
def B64 (x : Int) : Prop := -9223372036854775808 ≤ x ∧ x ≤ 9223372036854775807
theorem w64_fit {x : Int} (h : B64 x) : wrap64 x = x := by unfold B64 at h; unfold wrap64; omega

/-! ### Cost, Count -/
/-- What all marks cost, without bound. -/
def exC (l : List Mk) : Int := (l.map fun m => m.2.2).sum
theorem exC_app (l k : List Mk) : exC (l ++ k) = exC l + exC k := by simp [exC]
theorem exC_one (m : Mk) : exC [m] = m.2.2 := by simp [exC]
theorem exC_nil : exC [] = 0 := rfl
def tCost (l : List Mk) : Int := wrap64 (exC l)
theorem tCost_nil : tCost [] = 0 := w64_zero
theorem tCost_snoc (l : List Mk) (m : Mk) : tCost (l ++ [m]) = wrap64 (tCost l + m.2.2) := by
  unfold tCost; rw [w64_add, exC_app, exC_one]
theorem take_snoc {β : Type} [Inhabited β] {l : List β} {k : Nat} (h : k < l.length) : l.take (k + 1) = l.take k ++ [l.getD k default] := by
  rw [List.take_succ_eq_append_getElem h]
  congr 2
  rw [List.getD_eq_getElem?_getD, List.getElem?_eq_getElem h]
  rfl
def nAt (l : List Mk) (p : Int) : Nat := (l.filter fun m => decide (m.1 = p)).length
theorem nAt_snoc (l : List Mk) (m : Mk) (p : Int) : nAt (l ++ [m]) p = if m.1 = p then nAt l p + 1 else nAt l p := by
  unfold nAt
  rw [List.filter_append]
  by_cases h : m.1 = p <;> simp [h]
theorem nAt_le (l : List Mk) (p : Int) : nAt l p ≤ l.length := List.length_filter_le _ _

/-! ### First -/
/-- As far as both are alike. -/
def comm : List Mk → List Mk → Nat
  | x :: a, y :: b => if x = y then comm a b + 1 else 0
  | _, _ => 0
theorem comm_le : ∀ a b : List Mk, comm a b ≤ a.length ∧ comm a b ≤ b.length
  | [], _ => by simp [comm]
  | _ :: _, [] => by simp [comm]
  | x :: a, y :: b => by
    have := comm_le a b
    unfold comm
    split <;> simp <;> omega
theorem comm_swap : ∀ a b : List Mk, comm a b = comm b a
  | [], [] => rfl
  | [], _ :: _ => by simp [comm]
  | _ :: _, [] => by simp [comm]
  | x :: a, y :: b => by
    unfold comm
    rw [comm_swap a b]
    by_cases h : x = y
    · simp [h]
    · rw [if_neg h, if_neg fun e => h e.symm]
theorem comm_is : ∀ (a b : List Mk) (k : Nat), k ≤ a.length → k ≤ b.length → (∀ j, j < k → mkAt a j = mkAt b j) → (k = a.length ∨ k = b.length ∨ mkAt a k ≠ mkAt b k) → comm a b = k
  | [], b, k, h1, _, _, _ => by
    obtain rfl : k = 0 := by simpa using h1
    simp [comm]
  | x :: a, [], k, _, h2, _, _ => by
    obtain rfl : k = 0 := by simpa using h2
    simp [comm]
  | x :: a, y :: b, 0, _, _, _, h => by
    have hne : x ≠ y := by
      rcases h with h | h | h
      · simp at h
      · simp at h
      · simpa [mkAt] using h
    simp [comm, hne]
  | x :: a, y :: b, k + 1, h1, h2, h3, h => by
    have e : x = y := by simpa [mkAt] using h3 0 (by omega)
    unfold comm
    rw [if_pos e, comm_is a b k (by simpa using h1) (by simpa using h2) (fun j hj => by simpa [mkAt] using h3 (j + 1) (by omega)) (by simpa [mkAt] using h)]
theorem comm_same : ∀ (a b : List Mk) (j : Nat), j < comm a b → mkAt a j = mkAt b j
  | [], b, j, h => by simp [comm] at h
  | _ :: _, [], j, h => by simp [comm] at h
  | x :: a, y :: b, j, h => by
    unfold comm at h
    split at h
    · rename_i e
      cases j with
      | zero => simpa [mkAt] using e
      | succ j => simpa [mkAt] using comm_same a b j (by omega)
    · omega
theorem comm_stop : ∀ (a b : List Mk), comm a b < a.length → comm a b < b.length → mkAt a (comm a b) ≠ mkAt b (comm a b)
  | [], b, h, _ => by simp at h
  | _ :: _, [], _, h => by simp at h
  | x :: a, y :: b, h1, h2 => by
    unfold comm at h1 h2 ⊢
    split at h1
    · rename_i e
      rw [if_pos e] at h2 ⊢
      have := comm_stop a b (by simpa using h1) (by simpa using h2)
      simpa [mkAt] using this
    · rename_i e
      rw [if_neg e]
      simpa [mkAt] using e
def tFirst (a b : List Mk) : Int := if comm a b = a.length ∧ comm a b = b.length then -1 else comm a b
theorem tFirst_swap (a b : List Mk) : tFirst a b = tFirst b a := by
  unfold tFirst
  rw [comm_swap b a]
  by_cases h : comm a b = a.length ∧ comm a b = b.length
  · rw [if_pos h, if_pos ⟨h.2, h.1⟩]
  · rw [if_neg h, if_neg fun q => h ⟨q.2, q.1⟩]
theorem tFirst_none {a b : List Mk} (h : tFirst a b = -1) : a = b := by
  unfold tFirst at h
  split at h
  · rename_i e
    refine List.ext_getElem (by omega) fun i h1 h2 => ?_
    rw [mkAt_eq h1, mkAt_eq h2]
    exact comm_same a b i (by omega)
  · omega
theorem tFirst_refl (a : List Mk) : tFirst a a = -1 := by
  have : comm a a = a.length := comm_is a a _ (Nat.le_refl _) (Nat.le_refl _) (fun _ _ => rfl) (.inl rfl)
  unfold tFirst
  rw [if_pos ⟨this, this⟩]
theorem tFirst_bd (a b : List Mk) : -1 ≤ tFirst a b ∧ tFirst a b ≤ a.length ∧ tFirst a b ≤ b.length := by
  have := comm_le a b
  unfold tFirst
  split <;> omega
theorem tFirst_some {a b : List Mk} (h : tFirst a b ≠ -1) : tFirst a b = comm a b := by
  unfold tFirst at *
  split at h
  · exact absurd rfl h
  · rename_i e
    rw [if_neg e]

/-! ### Addrs, Folds -/
def asked (l : List Mk) : List Int := (l.map fun m => m.2.1).filter fun x => decide (x ≠ -1)
theorem asked_snoc (l : List Mk) (m : Mk) : asked (l ++ [m]) = if m.2.1 = -1 then asked l else asked l ++ [m.2.1] := by
  unfold asked
  rw [List.map_append, List.filter_append]
  by_cases h : m.2.1 = -1 <;> simp [h]
theorem asked_len (l : List Mk) : (asked l).length ≤ l.length := by
  unfold asked
  exact Nat.le_trans (List.length_filter_le _ _) (by simp)
def tAddrs (l : List Mk) : List Int := rise iLt (asked l)
theorem tAddrs_snoc (l : List Mk) (m : Mk) : tAddrs (l ++ [m]) = if m.2.1 = -1 then tAddrs l else ins iLt m.2.1 (tAddrs l) := by
  unfold tAddrs
  rw [asked_snoc]
  split
  · rfl
  · rw [rise_snoc]
theorem tAddrs_len (l : List Mk) : (tAddrs l).length ≤ l.length := Nat.le_trans (rise_len _) (asked_len l)
/-- The numbers of marks that do not stand one place behind the one ahead, of the first k + 1. -/
def foldsTo (l : List Mk) : Nat → List Int
  | 0 => []
  | k + 1 => if (mkAt l (k + 1)).1 = wrap64 ((mkAt l k).1 + 1) then foldsTo l k else foldsTo l k ++ [((k + 1 : Nat) : Int)]
def tFolds (l : List Mk) : List Int := foldsTo l (l.length - 1)
theorem foldsTo_len (l : List Mk) : ∀ k, (foldsTo l k).length ≤ k
  | 0 => by simp [foldsTo]
  | k + 1 => by
    have := foldsTo_len l k
    unfold foldsTo
    split
    · omega
    · simp; omega
theorem fold_iff {x y : Int} (hx : B64 x) : wrap64 (x - y) = 1 ↔ x = wrap64 (y + 1) := by
  unfold B64 at hx
  unfold wrap64
  omega

/-! ### Rows -/
abbrev Ky := Int × Int
/-- A row: place, address, times, cost. -/
abbrev Ht := Int × Int × Int × Int
def mKy (m : Mk) : Ky := (m.1, m.2.1)
def hKy (h : Ht) : Ky := (h.1, h.2.1)
def kLt (a b : Ky) : Bool := decide (a.1 < b.1) || (decide (a.1 = b.1) && decide (a.2 < b.2))
theorem kLt_iff (a b : Ky) : kLt a b = true ↔ a.1 < b.1 ∨ (a.1 = b.1 ∧ a.2 < b.2) := by simp [kLt]
theorem kLt_not (a b : Ky) : kLt a b = false ↔ ¬ (a.1 < b.1 ∨ (a.1 = b.1 ∧ a.2 < b.2)) := by
  rw [← kLt_iff]; simp
theorem kLt_tot : Tot kLt := by
  refine ⟨fun x => ?_, fun x y z h1 h2 => ?_, fun x y h1 h2 => ?_⟩
  · rw [kLt_not]; omega
  · rw [kLt_iff] at *; omega
  · rw [kLt_not] at *
    obtain ⟨x1, x2⟩ := x
    obtain ⟨y1, y2⟩ := y
    simp only [Prod.mk.injEq] at *
    omega
def ofKy (l : List Mk) (k : Ky) : List Mk := l.filter fun m => decide (mKy m = k)
theorem ofKy_snoc (l : List Mk) (m : Mk) (k : Ky) : ofKy (l ++ [m]) k = if mKy m = k then ofKy l k ++ [m] else ofKy l k := by
  unfold ofKy
  rw [List.filter_append]
  by_cases h : mKy m = k <;> simp [h]
theorem ofKy_le (l : List Mk) (k : Ky) : (ofKy l k).length ≤ l.length := List.length_filter_le _ _
theorem ofKy_none {l : List Mk} {k : Ky} (h : k ∉ l.map mKy) : ofKy l k = [] := by
  unfold ofKy
  rw [List.filter_eq_nil_iff]
  intro m hm e
  exact h (List.mem_map.2 ⟨m, hm, by simpa using e⟩)
/-- The row of a key. -/
def rowOf (l : List Mk) (k : Ky) : Ht := (k.1, k.2, (ofKy l k).length, tCost (ofKy l k))
theorem rowOf_key (l : List Mk) (k : Ky) : hKy (rowOf l k) = k := rfl
/-- A row with a mark more. -/
def bump (m : Mk) (h : Ht) : Ht := (h.1, h.2.1, h.2.2.1 + 1, wrap64 (h.2.2.2 + m.2.2))
theorem rowOf_hit (l : List Mk) (m : Mk) : rowOf (l ++ [m]) (mKy m) = bump m (rowOf l (mKy m)) := by
  unfold rowOf bump
  rw [ofKy_snoc, if_pos rfl, tCost_snoc]
  simp
theorem rowOf_miss (l : List Mk) (m : Mk) {k : Ky} (h : mKy m ≠ k) : rowOf (l ++ [m]) k = rowOf l k := by
  unfold rowOf
  rw [ofKy_snoc, if_neg h]
theorem rowOf_new {l : List Mk} {k : Ky} (h : k ∉ l.map mKy) : rowOf l k = (k.1, k.2, 0, 0) := by
  unfold rowOf
  rw [ofKy_none h]
  simp [tCost, exC_nil, w64_zero]
/-- Keys, as rows have them: with a mark more. -/
theorem rows_hit {ks : List Ky} (hn : ks.Nodup) (l : List Mk) (m : Mk) {i : Nat} (hi : i < ks.length) (hk : ks.getD i default = mKy m) :
    ks.map (rowOf (l ++ [m])) = (ks.map (rowOf l)).set i (bump m ((ks.map (rowOf l)).getD i default)) := by
  apply List.ext_getElem (by simp)
  intro j h1 h2
  have hj : j < ks.length := by simpa using h1
  have hki : ks[i] = mKy m := by rw [← hk, List.getD_eq_getElem?_getD, List.getElem?_eq_getElem hi]; rfl
  rw [List.getElem_map, List.getElem_set, List.getElem_map]
  have hd : (ks.map (rowOf l)).getD i default = rowOf l (mKy m) := by
    rw [List.getD_eq_getElem?_getD, List.getElem?_map, List.getElem?_eq_getElem hi, hki]; rfl
  by_cases e : i = j
  · subst e
    rw [if_pos rfl, hd, hki, rowOf_hit]
  · rw [if_neg e, rowOf_miss]
    intro q
    exact e ((List.getElem_inj hn).1 (hki.trans q))
theorem rows_far {ks : List Ky} (l : List Mk) (m : Mk) (h : mKy m ∉ ks) : ks.map (rowOf (l ++ [m])) = ks.map (rowOf l) :=
  List.map_congr_left fun _ hk => rowOf_miss l m fun q => h (q ▸ hk)
def keys (l : List Mk) : List Ky := rise kLt (l.map mKy)
theorem keys_snoc (l : List Mk) (m : Mk) : keys (l ++ [m]) = ins kLt (mKy m) (keys l) := by
  unfold keys
  rw [List.map_append, List.map_cons, List.map_nil, rise_snoc]
theorem mem_keys (l : List Mk) (k : Ky) : k ∈ keys l ↔ k ∈ l.map mKy := mem_rise _ _
theorem keys_rise (l : List Mk) : (keys l).Pairwise (fun a b => kLt a b = true) := rise_rises kLt_tot _
theorem keys_nodup (l : List Mk) : (keys l).Nodup := rises_nodup kLt_tot (keys_rise l)
theorem keys_len (l : List Mk) : (keys l).length ≤ l.length := by
  have := rise_len (lt := kLt) (l.map mKy)
  simpa [keys] using this
def tRows (l : List Mk) : List Ht := (keys l).map (rowOf l)
theorem tRows_len (l : List Mk) : (tRows l).length ≤ l.length := by
  unfold tRows
  rw [List.length_map]
  exact keys_len l
/-- Rows with a mark more, its key there at i. -/
theorem tRows_hit (l : List Mk) (m : Mk) {i : Nat} (hi : i < (tRows l).length) (hk : hKy ((tRows l).getD i default) = mKy m) :
    tRows (l ++ [m]) = (tRows l).set i (bump m ((tRows l).getD i default)) := by
  have hi' : i < (keys l).length := by simpa [tRows] using hi
  have hk' : (keys l).getD i default = mKy m := by
    rw [← hk]
    unfold tRows
    rw [List.getD_eq_getElem?_getD, List.getD_eq_getElem?_getD, List.getElem?_map, List.getElem?_eq_getElem hi']
    rfl
  have hm : mKy m ∈ keys l := by
    rw [← hk', List.getD_eq_getElem?_getD, List.getElem?_eq_getElem hi']
    exact List.getElem_mem _
  unfold tRows
  rw [keys_snoc, ins_in kLt_tot _ _ (keys_rise l) hm]
  exact rows_hit (keys_nodup l) l m hi' hk'
/-- What the ref's search knows: what is ahead of i is less than the mark's key, what is there is not. -/
theorem tRows_key (l : List Mk) {i : Nat} (hi : i < (tRows l).length) : (keys l).getD i default = hKy ((tRows l).getD i default) := by
  have hi' : i < (keys l).length := by simpa [tRows] using hi
  unfold tRows
  rw [List.getD_eq_getElem?_getD, List.getD_eq_getElem?_getD, List.getElem?_map, List.getElem?_eq_getElem hi']
  rfl
theorem tRows_new (l : List Mk) (m : Mk) {i : Nat} (hi : i ≤ (tRows l).length) (h1 : ∀ j, j < i → kLt (hKy ((tRows l).getD j default)) (mKy m) = true)
    (h0 : i < (tRows l).length → kLt (hKy ((tRows l).getD i default)) (mKy m) = false) (hne : i < (tRows l).length → hKy ((tRows l).getD i default) ≠ mKy m) :
    tRows (l ++ [m]) = (tRows l).take i ++ bump m (m.1, m.2.1, 0, 0) :: (tRows l).drop i := by
  have hl : (tRows l).length = (keys l).length := by simp [tRows]
  have hins := ins_at (lt := kLt) (mKy m) (keys l) i (by omega) (fun j hj => by rw [tRows_key l (by omega)]; exact h1 j hj) (fun h => by rw [tRows_key l (by omega)]; exact h0 (by omega))
  rw [if_neg (by rintro ⟨q1, q2⟩; rw [tRows_key l (by omega)] at q2; exact hne (by omega) q2)] at hins
  have hno : mKy m ∉ keys l := by
    intro hm
    rw [ins_in kLt_tot _ _ (keys_rise l) hm] at hins
    have := congrArg List.length hins
    simp at this
    omega
  have htk : ∀ k ∈ (keys l).take i, k ∈ keys l := fun k hk => List.mem_of_mem_take hk
  have hdr : ∀ k ∈ (keys l).drop i, k ∈ keys l := fun k hk => List.mem_of_mem_drop hk
  unfold tRows
  rw [keys_snoc, hins, List.map_append, List.map_cons, rowOf_hit, rowOf_new (by rw [← mem_keys]; exact hno), rows_far l m fun q => hno (htk _ q), rows_far l m fun q => hno (hdr _ q), List.map_take, List.map_drop]
  rfl

/-! ### Rows as they are gathered -/
def gkeys (l : List Mk) : List Ky := l.foldl (fun ks m => if mKy m ∈ ks then ks else ks ++ [mKy m]) []
theorem gkeys_snoc (l : List Mk) (m : Mk) : gkeys (l ++ [m]) = if mKy m ∈ gkeys l then gkeys l else gkeys l ++ [mKy m] := by
  unfold gkeys
  rw [List.foldl_append]
  rfl
theorem mem_gkeys' (l : List Mk) : ∀ k : Ky, k ∈ gkeys l ↔ k ∈ l.map mKy := by
  induction l using snoc_ind with
  | h0 => simp [gkeys]
  | h1 l m ih =>
    intro k
    rw [gkeys_snoc]
    split
    · rename_i h
      rw [ih, List.map_append, List.mem_append]
      refine ⟨.inl, fun q => q.elim id fun q => ?_⟩
      have e : k = mKy m := by simpa using q
      rw [e]
      exact (ih _).1 h
    · rw [List.mem_append, ih]; simp
theorem mem_gkeys (l : List Mk) (k : Ky) : k ∈ gkeys l ↔ k ∈ l.map mKy := mem_gkeys' l k
theorem gkeys_nodup (l : List Mk) : (gkeys l).Nodup := by
  induction l using snoc_ind with
  | h0 => simp [gkeys]
  | h1 l m ih =>
    rw [gkeys_snoc]
    split
    · exact ih
    · rename_i h
      rw [List.nodup_append]
      refine ⟨ih, by simp, fun a ha b hb => ?_⟩
      have : b = mKy m := by simpa using hb
      subst this
      exact fun q => h (q ▸ ha)
def gRows (l : List Mk) : List Ht := (gkeys l).map (rowOf l)
theorem gkeys_len (l : List Mk) : (gkeys l).length ≤ l.length := by
  induction l using snoc_ind with
  | h0 => simp [gkeys]
  | h1 l m ih =>
    rw [gkeys_snoc]
    split
    · simp; omega
    · simp; omega
theorem gRows_len (l : List Mk) : (gRows l).length ≤ l.length := by
  unfold gRows
  rw [List.length_map]
  exact gkeys_len l
theorem gRows_glen (l : List Mk) : (gRows l).length = (gkeys l).length := by simp [gRows]
theorem gRows_hit (l : List Mk) (m : Mk) {i : Nat} (hi : i < (gkeys l).length) (hk : (gkeys l).getD i default = mKy m) :
    gRows (l ++ [m]) = (gRows l).set i (bump m ((gRows l).getD i default)) := by
  have hm : mKy m ∈ gkeys l := by
    rw [← hk, List.getD_eq_getElem?_getD, List.getElem?_eq_getElem hi]
    exact List.getElem_mem _
  unfold gRows
  rw [gkeys_snoc, if_pos hm]
  exact rows_hit (gkeys_nodup l) l m hi hk
theorem gRows_new (l : List Mk) (m : Mk) (h : mKy m ∉ gkeys l) : gRows (l ++ [m]) = gRows l ++ [bump m (m.1, m.2.1, 0, 0)] := by
  unfold gRows
  rw [gkeys_snoc, if_neg h, List.map_append, rows_far l m h, List.map_cons, List.map_nil, rowOf_hit, rowOf_new (by rw [← mem_gkeys]; exact h)]
  rfl
theorem gkeys_perm (l : List Mk) : (gkeys l).Perm (keys l) := perm_nodup (gkeys_nodup l) (keys_nodup l) fun k => by rw [mem_gkeys, mem_keys]
theorem gRows_perm (l : List Mk) : (gRows l).Perm (tRows l) := (gkeys_perm l).map _
/-- Rows rise by their keys. -/
theorem tRows_rise (l : List Mk) : (tRows l).Pairwise (fun a b => kLt (hKy a) (hKy b) = true) := by
  unfold tRows
  rw [List.pairwise_map]
  exact keys_rise l
theorem mem_tRows_key {l : List Mk} {a b : Ht} (ha : a ∈ tRows l) (hb : b ∈ tRows l) (h : hKy a = hKy b) : a = b := by
  obtain ⟨k, _, rfl⟩ := List.mem_map.1 ha
  obtain ⟨q, _, rfl⟩ := List.mem_map.1 hb
  rw [rowOf_key, rowOf_key] at h
  rw [h]
/-- What has the rows, and is sorted by a test that parts their keys, is one list. -/
theorem sorted_one {lt : Ht → Ht → Bool} {R d e : List Ht} (hR : ∀ a b, a ∈ R → b ∈ R → lt a b = false → lt b a = false → a = b) (hd : d.Perm R) (he : e.Perm R)
    (sd : d.Pairwise fun a b => lt b a = false) (se : e.Pairwise fun a b => lt b a = false) : d = e :=
  List.Perm.eq_of_pairwise (le := fun a b => lt b a = false) (fun a b ha hb h1 h2 => hR a b (hd.subset ha) (he.subset hb) h2 h1) sd se (hd.trans he.symm)
def hLt (a b : Ht) : Bool := kLt (hKy a) (hKy b)
/-- What costs more stands ahead; of what costs the same, what stands ahead in rows. -/
def cLt (a b : Ht) : Bool := decide (b.2.2.2 < a.2.2.2) || (decide (a.2.2.2 = b.2.2.2) && kLt (hKy a) (hKy b))
theorem cLt_iff (a b : Ht) : cLt a b = true ↔ b.2.2.2 < a.2.2.2 ∨ (a.2.2.2 = b.2.2.2 ∧ kLt (hKy a) (hKy b) = true) := by simp [cLt]
theorem cLt_not (a b : Ht) : cLt a b = false ↔ ¬ (b.2.2.2 < a.2.2.2 ∨ (a.2.2.2 = b.2.2.2 ∧ kLt (hKy a) (hKy b) = true)) := by
  rw [← cLt_iff]; simp
theorem hLt_part {l : List Mk} (a b : Ht) (ha : a ∈ tRows l) (hb : b ∈ tRows l) (h1 : hLt a b = false) (h2 : hLt b a = false) : a = b := mem_tRows_key ha hb (kLt_tot.tri _ _ h1 h2)
theorem cLt_part {l : List Mk} (a b : Ht) (ha : a ∈ tRows l) (hb : b ∈ tRows l) (h1 : cLt a b = false) (h2 : cLt b a = false) : a = b := by
  rw [cLt_not] at h1 h2
  have e : a.2.2.2 = b.2.2.2 := by omega
  refine mem_tRows_key ha hb (kLt_tot.tri _ _ ?_ ?_)
  · cases k : kLt (hKy a) (hKy b) with
    | false => rfl
    | true => exact absurd (.inr ⟨e, k⟩) h1
  · cases k : kLt (hKy b) (hKy a) with
    | false => rfl
    | true => exact absurd (.inr ⟨e.symm, k⟩) h2
theorem rows_sorted {l : List Mk} {d : List Ht} (hp : d.Perm (gRows l)) (hs : d.Pairwise fun a b => hLt b a = false) : d = tRows l :=
  sorted_one (lt := hLt) (R := tRows l) hLt_part (hp.trans (gRows_perm l)) (.refl _) hs ((tRows_rise l).imp fun h => kLt_tot.asym h)
/-- All rows, the most first. -/
def tMost (l : List Mk) : List Ht := (tRows l).mergeSort fun a b => !cLt b a
theorem cLt_trans {a b c : Ht} (h1 : cLt b a = false) (h2 : cLt c b = false) : cLt c a = false := by
  rw [cLt_not] at *
  have k := kLt_tot
  rintro (h | ⟨e, h⟩)
  · omega
  · have e1 : a.2.2.2 = b.2.2.2 := by omega
    have e2 : b.2.2.2 = c.2.2.2 := by omega
    rcases hb : kLt (hKy b) (hKy a) with _ | _
    · rcases hc : kLt (hKy c) (hKy b) with _ | _
      · rw [kLt_not] at hb hc
        rw [kLt_iff] at h
        omega
      · exact h2 (.inr ⟨e2.symm, hc⟩)
    · exact h1 (.inr ⟨e1.symm, hb⟩)
theorem most_sorted' (L : List Ht) : (L.mergeSort fun a b => !cLt b a).Pairwise fun a b => cLt b a = false := by
  have h := List.pairwise_mergeSort (le := fun a b : Ht => !cLt b a) (fun a b c h1 h2 => by
    simp only [Bool.not_eq_true'] at *
    exact cLt_trans h1 h2) (fun a b => by
    simp only [Bool.or_eq_true, Bool.not_eq_true']
    rcases h : cLt b a with _ | _
    · exact .inl rfl
    · refine .inr ?_
      rw [cLt_iff] at h
      rw [cLt_not]
      rintro (q | ⟨e, q⟩)
      · omega
      · rcases h with h | ⟨_, h⟩
        · omega
        · have := kLt_tot.asym h
          rw [q] at this
          cases this) L
  exact h.imp fun {a b} e => by simpa using e
theorem most_sorted {l : List Mk} {d : List Ht} (hp : d.Perm (gRows l)) (hs : d.Pairwise fun a b => cLt b a = false) : d = tMost l :=
  sorted_one (lt := cLt) (R := tRows l) cLt_part (hp.trans (gRows_perm l)) (List.mergeSort_perm _ _) hs (most_sorted' _)
theorem tMost_len (l : List Mk) : (tMost l).length = (tRows l).length := by unfold tMost; rw [List.length_mergeSort]
/-- The n that cost most. -/
def tTop (l : List Mk) (n : Int) : List Ht := (tMost l).take (min n.toNat (tRows l).length)
end Go.Proofs.Ythmojdmdhabogaa
