/- Numbers that tell who stands above whom in a tree: each one's place in a row where all below it stand right behind it. Nothing of any program. -/
import Derived.Test.YtggiaopdgijgnaaDoorGraT
namespace Go.Proofs.YtggiaopdgijgnaaDoor
namespace Gra
/-- A sum over so many numbers from one on. -/
def Sm (f : Nat → Nat) (lo : Nat) : Nat → Nat
  | 0 => 0
  | n + 1 => f lo + Sm f (lo + 1) n
theorem Sm_succ (f : Nat → Nat) (lo n : Nat) : Sm f lo (n + 1) = f lo + Sm f (lo + 1) n := rfl
theorem Sm_congr {f g : Nat → Nat} : ∀ {n lo : Nat}, (∀ j, lo ≤ j → j < lo + n → f j = g j) → Sm f lo n = Sm g lo n
  | 0, _, _ => rfl
  | n + 1, lo, h => by
    unfold Sm
    rw [h lo (Nat.le_refl _) (by omega), Sm_congr fun j h1 h2 => h j (by omega) (by omega)]
theorem Sm_add (f : Nat → Nat) : ∀ (n lo m : Nat), Sm f lo (n + m) = Sm f lo n + Sm f (lo + n) m
  | 0, lo, m => by simp [Sm]
  | n + 1, lo, m => by
    rw [show n + 1 + m = (n + m) + 1 by omega, Sm_succ, Sm_succ, Sm_add f n (lo + 1) m, show lo + 1 + n = lo + (n + 1) by omega]
    omega
theorem Sm_last (f : Nat → Nat) (n lo : Nat) : Sm f lo (n + 1) = Sm f lo n + f (lo + n) := by
  rw [Sm_add f n lo 1]
  simp [Sm]
theorem Sm_ge {f : Nat → Nat} : ∀ {n lo j : Nat}, lo ≤ j → j < lo + n → f j ≤ Sm f lo n
  | 0, lo, j, h1, h2 => by omega
  | n + 1, lo, j, h1, h2 => by
    unfold Sm
    by_cases e : j = lo
    · subst e; omega
    · have := Sm_ge (f := f) (n := n) (lo := lo + 1) (j := j) (by omega) (by omega)
      omega
theorem Sm_up {f : Nat → Nat} {v : Nat} : ∀ {n lo j : Nat}, lo ≤ j → j < lo + n → Sm (upn f j v) lo n + f j = Sm f lo n + v
  | 0, lo, j, h1, h2 => by omega
  | n + 1, lo, j, h1, h2 => by
    unfold Sm
    by_cases e : j = lo
    · subst e
      rw [upn_at, Sm_congr (f := upn f j v) (g := f) fun i h3 h4 => upn_off _ _ (by omega)]
      omega
    · rw [upn_off f v (show lo ≠ j by omega)]
      have := Sm_up (f := f) (v := v) (n := n) (lo := lo + 1) (j := j) (by omega) (by omega)
      omega
theorem Sm_zero {f : Nat → Nat} {n lo : Nat} (h : ∀ j, lo ≤ j → j < lo + n → f j = 0) : Sm f lo n = 0 := by
  have h1 := Sm_congr (f := f) (g := fun _ => 0) h
  rw [h1]
  clear h h1
  induction n generalizing lo with
  | zero => rfl
  | succ n ih => unfold Sm; rw [ih]
/-- What a number under a adds. -/
def addF (nr o : Nat → Nat) (a j : Nat) : Nat := if nr j = a then o j + 1 else 0
/-- How many stand below each, those above t being counted. -/
structure CntI (K : Nat) (nr o : Nat → Nat) (t : Nat) : Prop where
  val : ∀ a, a < K → o a = Sm (addF nr o a) (t + 1) (K - 1 - t)
  all : Sm o 0 (t + 1) = K - 1 - t
  bd : ∀ a, a < K → o a ≤ K
theorem CntI.start {K : Nat} (nr : Nat → Nat) : CntI K nr (fun _ => 0) (K - 1) :=
  ⟨fun a _ => by rw [Nat.sub_self]; rfl, by rw [Nat.sub_self]; exact Sm_zero fun _ _ _ => rfl, fun _ _ => Nat.zero_le _⟩
theorem CntI.step {K : Nat} {nr o : Nat → Nat} {k : Nat} (h : CntI K nr o k) (h0 : 0 < k) (hk : k < K) (hlt : nr k < k) : CntI K nr (upn o (nr k) (o (nr k) + (o k + 1))) (k - 1) := by
  have hall : Sm (upn o (nr k) (o (nr k) + (o k + 1))) 0 (k - 1 + 1) = K - 1 - (k - 1) := by
    have h1 := Sm_up (f := o) (v := o (nr k) + (o k + 1)) (n := k - 1 + 1) (lo := 0) (j := nr k) (by omega) (by omega)
    have h2 := Sm_last o k 0
    rw [Nat.zero_add] at h2
    have h3 := h.all
    rw [h2] at h3
    rw [show k - 1 + 1 = k by omega] at h1 ⊢
    omega
  refine ⟨fun a ha => ?_, hall, fun a ha => ?_⟩
  · rw [show k - 1 + 1 = k by omega, show K - 1 - (k - 1) = (K - 1 - k) + 1 by omega]
    unfold Sm
    have h1 : Sm (addF nr (upn o (nr k) (o (nr k) + (o k + 1))) a) (k + 1) (K - 1 - k) = Sm (addF nr o a) (k + 1) (K - 1 - k) := Sm_congr fun j h1 h2 => by
      unfold addF
      rw [upn_off o _ (show j ≠ nr k by omega)]
    rw [h1, ← h.val a ha]
    unfold addF
    rw [upn_off o _ (show k ≠ nr k by omega)]
    by_cases e : nr k = a
    · subst e; rw [upn_at, if_pos rfl]; omega
    · rw [upn_off o _ (fun q => e q.symm), if_neg e]; omega
  · by_cases e : a = nr k
    · have := Sm_ge (f := upn o (nr k) (o (nr k) + (o k + 1))) (n := k - 1 + 1) (lo := 0) (j := nr k) (by omega) (by omega)
      rw [e]
      omega
    · rw [upn_off o _ e]; exact h.bd a ha
/-- Where each number stands in the row. -/
def atF (nr S : Nat → Nat) : Nat → Nat
  | 0 => 0
  | j + 1 => if h : nr (j + 1) < j + 1 then atF nr S (nr (j + 1)) + 1 + Sm (addF nr S (nr (j + 1))) 1 j else 0
termination_by j => j
theorem atF_zero (nr S : Nat → Nat) : atF nr S 0 = 0 := by unfold atF; rfl
theorem atF_pos {nr S : Nat → Nat} {j : Nat} (h0 : 0 < j) (h : nr j < j) : atF nr S j = atF nr S (nr j) + 1 + Sm (addF nr S (nr j)) 1 (j - 1) := by
  obtain ⟨i, rfl⟩ : ∃ i, j = i + 1 := ⟨j - 1, by omega⟩
  rw [atF, dif_pos h]
  rfl
section
variable {K : Nat} {nr S : Nat → Nat} (hlt : ∀ k, 0 < k → k < K → nr k < k) (hS : ∀ a, a < K → S a = Sm (addF nr S a) 1 (K - 1))
include hlt hS
/-- What stands below lies within. -/
theorem at_child {j : Nat} (h0 : 0 < j) (hj : j < K) : atF nr S (nr j) < atF nr S j ∧ atF nr S j + S j ≤ atF nr S (nr j) + S (nr j) := by
  have h1 := hlt j h0 hj
  have h2 := atF_pos (S := S) h0 h1
  have h3 := hS (nr j) (by omega)
  rw [show K - 1 = (j - 1) + ((K - 1 - j) + 1) by omega, Sm_add, show 1 + (j - 1) = j by omega] at h3
  rw [Sm_succ] at h3
  have h4 : addF nr S (nr j) j = S j + 1 := if_pos rfl
  have h5 : Sm (addF nr S (nr j)) 1 (j - 1) + (addF nr S (nr j) j + Sm (addF nr S (nr j)) (j + 1) (K - 1 - j)) = S (nr j) := h3.symm
  omega
theorem at_anc {a b : Nat} (h : Anc nr a b) (hb : b < K) : atF nr S a ≤ atF nr S b ∧ atF nr S b + S b ≤ atF nr S a + S a := by
  induction h with
  | refl => exact ⟨Nat.le_refl _, Nat.le_refl _⟩
  | @up b h0 _ ih =>
    have h1 := hlt b h0 hb
    have h2 := ih (by omega)
    have h3 := at_child hlt hS h0 hb
    omega
theorem at_bd {b : Nat} (hb : b < K) : atF nr S b + S b ≤ S 0 := by
  have hr : Anc nr 0 b := by
    induction b using Nat.strongRecOn with
    | ind b ih =>
      rcases Nat.eq_zero_or_pos b with h | h
      · subst h; exact .refl 0
      · have := hlt b h hb
        exact .up h (ih _ this (by omega))
  have := (at_anc hlt hS hr hb).2
  rw [atF_zero] at this
  omega
omit hS in
theorem at_sib {b c : Nat} (hc0 : 0 < c) (hcb : c < b) (hb : b < K) (e : nr c = nr b) : atF nr S c + S c < atF nr S b := by
  have h1 := hlt b (by omega) hb
  have h2 := atF_pos (S := S) (show 0 < b by omega) h1
  have h3 := atF_pos (S := S) hc0 (hlt c hc0 (by omega))
  rw [e] at h3
  have h4 : Sm (addF nr S (nr b)) 1 (b - 1) = Sm (addF nr S (nr b)) 1 (c - 1) + (addF nr S (nr b) c + Sm (addF nr S (nr b)) (c + 1) (b - 1 - c)) := by
    rw [show b - 1 = (c - 1) + ((b - 1 - c) + 1) by omega, Sm_add, show 1 + (c - 1) = c by omega]
    rw [show (c - 1) + ((b - 1 - c) + 1) - c = b - 1 - c by omega]
    rfl
  have h5 : addF nr S (nr b) c = S c + 1 := if_pos e
  omega
/-- Who stands above is told by two places in the row. -/
theorem at_iff : ∀ {n a b : Nat}, a + b ≤ n → a < K → b < K → (Anc nr a b ↔ atF nr S a ≤ atF nr S b ∧ atF nr S b ≤ atF nr S a + S a) := by
  intro n
  induction n with
  | zero =>
    intro a b hn ha hb
    obtain rfl : a = 0 := by omega
    obtain rfl : b = 0 := by omega
    exact ⟨fun _ => by omega, fun _ => .refl 0⟩
  | succ n ih =>
    intro a b hn ha hb
    refine ⟨fun h => ?_, fun ⟨h1, h2⟩ => ?_⟩
    · have := at_anc hlt hS h hb
      omega
    · by_cases e : a = b
      · subst e; exact .refl _
      rcases Nat.eq_zero_or_pos b with hb0 | hb0
      · subst hb0
        rw [atF_zero] at h1
        have := atF_pos (S := S) (show 0 < a by omega) (hlt a (by omega) ha)
        omega
      · have hp := hlt b hb0 hb
        have hc := at_child hlt hS hb0 hb
        by_cases q : atF nr S a ≤ atF nr S (nr b)
        · exact .up hb0 ((ih (by omega) ha (by omega)).2 ⟨q, by omega⟩)
        · have hpa : Anc nr (nr b) a := (ih (by omega) (by omega) ha).2 ⟨by omega, by omega⟩
          have key : ∀ a, Anc nr (nr b) a → a < K → a ≠ nr b → ∃ c, 0 < c ∧ c < K ∧ nr c = nr b ∧ Anc nr c a := fun a h => by
            induction h with
            | refl => intro _ h; exact absurd rfl h
            | @up a h0 hh ih2 =>
              intro haK _
              by_cases r : nr a = nr b
              · exact ⟨a, h0, haK, r, .refl _⟩
              · have := hlt a h0 haK
                obtain ⟨c, c1, c2, c3, c4⟩ := ih2 (by omega) r
                exact ⟨c, c1, c2, c3, .up h0 c4⟩
          obtain ⟨c, c1, c2, c3, c4⟩ := key a hpa ha (fun r => by rw [r] at q; omega)
          have hca := at_anc hlt hS c4 ha
          rcases Nat.lt_trichotomy c b with r | r | r
          · have := at_sib (S := S) hlt c1 r hb c3; omega
          · subst r
            cases c4 with
            | refl => exact absurd rfl e
            | up h0 hh =>
              have h9 := at_child hlt hS h0 ha
              have h8 := at_anc hlt hS hh (by have := hlt _ h0 ha; omega)
              omega
          · have := at_sib (S := S) hlt hb0 r c2 c3.symm; omega
end
end Gra
end Go.Proofs.YtggiaopdgijgnaaDoor
