/- Decimals in plain terms: a number's digits, which texts are decimals of at most nine digits, and their numbers. Nothing of any program. -/
import Derived.Lib.ItoaNum
import Derived.Lib.AtoiTie
import Derived.Lib.AtoiAllCases
import Derived.Lib.Hide
import Derived.Below
namespace Go.Proofs.YtheflkhbmbfajaaDoor
open Go.Lib

/-- The digits of a number, f at most. -/
def dgs : Nat → Nat → List UInt8
  | 0, _ => []
  | f + 1, u => if u < 10 then [UInt8.ofNat (48 + u)] else dgs f (u / 10) ++ [UInt8.ofNat (48 + u % 10)]
/-- A number's decimal. -/
def decL (n : Int) : List UInt8 := if n < 0 then 45 :: dgs 20 n.natAbs else dgs 20 n.toNat
theorem dgs_dec : ∀ (f u : Nat), u < 10 ^ f → dgs f u = if f = 0 then [] else decDigits u
  | 0, _, _ => rfl
  | f + 1, u, h => by
    rw [dgs, if_neg (Nat.succ_ne_zero f), decDigits]
    by_cases k : u < 10
    · rw [if_pos k, dif_pos k]
    · rw [if_neg k, dif_neg k, dgs_dec f (u / 10) (by rw [Nat.pow_succ] at h; omega)]
      rw [if_neg (by rintro rfl; simp at h; omega)]
theorem dgs_more : ∀ (f u : Nat), u < 10 ^ f → f ≠ 0 → dgs (f + 1) u = dgs f u := by
  intro f u h hf
  rw [dgs_dec (f + 1) u (by rw [Nat.pow_succ]; omega), dgs_dec f u h, if_neg (Nat.succ_ne_zero f), if_neg hf]
theorem dgs_20 {u : Nat} (h : u < 10000000000000000000) : dgs 20 u = decDigits u := by
  rw [dgs_dec 20 u (by omega), if_neg (by decide)]
theorem decL_itoa {n : Int} (h0 : -9223372036854775808 ≤ n) (h1 : n ≤ 9223372036854775807) : itoa n = decL n := by
  unfold itoa decL
  by_cases k : n < 0
  · rw [if_pos k, if_pos k, dgs_20 (by omega)]
  · rw [if_neg k, if_neg k, dgs_20 (by omega)]
theorem decL_neg {n : Int} (h : n < 0) : decL n = 45 :: decL (-n) := by
  unfold decL
  rw [if_pos h, if_neg (by omega), show n.natAbs = (-n).toNat by omega]
theorem decL_one {n : Int} (h0 : 0 ≤ n) (h1 : n < 10) : decL n = [UInt8.ofNat (48 + n.toNat)] := by
  unfold decL
  rw [if_neg (by omega), dgs, if_pos (by omega)]
theorem decL_more {n : Int} (h0 : 10 ≤ n) (h1 : n ≤ 9223372036854775807) : decL n = decL (n / 10) ++ decL (n % 10) := by
  rw [decL_one (n := n % 10) (by omega) (by omega)]
  unfold decL
  rw [if_neg (by omega), if_neg (by omega), dgs_20 (by omega), dgs_20 (by omega), decDigits, dif_neg (by omega)]
  rw [show (n / 10).toNat = n.toNat / 10 by omega, show (n % 10).toNat = n.toNat % 10 by omega]

/-- A byte that is a digit. -/
theorem dig_val {d : Nat} (h : d < 10) : digitVal (UInt8.ofNat (48 + d)) = some d := by
  unfold digitVal
  have e : (UInt8.ofNat (48 + d)).toNat = 48 + d := by simp; omega
  rw [e, if_pos (by omega)]
  congr 1
  omega
theorem decFrom_app : ∀ (l r : List UInt8) (acc : Nat), decFrom acc (l ++ r) = (decFrom acc l).bind fun n => decFrom n r
  | [], r, acc => rfl
  | b :: l, r, acc => by
    simp only [List.cons_append, decFrom]
    cases digitVal b with
    | none => rfl
    | some d => exact decFrom_app l r _
theorem decFrom_dec : ∀ (f u : Nat), u < 10 ^ f → f ≠ 0 → decFrom 0 (dgs f u) = some u
  | 0, _, _, h => absurd rfl h
  | f + 1, u, h, _ => by
    rw [dgs]
    by_cases k : u < 10
    · rw [if_pos k]
      simp only [decFrom, dig_val k]
      simp
    · rw [if_neg k, decFrom_app, decFrom_dec f (u / 10) (by rw [Nat.pow_succ] at h; omega) (by rintro rfl; simp at h; omega)]
      simp only [Option.bind, decFrom, dig_val (show u % 10 < 10 by omega)]
      congr 1
      omega
theorem dgs_length : ∀ (k f u : Nat), u < 10 ^ k → k ≠ 0 → (dgs f u).length ≤ k
  | k, 0, u, _, _ => by simp [dgs]
  | k, f + 1, u, h, hk => by
    rw [dgs]
    by_cases c : u < 10
    · rw [if_pos c]; simp; omega
    · rw [if_neg c, List.length_append]
      obtain ⟨j, rfl⟩ : ∃ j, k = j + 1 := ⟨k - 1, by omega⟩
      have := dgs_length j f (u / 10) (by rw [Nat.pow_succ] at h; omega) (by rintro rfl; simp at h; omega)
      simp; omega
theorem dgs_digit : ∀ (f u : Nat), ∀ b ∈ dgs f u, 48 ≤ b.toNat ∧ b.toNat ≤ 57
  | 0, _, b, h => by simp [dgs] at h
  | f + 1, u, b, h => by
    have q : ∀ d, d < 10 → (UInt8.ofNat (48 + d)).toNat = 48 + d := fun d hd => by simp; omega
    rw [dgs] at h
    split at h
    · rename_i c
      simp only [List.mem_singleton] at h
      rw [h, q u c]
      omega
    · rcases List.mem_append.1 h with h | h
      · exact dgs_digit f (u / 10) b h
      · simp only [List.mem_singleton] at h
        rw [h, q _ (by omega)]
        omega
theorem dgs_pos : ∀ (f u : Nat), f ≠ 0 → 1 ≤ (dgs f u).length
  | 0, _, h => absurd rfl h
  | f + 1, u, _ => by
    rw [dgs]
    split
    · simp
    · simp

/-- Is a text a decimal of at most nine digits? -/
def numOk (l : List UInt8) : Bool := match atoiAll l with | .ok n => decide (-999999999 ≤ n ∧ n ≤ 999999999) && decide (decL n = l) | _ => false
/-- Its number; 0, if it is none. -/
def numV (l : List UInt8) : Int := if numOk l = true then (match atoiAll l with | .ok n => n | _ => 0) else 0

theorem atoi_dec {n : Int} (h0 : -999999999 ≤ n) (h1 : n ≤ 999999999) : atoiAll (decL n) = .ok n := by
  have hl : (decL n).length ≤ 18 := by
    unfold decL
    by_cases k : n < 0
    · rw [if_pos k]; have := dgs_length 9 20 n.natAbs (by omega) (by decide); simp; omega
    · rw [if_neg k]; have := dgs_length 9 20 n.toNat (by omega) (by decide); omega
  rw [atoiAll_short _ hl]
  by_cases k : n < 0
  · have e : decL n = 45 :: dgs 20 n.natAbs := by unfold decL; rw [if_pos k]
    have hp := dgs_pos 20 n.natAbs (by decide)
    have hv := decFrom_dec 20 n.natAbs (by omega) (by decide)
    have hne : (dgs 20 n.natAbs).isEmpty = false := by cases h : dgs 20 n.natAbs with | nil => rw [h] at hp; simp at hp | cons => rfl
    rw [e]
    have : atoi (45 :: dgs 20 n.natAbs) = some n := by
      unfold atoi decNat
      dsimp only
      rw [if_pos (by decide), hne, hv]
      show some (-(n.natAbs : Int)) = some n
      congr 1
      omega
    rw [this]; rfl
  · have e : decL n = dgs 20 n.toNat := by unfold decL; rw [if_neg k]
    have hp := dgs_pos 20 n.toNat (by decide)
    have hv := decFrom_dec 20 n.toNat (by omega) (by decide)
    have hd := dgs_digit 20 n.toNat
    rw [e]
    cases h : dgs 20 n.toNat with
    | nil => rw [h] at hp; simp at hp
    | cons b r =>
      have hb := hd b (by rw [h]; exact .head _)
      have k1 : (b == 45) = false := by
        rw [beq_eq_false_iff_ne]; rintro rfl; simp at hb
      have k2 : (b == 43) = false := by
        rw [beq_eq_false_iff_ne]; rintro rfl; simp at hb
      have : atoi (b :: r) = some n := by
        unfold atoi decNat
        simp only [k1, k2]
        rw [h] at hv
        simp only [Bool.false_eq_true, if_false, List.isEmpty_cons, hv]
        show some ((n.toNat : Nat) : Int) = some n
        congr 1
        omega
      rw [this]; rfl
theorem num_dec {n : Int} (h0 : -999999999 ≤ n) (h1 : n ≤ 999999999) : numOk (decL n) = true ∧ numV (decL n) = n := by
  have h := atoi_dec h0 h1
  have k : numOk (decL n) = true := by
    unfold numOk
    rw [h]
    simp [h0, h1]
  refine ⟨k, ?_⟩
  unfold numV
  rw [if_pos k, h]
theorem num_only {l : List UInt8} (h : numOk l = true) : -999999999 ≤ numV l ∧ numV l ≤ 999999999 ∧ decL (numV l) = l := by
  unfold numV
  rw [if_pos h]
  unfold numOk at h
  cases e : atoiAll l
  · rw [e] at h
    simp only [Bool.and_eq_true, decide_eq_true_eq] at h
    exact ⟨h.1.1, h.1.2, h.2⟩
  · rw [e] at h; cases h
  · rw [e] at h; cases h
theorem num_no {l : List UInt8} (h : numOk l = false) : numV l = 0 := by unfold numV; rw [h]; rfl
theorem num_is {l : List UInt8} {n : Int} (h0 : -999999999 ≤ n) (h1 : n ≤ 999999999) (h : decL n = l) : numOk l = true ∧ numV l = n := by
  subst h; exact num_dec h0 h1
/-- How a text ends that is one, by Atoi. -/
theorem num_atoi {l : List UInt8} {n : Int} (h : atoiAll l = .ok n) : numOk l = (decide (-999999999 ≤ n ∧ n ≤ 999999999) && decide (decL n = l)) := by
  unfold numOk; rw [h]
theorem num_fail {l : List UInt8} (h : ∀ n, atoiAll l ≠ .ok n) : numOk l = false := by
  unfold numOk
  cases e : atoiAll l
  · exact absurd e (h _)
  · rfl
  · rfl

/-! What the document's own reading of a decimal wants. -/
/-- Where the digits begin. -/
def frm (l : List UInt8) : Nat := if l.head? = some 45 then 1 else 0
theorem dec_parts {n : Int} (h0 : -999999999 ≤ n) (h1 : n ≤ 999999999) : frm (decL n) = (if n < 0 then 1 else 0) ∧ (decL n).drop (frm (decL n)) = dgs 20 n.natAbs ∧ 1 ≤ (decL n).length - frm (decL n) ∧ (decL n).length - frm (decL n) ≤ 9 ∧ frm (decL n) ≤ (decL n).length := by
  have hp := dgs_pos 20 n.natAbs (by decide)
  have hl := dgs_length 9 20 n.natAbs (by omega) (by decide)
  by_cases k : n < 0
  · have e : decL n = 45 :: dgs 20 n.natAbs := by unfold decL; rw [if_pos k]
    have f : frm (decL n) = 1 := by rw [e]; rfl
    rw [f, if_pos k, e]
    refine ⟨rfl, rfl, ?_, ?_, ?_⟩ <;> simp <;> omega
  · have e : decL n = dgs 20 n.natAbs := by unfold decL; rw [if_neg k, show n.toNat = n.natAbs by omega]
    have f : frm (decL n) = 0 := by
      rw [e]
      unfold frm
      cases h : dgs 20 n.natAbs with
      | nil => rfl
      | cons b r =>
        have hb := dgs_digit 20 n.natAbs b (by rw [h]; exact .head _)
        rw [if_neg]
        simp
        rintro rfl
        simp at hb
    rw [f, if_neg k, e]
    refine ⟨rfl, rfl, ?_, ?_, ?_⟩ <;> omega
/-- Too short or too long. -/
theorem num_long {l : List UInt8} (h : l.length < frm l + 1 ∨ frm l + 9 < l.length) : numOk l = false := by
  cases k : numOk l with
  | false => rfl
  | true =>
    obtain ⟨a, b, c⟩ := num_only k
    obtain ⟨_, _, d, e, f⟩ := dec_parts a b
    rw [c] at d e f
    omega
theorem num_value {l : List UInt8} (k : numOk l = true) : decFrom 0 (l.drop (frm l)) = some (numV l).natAbs ∧ frm l = (if numV l < 0 then 1 else 0) := by
  obtain ⟨a, b, c⟩ := num_only k
  obtain ⟨d, e, _⟩ := dec_parts a b
  rw [c] at d e
  refine ⟨?_, d⟩
  rw [e]
  exact decFrom_dec 20 _ (by omega) (by decide)
/-- A byte that is no digit. -/
theorem num_bad {l : List UInt8} {i : Nat} {b : UInt8} (hi : frm l ≤ i) (h : l[i]? = some b) (hb : b.toNat < 48 ∨ 57 < b.toNat) : numOk l = false := by
  cases k : numOk l with
  | false => rfl
  | true =>
    obtain ⟨e, _⟩ := num_value k
    obtain ⟨d, hd⟩ := digit_of_decFrom _ _ _ e (i - frm l) b (by rw [List.getElem?_drop, show frm l + (i - frm l) = i by omega]; exact h)
    unfold digitVal at hd
    rw [if_neg (by omega)] at hd
    cases hd
/-- What all digits spell: it is the text's number, if the number's decimal is the text; else there is none. -/
theorem num_end {l : List UInt8} {u : Nat} (h : decFrom 0 (l.drop (frm l)) = some u) (hu : u ≤ 999999999) :
    (decL (if frm l = 1 then -(u : Int) else u) = l → numOk l = true ∧ numV l = if frm l = 1 then -(u : Int) else u) ∧ (decL (if frm l = 1 then -(u : Int) else u) ≠ l → numOk l = false) := by
  have hb : -999999999 ≤ (if frm l = 1 then -(u : Int) else u) ∧ (if frm l = 1 then -(u : Int) else u) ≤ 999999999 := by split <;> omega
  refine ⟨fun e => num_is hb.1 hb.2 e, fun e => ?_⟩
  cases k : numOk l with
  | false => rfl
  | true =>
    exfalso
    apply e
    obtain ⟨a, b, c⟩ := num_only k
    obtain ⟨d, f⟩ := num_value k
    rw [h] at d
    injection d with d
    have : (if frm l = 1 then -(u : Int) else u) = numV l := by
      rw [f, d]
      by_cases q : numV l < 0
      · rw [if_pos q, if_pos rfl]; omega
      · rw [if_neg q, if_neg (by decide)]; omega
    rw [this]; exact c
theorem frm_le (l : List UInt8) : frm l ≤ 1 := by unfold frm; split <;> omega
theorem decFrom_bd : ∀ (l : List UInt8) (acc u k : Nat), acc < 10 ^ k → decFrom acc l = some u → u < 10 ^ (k + l.length)
  | [], acc, u, k, ha, h => by simp only [decFrom, Option.some.injEq] at h; subst h; simpa using ha
  | b :: r, acc, u, k, ha, h => by
    simp only [decFrom] at h
    cases e : digitVal b with
    | none => rw [e] at h; cases h
    | some d =>
      rw [e] at h
      have hd : d < 10 := by unfold digitVal at e; split at e <;> simp at e; omega
      have := decFrom_bd r (acc * 10 + d) u (k + 1) (by rw [Nat.pow_succ]; omega) h
      rw [show k + (b :: r).length = k + 1 + r.length by simp; omega]
      exact this
theorem decL_length {n : Int} (h0 : -9999999999 < n) (h1 : n < 9999999999) : (decL n).length ≤ 11 := by
  unfold decL
  by_cases k : n < 0
  · rw [if_pos k]; have := dgs_length 10 20 n.natAbs (by omega) (by decide); simp; omega
  · rw [if_neg k]; have := dgs_length 10 20 n.toNat (by omega) (by decide); omega
/-- A decimal has no blank. -/
theorem decL_blank (n : Int) : (32 : UInt8) ∉ decL n := by
  intro h
  unfold decL at h
  split at h
  · rcases List.mem_cons.1 h with h | h
    · cases h
    · have := dgs_digit _ _ _ h; simp at this
  · have := dgs_digit _ _ _ h; simp at this
theorem decL_some (n : Int) : decL n ≠ [] := by
  unfold decL
  split
  · simp
  · intro h; have := dgs_pos 20 n.toNat (by decide); rw [h] at this; simp at this
end Go.Proofs.YtheflkhbmbfajaaDoor
