/- Decimals, a line's words, what a line is told by and parsed to. Nothing of any program. -/
import Derived.Lib.ItoaNum
import Derived.Lib.AtoiTie
import Derived.Lib.AtoiAllCases
import Derived.Lib.Hide
import Derived.Below
import Derived.Lib.FieldsP
import Derived.Lib.Walk
import Derived.Lib.Join
import Derived.Lib.Strings
import Derived.Test.YtekhgidbnpfmnaaGreatDoorCodD
import Derived.Test.YtekhgidbnpfmnaaGreatDoorMem
namespace Go.Proofs.YtekhgidbnpfmnaaGreatDoor
open Go.RowKit

section
open Go.Lib

/-- The digits of a number, f at most. -/
def dgs : Nat → Nat → List UInt8
  | 0, _ => []
  | f + 1, u => if u < 10 then [UInt8.ofNat (48 + u)] else dgs f (u / 10) ++ [UInt8.ofNat (48 + u % 10)]
/-- A number's decimal. -/
def decL (n : Int) : List UInt8 := if n < 0 then 45 :: dgs 20 n.natAbs else dgs 20 n.toNat
theorem dgs_dec : ∀ (f u : Nat), u < 10 ^ f → dgs f u = if f = 0 then [] else decDigits u
  | 0, _, _ => rfl
  | f + 1, u, h => by
    rw [dgs, if_neg (Nat.succ_ne_zero f), decDigits]
    by_cases k : u < 10
    · rw [if_pos k, dif_pos k]
    · rw [if_neg k, dif_neg k, dgs_dec f (u / 10) (by rw [Nat.pow_succ] at h; omega)]
      rw [if_neg (by rintro rfl; simp at h; omega)]
theorem dgs_more : ∀ (f u : Nat), u < 10 ^ f → f ≠ 0 → dgs (f + 1) u = dgs f u := by
  intro f u h hf
  rw [dgs_dec (f + 1) u (by rw [Nat.pow_succ]; omega), dgs_dec f u h, if_neg (Nat.succ_ne_zero f), if_neg hf]
theorem dgs_20 {u : Nat} (h : u < 10000000000000000000) : dgs 20 u = decDigits u := by
  rw [dgs_dec 20 u (by omega), if_neg (by decide)]
theorem decL_itoa {n : Int} (h0 : -9223372036854775808 ≤ n) (h1 : n ≤ 9223372036854775807) : itoa n = decL n := by
  unfold itoa decL
  by_cases k : n < 0
  · rw [if_pos k, if_pos k, dgs_20 (by omega)]
  · rw [if_neg k, if_neg k, dgs_20 (by omega)]
theorem decL_neg {n : Int} (h : n < 0) : decL n = 45 :: decL (-n) := by
  unfold decL
  rw [if_pos h, if_neg (by omega), show n.natAbs = (-n).toNat by omega]
theorem decL_one {n : Int} (h0 : 0 ≤ n) (h1 : n < 10) : decL n = [UInt8.ofNat (48 + n.toNat)] := by
  unfold decL
  rw [if_neg (by omega), dgs, if_pos (by omega)]
theorem decL_more {n : Int} (h0 : 10 ≤ n) (h1 : n ≤ 9223372036854775807) : decL n = decL (n / 10) ++ decL (n % 10) := by
  rw [decL_one (n := n % 10) (by omega) (by omega)]
  unfold decL
  rw [if_neg (by omega), if_neg (by omega), dgs_20 (by omega), dgs_20 (by omega), decDigits, dif_neg (by omega)]
  rw [show (n / 10).toNat = n.toNat / 10 by omega, show (n % 10).toNat = n.toNat % 10 by omega]

/-- A byte that is a digit. -/
theorem dig_val {d : Nat} (h : d < 10) : digitVal (UInt8.ofNat (48 + d)) = some d := by
  unfold digitVal
  have e : (UInt8.ofNat (48 + d)).toNat = 48 + d := by simp; omega
  rw [e, if_pos (by omega)]
  congr 1
  omega
theorem decFrom_app : ∀ (l r : List UInt8) (acc : Nat), decFrom acc (l ++ r) = (decFrom acc l).bind fun n => decFrom n r
  | [], r, acc => rfl
  | b :: l, r, acc => by
    simp only [List.cons_append, decFrom]
    cases digitVal b with
    | none => rfl
    | some d => exact decFrom_app l r _
theorem decFrom_dec : ∀ (f u : Nat), u < 10 ^ f → f ≠ 0 → decFrom 0 (dgs f u) = some u
  | 0, _, _, h => absurd rfl h
  | f + 1, u, h, _ => by
    rw [dgs]
    by_cases k : u < 10
    · rw [if_pos k]
      simp only [decFrom, dig_val k]
      simp
    · rw [if_neg k, decFrom_app, decFrom_dec f (u / 10) (by rw [Nat.pow_succ] at h; omega) (by rintro rfl; simp at h; omega)]
      simp only [Option.bind, decFrom, dig_val (show u % 10 < 10 by omega)]
      congr 1
      omega
theorem dgs_length : ∀ (k f u : Nat), u < 10 ^ k → k ≠ 0 → (dgs f u).length ≤ k
  | k, 0, u, _, _ => by simp [dgs]
  | k, f + 1, u, h, hk => by
    rw [dgs]
    by_cases c : u < 10
    · rw [if_pos c]; simp; omega
    · rw [if_neg c, List.length_append]
      obtain ⟨j, rfl⟩ : ∃ j, k = j + 1 := ⟨k - 1, by omega⟩
      have := dgs_length j f (u / 10) (by rw [Nat.pow_succ] at h; omega) (by rintro rfl; simp at h; omega)
      simp; omega
theorem dgs_digit : ∀ (f u : Nat), ∀ b ∈ dgs f u, 48 ≤ b.toNat ∧ b.toNat ≤ 57
  | 0, _, b, h => by simp [dgs] at h
  | f + 1, u, b, h => by
    have q : ∀ d, d < 10 → (UInt8.ofNat (48 + d)).toNat = 48 + d := fun d hd => by simp; omega
    rw [dgs] at h
    split at h
    · rename_i c
      simp only [List.mem_singleton] at h
      rw [h, q u c]
      omega
    · rcases List.mem_append.1 h with h | h
      · exact dgs_digit f (u / 10) b h
      · simp only [List.mem_singleton] at h
        rw [h, q _ (by omega)]
        omega
theorem dgs_pos : ∀ (f u : Nat), f ≠ 0 → 1 ≤ (dgs f u).length
  | 0, _, h => absurd rfl h
  | f + 1, u, _ => by
    rw [dgs]
    split
    · simp
    · simp

/-- Is a text a decimal of at most nine digits? -/
def numOk (l : List UInt8) : Bool := match atoiAll l with | .ok n => decide (-999999999 ≤ n ∧ n ≤ 999999999) && decide (decL n = l) | _ => false
/-- Its number; 0, if it is none. -/
def numV (l : List UInt8) : Int := if numOk l = true then (match atoiAll l with | .ok n => n | _ => 0) else 0

theorem atoi_dec {n : Int} (h0 : -999999999 ≤ n) (h1 : n ≤ 999999999) : atoiAll (decL n) = .ok n := by
  have hl : (decL n).length ≤ 18 := by
    unfold decL
    by_cases k : n < 0
    · rw [if_pos k]; have := dgs_length 9 20 n.natAbs (by omega) (by decide); simp; omega
    · rw [if_neg k]; have := dgs_length 9 20 n.toNat (by omega) (by decide); omega
  rw [atoiAll_short _ hl]
  by_cases k : n < 0
  · have e : decL n = 45 :: dgs 20 n.natAbs := by unfold decL; rw [if_pos k]
    have hp := dgs_pos 20 n.natAbs (by decide)
    have hv := decFrom_dec 20 n.natAbs (by omega) (by decide)
    have hne : (dgs 20 n.natAbs).isEmpty = false := by cases h : dgs 20 n.natAbs with | nil => rw [h] at hp; simp at hp | cons => rfl
    rw [e]
    have : atoi (45 :: dgs 20 n.natAbs) = some n := by
      unfold atoi decNat
      dsimp only
      rw [if_pos (by decide), hne, hv]
      show some (-(n.natAbs : Int)) = some n
      congr 1
      omega
    rw [this]; rfl
  · have e : decL n = dgs 20 n.toNat := by unfold decL; rw [if_neg k]
    have hp := dgs_pos 20 n.toNat (by decide)
    have hv := decFrom_dec 20 n.toNat (by omega) (by decide)
    have hd := dgs_digit 20 n.toNat
    rw [e]
    cases h : dgs 20 n.toNat with
    | nil => rw [h] at hp; simp at hp
    | cons b r =>
      have hb := hd b (by rw [h]; exact .head _)
      have k1 : (b == 45) = false := by
        rw [beq_eq_false_iff_ne]; rintro rfl; simp at hb
      have k2 : (b == 43) = false := by
        rw [beq_eq_false_iff_ne]; rintro rfl; simp at hb
      have : atoi (b :: r) = some n := by
        unfold atoi decNat
        simp only [k1, k2]
        rw [h] at hv
        simp only [Bool.false_eq_true, if_false, List.isEmpty_cons, hv]
        show some ((n.toNat : Nat) : Int) = some n
        congr 1
        omega
      rw [this]; rfl
theorem num_dec {n : Int} (h0 : -999999999 ≤ n) (h1 : n ≤ 999999999) : numOk (decL n) = true ∧ numV (decL n) = n := by
  have h := atoi_dec h0 h1
  have k : numOk (decL n) = true := by
    unfold numOk
    rw [h]
    simp [h0, h1]
  refine ⟨k, ?_⟩
  unfold numV
  rw [if_pos k, h]
theorem num_only {l : List UInt8} (h : numOk l = true) : -999999999 ≤ numV l ∧ numV l ≤ 999999999 ∧ decL (numV l) = l := by
  unfold numV
  rw [if_pos h]
  unfold numOk at h
  cases e : atoiAll l
  · rw [e] at h
    simp only [Bool.and_eq_true, decide_eq_true_eq] at h
    exact ⟨h.1.1, h.1.2, h.2⟩
  · rw [e] at h; cases h
  · rw [e] at h; cases h
theorem num_no {l : List UInt8} (h : numOk l = false) : numV l = 0 := by unfold numV; rw [h]; rfl
theorem num_is {l : List UInt8} {n : Int} (h0 : -999999999 ≤ n) (h1 : n ≤ 999999999) (h : decL n = l) : numOk l = true ∧ numV l = n := by
  subst h; exact num_dec h0 h1
/-- How a text ends that is one, by Atoi. -/
theorem num_atoi {l : List UInt8} {n : Int} (h : atoiAll l = .ok n) : numOk l = (decide (-999999999 ≤ n ∧ n ≤ 999999999) && decide (decL n = l)) := by
  unfold numOk; rw [h]
theorem num_fail {l : List UInt8} (h : ∀ n, atoiAll l ≠ .ok n) : numOk l = false := by
  unfold numOk
  cases e : atoiAll l
  · exact absurd e (h _)
  · rfl
  · rfl

/-! What the document's own reading of a decimal wants. -/
/-- Where the digits begin. -/
def frm (l : List UInt8) : Nat := if l.head? = some 45 then 1 else 0
theorem dec_parts {n : Int} (h0 : -999999999 ≤ n) (h1 : n ≤ 999999999) : frm (decL n) = (if n < 0 then 1 else 0) ∧ (decL n).drop (frm (decL n)) = dgs 20 n.natAbs ∧ 1 ≤ (decL n).length - frm (decL n) ∧ (decL n).length - frm (decL n) ≤ 9 ∧ frm (decL n) ≤ (decL n).length := by
  have hp := dgs_pos 20 n.natAbs (by decide)
  have hl := dgs_length 9 20 n.natAbs (by omega) (by decide)
  by_cases k : n < 0
  · have e : decL n = 45 :: dgs 20 n.natAbs := by unfold decL; rw [if_pos k]
    have f : frm (decL n) = 1 := by rw [e]; rfl
    rw [f, if_pos k, e]
    refine ⟨rfl, rfl, ?_, ?_, ?_⟩ <;> simp <;> omega
  · have e : decL n = dgs 20 n.natAbs := by unfold decL; rw [if_neg k, show n.toNat = n.natAbs by omega]
    have f : frm (decL n) = 0 := by
      rw [e]
      unfold frm
      cases h : dgs 20 n.natAbs with
      | nil => rfl
      | cons b r =>
        have hb := dgs_digit 20 n.natAbs b (by rw [h]; exact .head _)
        rw [if_neg]
        simp
        rintro rfl
        simp at hb
    rw [f, if_neg k, e]
    refine ⟨rfl, rfl, ?_, ?_, ?_⟩ <;> omega
/-- Too short or too long. -/
theorem num_long {l : List UInt8} (h : l.length < frm l + 1 ∨ frm l + 9 < l.length) : numOk l = false := by
  cases k : numOk l with
  | false => rfl
  | true =>
    obtain ⟨a, b, c⟩ := num_only k
    obtain ⟨_, _, d, e, f⟩ := dec_parts a b
    rw [c] at d e f
    omega
theorem num_value {l : List UInt8} (k : numOk l = true) : decFrom 0 (l.drop (frm l)) = some (numV l).natAbs ∧ frm l = (if numV l < 0 then 1 else 0) := by
  obtain ⟨a, b, c⟩ := num_only k
  obtain ⟨d, e, _⟩ := dec_parts a b
  rw [c] at d e
  refine ⟨?_, d⟩
  rw [e]
  exact decFrom_dec 20 _ (by omega) (by decide)
/-- A byte that is no digit. -/
theorem num_bad {l : List UInt8} {i : Nat} {b : UInt8} (hi : frm l ≤ i) (h : l[i]? = some b) (hb : b.toNat < 48 ∨ 57 < b.toNat) : numOk l = false := by
  cases k : numOk l with
  | false => rfl
  | true =>
    obtain ⟨e, _⟩ := num_value k
    obtain ⟨d, hd⟩ := digit_of_decFrom _ _ _ e (i - frm l) b (by rw [List.getElem?_drop, show frm l + (i - frm l) = i by omega]; exact h)
    unfold digitVal at hd
    rw [if_neg (by omega)] at hd
    cases hd
/-- What all digits spell: it is the text's number, if the number's decimal is the text; else there is none. -/
theorem num_end {l : List UInt8} {u : Nat} (h : decFrom 0 (l.drop (frm l)) = some u) (hu : u ≤ 999999999) :
    (decL (if frm l = 1 then -(u : Int) else u) = l → numOk l = true ∧ numV l = if frm l = 1 then -(u : Int) else u) ∧ (decL (if frm l = 1 then -(u : Int) else u) ≠ l → numOk l = false) := by
  have hb : -999999999 ≤ (if frm l = 1 then -(u : Int) else u) ∧ (if frm l = 1 then -(u : Int) else u) ≤ 999999999 := by split <;> omega
  refine ⟨fun e => num_is hb.1 hb.2 e, fun e => ?_⟩
  cases k : numOk l with
  | false => rfl
  | true =>
    exfalso
    apply e
    obtain ⟨a, b, c⟩ := num_only k
    obtain ⟨d, f⟩ := num_value k
    rw [h] at d
    injection d with d
    have : (if frm l = 1 then -(u : Int) else u) = numV l := by
      rw [f, d]
      by_cases q : numV l < 0
      · rw [if_pos q, if_pos rfl]; omega
      · rw [if_neg q, if_neg (by decide)]; omega
    rw [this]; exact c
theorem frm_le (l : List UInt8) : frm l ≤ 1 := by unfold frm; split <;> omega
theorem decFrom_bd : ∀ (l : List UInt8) (acc u k : Nat), acc < 10 ^ k → decFrom acc l = some u → u < 10 ^ (k + l.length)
  | [], acc, u, k, ha, h => by simp only [decFrom, Option.some.injEq] at h; subst h; simpa using ha
  | b :: r, acc, u, k, ha, h => by
    simp only [decFrom] at h
    cases e : digitVal b with
    | none => rw [e] at h; cases h
    | some d =>
      rw [e] at h
      have hd : d < 10 := by unfold digitVal at e; split at e <;> simp at e; omega
      have := decFrom_bd r (acc * 10 + d) u (k + 1) (by rw [Nat.pow_succ]; omega) h
      rw [show k + (b :: r).length = k + 1 + r.length by simp; omega]
      exact this
theorem decL_length {n : Int} (h0 : -9999999999 < n) (h1 : n < 9999999999) : (decL n).length ≤ 11 := by
  unfold decL
  by_cases k : n < 0
  · rw [if_pos k]; have := dgs_length 10 20 n.natAbs (by omega) (by decide); simp; omega
  · rw [if_neg k]; have := dgs_length 10 20 n.toNat (by omega) (by decide); omega
/-- A decimal has no blank. -/
theorem decL_blank (n : Int) : (32 : UInt8) ∉ decL n := by
  intro h
  unfold decL at h
  split at h
  · rcases List.mem_cons.1 h with h | h
    · cases h
    · have := dgs_digit _ _ _ h; simp at this
  · have := dgs_digit _ _ _ h; simp at this
theorem decL_some (n : Int) : decL n ≠ [] := by
  unfold decL
  split
  · simp
  · intro h; have := dgs_pos 20 n.toNat (by decide); rw [h] at this; simp at this
end

section
open Go.Lib

/-- The words of what is left, behind the part of a word that has been read. -/
def wdsC : List UInt8 → List UInt8 → List (List UInt8)
  | cur, [] => if cur = [] then [] else [cur]
  | cur, c :: r => if c = 32 then (if cur = [] then wdsC [] r else cur :: wdsC [] r) else wdsC (cur ++ [c]) r
def wds (l : List UInt8) : List (List UInt8) := wdsC [] l
/-- A text of bytes. -/
def txt (l : List UInt8) : ByteArray := ⟨l.toArray⟩
theorem txt_list (l : List UInt8) : (txt l).data.toList = l := by simp [txt]
theorem txt_of (s : ByteArray) : txt s.data.toList = s := by cases s; simp [txt]
theorem txt_inj {a b : List UInt8} (h : txt a = txt b) : a = b := by rw [← txt_list a, h, txt_list]
theorem txt_size (l : List UInt8) : (txt l).size = l.length := by simp [txt, ByteArray.size]
/-- The words of a text. -/
def wtx (s : ByteArray) : List ByteArray := (wds s.data.toList).map txt

theorem wdsC_run : ∀ (t cur r : List UInt8), (∀ x ∈ t, x ≠ 32) → wdsC cur (t ++ r) = wdsC (cur ++ t) r
  | [], cur, r, _ => by simp
  | c :: t, cur, r, h => by
    rw [List.cons_append, wdsC, if_neg (h c (.head _)), wdsC_run t _ r (fun x hx => h x (.tail _ hx)), List.append_assoc]
    rfl
theorem wdsC_blank (cur r : List UInt8) : wdsC cur (32 :: r) = (if cur = [] then [] else [cur]) ++ wdsC [] r := by
  rw [wdsC, if_pos rfl]
  split <;> rfl

/-- A decoded rune is a blank just where a blank stands; no blank stands within a longer one. -/
theorem dec_blank (n b0 b1 b2 b3 : Nat) : (decodeN n b0 b1 b2 b3).1 = 32 ↔ b0 = 32 := by
  unfold decodeN
  repeat' split
  all_goals (dsimp only; omega)
theorem dec_within (n b0 b1 b2 b3 : Nat) : (b0 = 32 → (decodeN n b0 b1 b2 b3).2 = 1) ∧ (1 < (decodeN n b0 b1 b2 b3).2 → b1 ≠ 32) ∧ (2 < (decodeN n b0 b1 b2 b3).2 → b2 ≠ 32) ∧ (3 < (decodeN n b0 b1 b2 b3).2 → b3 ≠ 32) ∧ (decodeN n b0 b1 b2 b3).2 ≤ 4 := by
  unfold decodeN
  repeat' split
  all_goals (dsimp only; refine ⟨fun _ => ?_, fun _ => ?_, fun _ => ?_, fun _ => ?_, ?_⟩ <;> omega)
theorem dec_at {s : ByteArray} {pos : Nat} (h : pos < s.size) : ((Utf8.decode s pos).1 = 32 ↔ s.data.toList[pos]? = some 32) ∧ pos + (Utf8.decode s pos).2 ≤ s.size ∧
    (s.data.toList[pos]? = some 32 → (Utf8.decode s pos).2 = 1) ∧ (s.data.toList[pos]? ≠ some 32 → ∀ x ∈ (s.data.toList.drop pos).take (Utf8.decode s pos).2, x ≠ 32) := by
  have hsz : s.size = s.data.toList.length := size_eq s
  rw [decode_N]
  have hlen : pos < s.data.toList.length := by omega
  have g0 : s.data.toList[pos]? = some s.data.toList[pos] := List.getElem?_eq_getElem hlen
  have d0 : s.data.toList.getD pos 0 = s.data.toList[pos] := by rw [List.getD_eq_getElem?_getD, g0]; rfl
  have e0 : s.data.toList[pos]? = some 32 ↔ (s.data.toList.getD pos 0).toNat = 32 := by
    rw [g0, d0, Option.some.injEq]
    exact ⟨fun e => by rw [e]; rfl, fun e => UInt8.toNat_inj.1 e⟩
  have q := dec_within (s.data.toList.length - pos) (s.data.toList.getD pos 0).toNat (s.data.toList.getD (pos + 1) 0).toNat (s.data.toList.getD (pos + 2) 0).toNat (s.data.toList.getD (pos + 3) 0).toNat
  have hw := decodeN_le_n' (s.data.toList.length - pos) (s.data.toList.getD pos 0).toNat (s.data.toList.getD (pos + 1) 0).toNat (s.data.toList.getD (pos + 2) 0).toNat (s.data.toList.getD (pos + 3) 0).toNat (by omega)
  refine ⟨(dec_blank _ _ _ _ _).trans e0.symm, by omega, fun h32 => q.1 (e0.1 h32), ?_⟩
  intro hn x hx
  generalize hk : (decodeN (s.data.toList.length - pos) (s.data.toList.getD pos 0).toNat (s.data.toList.getD (pos + 1) 0).toNat (s.data.toList.getD (pos + 2) 0).toNat (s.data.toList.getD (pos + 3) 0).toNat).2 = k at *
  obtain ⟨i, hi, rfl⟩ := List.getElem_of_mem hx
  rw [List.length_take] at hi
  have hik : i < k := by omega
  have hil : pos + i < s.data.toList.length := by rw [List.length_drop] at hi; omega
  rw [List.getElem_take, List.getElem_drop]
  have gi : s.data.toList.getD (pos + i) 0 = s.data.toList[pos + i] := by rw [List.getD_eq_getElem?_getD, List.getElem?_eq_getElem hil]; rfl
  rw [← gi]
  intro e
  have e' : (s.data.toList.getD (pos + i) 0).toNat = 32 := by rw [e]; rfl
  match i, hik, e' with
  | 0, _, e' => exact hn (e0.2 e')
  | 1, hik, e' => exact q.2.1 hik e'
  | 2, hik, e' => exact q.2.2.1 hik e'
  | 3, hik, e' => exact q.2.2.2.1 hik e'
  | i + 4, hik, _ => have := q.2.2.2.2; omega

def isBlank (x : Nat) : Bool := x == 32
/-- The pass over the runes: what the words give from pos on, behind those that are closed, is what the spans give. -/
theorem spans_wds (s : ByteArray) : ∀ (f pos : Nat) (st : Option Nat) (acc : List (Nat × Nat)), s.size ≤ pos + f → pos ≤ s.size → (∀ a, st = some a → a < pos) →
    acc.map (fun p => pieceU s.data.toList p.1 p.2) ++ wdsC (openPiece s.data.toList st pos) (s.data.toList.drop pos) = (closeSpans s (spansFromP isBlank s f pos st acc)).map (fun p => pieceU s.data.toList p.1 p.2)
  | 0, pos, st, acc, h, hp, hst => by
    obtain rfl : pos = s.size := by omega
    have hd : s.data.toList.drop s.size = [] := List.drop_eq_nil_of_le (by rw [← size_eq]; exact Nat.le_refl _)
    rw [hd, wdsC]
    cases st with
    | none => simp [spansFromP, closeSpans, openPiece]
    | some a =>
      have := pieceU_ne s.data.toList a s.size (hst a rfl) (by rw [← size_eq]; exact Nat.le_refl _)
      simp [spansFromP, closeSpans, openPiece, this]
  | f + 1, pos, st, acc, h, hp, hst => by
    by_cases hlt : pos < s.size
    · obtain ⟨q1, q2, q3, q4⟩ := dec_at hlt
      have hl : pos < s.data.toList.length := by rw [← size_eq]; exact hlt
      have hd : s.data.toList.drop pos = s.data.toList[pos] :: s.data.toList.drop (pos + 1) := List.drop_eq_getElem_cons hl
      have hw : 1 ≤ (Utf8.decode s pos).2 := width_pos s pos
      unfold spansFromP
      rw [if_pos hlt]
      by_cases hb : s.data.toList[pos]? = some 32
      · have hc : s.data.toList[pos] = 32 := by rw [List.getElem?_eq_getElem hl] at hb; exact Option.some.inj hb
        have e1 : isBlank (Utf8.decode s pos).1 = true := by unfold isBlank; rw [q1.2 hb]; rfl
        rw [e1, q3 hb, hd, hc, wdsC_blank]
        simp only [if_true]
        cases st with
        | none =>
          have ih := spans_wds s f (pos + 1) none acc (by omega) (by omega) (fun a h => by cases h)
          simp only [openPiece] at ih ⊢
          simpa using ih
        | some a =>
          have ha := hst a rfl
          have hne := pieceU_ne s.data.toList a pos ha (by omega)
          have ih := spans_wds s f (pos + 1) none (acc ++ [(a, pos)]) (by omega) (by omega) (fun a h => by cases h)
          rw [if_neg (show openPiece s.data.toList (some a) pos ≠ [] from hne)]
          simp only [openPiece, List.map_append, List.map_cons, List.map_nil, List.append_assoc] at ih ⊢
          exact ih
      · have e1 : isBlank (Utf8.decode s pos).1 = false := by
          unfold isBlank
          rw [beq_eq_false_iff_ne]
          exact fun e => hb (q1.1 e)
        have hrun := q4 hb
        have hsp : s.data.toList.drop pos = (s.data.toList.drop pos).take (Utf8.decode s pos).2 ++ s.data.toList.drop (pos + (Utf8.decode s pos).2) := by
          rw [← List.drop_drop]; exact (List.take_append_drop _ _).symm
        rw [e1, hsp, wdsC_run _ _ _ hrun]
        simp only [Bool.false_eq_true, if_false]
        cases st with
        | none =>
          have ih := spans_wds s f (pos + (Utf8.decode s pos).2) (some pos) acc (by omega) q2 (fun a h => by cases h; omega)
          have e2 : openPiece s.data.toList (some pos) (pos + (Utf8.decode s pos).2) = openPiece s.data.toList none pos ++ (s.data.toList.drop pos).take (Utf8.decode s pos).2 := by
            simp [openPiece, pieceU]
          rw [e2] at ih
          exact ih
        | some a =>
          have ha := hst a rfl
          have ih := spans_wds s f (pos + (Utf8.decode s pos).2) (some a) acc (by omega) q2 (fun a' h => by cases h; omega)
          have e2 : openPiece s.data.toList (some a) (pos + (Utf8.decode s pos).2) = openPiece s.data.toList (some a) pos ++ (s.data.toList.drop pos).take (Utf8.decode s pos).2 := by
            simp only [openPiece]
            exact (pieceU_grow _ a pos _ (by omega)).symm
          rw [e2] at ih
          exact ih
    · obtain rfl : pos = s.size := by omega
      rw [spansFromP_end _ _ _ _ _ _ hlt]
      have hd : s.data.toList.drop s.size = [] := List.drop_eq_nil_of_le (by rw [← size_eq]; exact Nat.le_refl _)
      rw [hd, wdsC]
      cases st with
      | none => simp [closeSpans, openPiece]
      | some a =>
        have := pieceU_ne s.data.toList a s.size (hst a rfl) (by rw [← size_eq]; exact Nat.le_refl _)
        simp [closeSpans, openPiece, this]
theorem fields_wds (s : ByteArray) : goFieldsP isBlank s = wtx s := by
  have h := spans_wds s s.size 0 none [] (by omega) (by omega) (fun a h => by cases h)
  unfold goFieldsP spansOfP wtx wds
  simp only [List.map_nil, List.nil_append, openPiece, List.drop_zero] at h
  rw [h, List.map_map]
  refine List.map_congr_left fun p _ => ?_
  have e := extract_toList s p.1 p.2
  rw [ByteArray.toList_eq] at e
  show _ = txt (pieceU s.data.toList p.1 p.2)
  rw [← txt_of (s.extract p.1 p.2), e]
  rfl

/-- Words are not empty and have no blank; there are no more of them than bytes. -/
theorem wdsC_ok : ∀ (r cur : List UInt8), (∀ x ∈ cur, x ≠ 32) → ∀ w ∈ wdsC cur r, w ≠ [] ∧ ∀ x ∈ w, x ≠ 32
  | [], cur, h, w, hw => by
    rw [wdsC] at hw
    split at hw
    · simp at hw
    · rename_i k
      simp only [List.mem_singleton] at hw
      subst hw
      exact ⟨k, h⟩
  | c :: r, cur, h, w, hw => by
    rw [wdsC] at hw
    split at hw
    · split at hw
      · exact wdsC_ok r [] (by simp) w hw
      · rename_i k
        rcases List.mem_cons.1 hw with rfl | hw
        · exact ⟨k, h⟩
        · exact wdsC_ok r [] (by simp) w hw
    · rename_i k
      refine wdsC_ok r (cur ++ [c]) (fun x hx => ?_) w hw
      rcases List.mem_append.1 hx with hx | hx
      · exact h x hx
      · simp only [List.mem_singleton] at hx
        subst hx; exact k
theorem wds_ok {l w : List UInt8} (h : w ∈ wds l) : w ≠ [] ∧ ∀ x ∈ w, x ≠ 32 := wdsC_ok l [] (by simp) w h
theorem wdsC_len : ∀ (r cur : List UInt8), (wdsC cur r).length ≤ r.length + (if cur = [] then 0 else 1) ∧ ∀ w ∈ wdsC cur r, w.length ≤ cur.length + r.length
  | [], cur => by
    rw [wdsC]
    split <;> simp
  | c :: r, cur => by
    rw [wdsC]
    have i0 := wdsC_len r []
    have i1 := wdsC_len r (cur ++ [c])
    split
    · split
      · simp at i0 ⊢
        exact ⟨by omega, fun w hw => by have := i0.2 w hw; omega⟩
      · simp at i0 ⊢
        exact ⟨by omega, fun w hw => by have := i0.2 w hw; omega⟩
    · simp at i1 ⊢
      exact ⟨by split <;> omega, fun w hw => by have := i1.2 w hw; omega⟩
theorem wds_len (l : List UInt8) : (wds l).length ≤ l.length := by have := (wdsC_len l []).1; simpa [wds] using this
theorem wds_each {l w : List UInt8} (h : w ∈ wds l) : w.length ≤ l.length := by have := (wdsC_len l []).2 w h; simpa [wds] using this
/-- Whoever is closed: what comes behind it has words of its own. -/
def Closed (t : List UInt8) : Prop := ∀ r, wds (t ++ r) = wds t ++ wds r
theorem closed_nil : Closed [] := fun r => by simp [wds, wdsC]
theorem wdsC_closed : ∀ (t cur : List UInt8) (r : List UInt8), wdsC cur (t ++ 32 :: r) = wdsC cur (t ++ [32]) ++ wdsC [] r
  | [], cur, r => by
    rw [List.nil_append, List.nil_append, wdsC_blank, wdsC_blank]
    simp [wdsC]
  | c :: t, cur, r => by
    rw [List.cons_append, List.cons_append, wdsC, wdsC]
    split
    · split
      · exact wdsC_closed t [] r
      · rw [wdsC_closed t [] r]; rfl
    · exact wdsC_closed t _ r
theorem closed_blank (t : List UInt8) : Closed (t ++ [32]) := fun r => by
  unfold wds
  rw [List.append_assoc]
  exact wdsC_closed t [] r
theorem wds_word {w : List UInt8} (h : ∀ x ∈ w, x ≠ 32) (hn : w ≠ []) : wds w = [w] := by
  unfold wds
  have := wdsC_run w [] [] h
  rw [List.append_nil] at this
  rw [this, List.nil_append, wdsC, if_neg hn]
theorem wds_word_blank {w r : List UInt8} (h : ∀ x ∈ w, x ≠ 32) (hn : w ≠ []) : wds (w ++ 32 :: r) = w :: wds r := by
  unfold wds
  rw [wdsC_run w [] _ h, List.nil_append, wdsC_blank, if_neg hn]
  rfl
theorem wds_blank (r : List UInt8) : wds (32 :: r) = wds r := by unfold wds; rw [wdsC_blank]; rfl
/-- Words joined by blanks are their words. -/
theorem wds_join : ∀ (ws : List (List UInt8)), (∀ w ∈ ws, w ≠ [] ∧ ∀ x ∈ w, x ≠ 32) → wds (join ws [32]) = ws
  | [], _ => rfl
  | [w], h => by
    rw [join_one]
    exact wds_word (h w (.head _)).2 (h w (.head _)).1
  | w :: y :: r, h => by
    have e : join (w :: y :: r) [32] = w ++ 32 :: join (y :: r) [32] := by
      rw [join_cons, join_cons]
      simp [joinTail]
    rw [e, wds_word_blank (h w (.head _)).2 (h w (.head _)).1, wds_join (y :: r) (fun x hx => h x (.tail _ hx))]
/-- The document's own pass, byte by byte. -/
theorem wds_step_in {l cur : List UInt8} {k : Nat} {acc : List (List UInt8)} {c : UInt8} (h : acc ++ wdsC cur (l.drop k) = wds l) (hc : l[k]? = some c) (hb : c ≠ 32) : acc ++ wdsC (cur ++ [c]) (l.drop (k + 1)) = wds l := by
  obtain ⟨hk, rfl⟩ := List.getElem?_eq_some_iff.1 hc
  rw [List.drop_eq_getElem_cons hk, wdsC, if_neg hb] at h
  exact h
theorem wds_step_end {l cur : List UInt8} {k : Nat} {acc : List (List UInt8)} (h : acc ++ wdsC cur (l.drop k) = wds l) (hc : l[k]? = some 32) : (acc ++ if cur = [] then [] else [cur]) ++ wdsC [] (l.drop (k + 1)) = wds l := by
  obtain ⟨hk, e⟩ := List.getElem?_eq_some_iff.1 hc
  rw [List.drop_eq_getElem_cons hk, e, wdsC_blank] at h
  rw [List.append_assoc]
  exact h
theorem wds_step_all {l cur : List UInt8} {k : Nat} {acc : List (List UInt8)} (h : acc ++ wdsC cur (l.drop k) = wds l) (hk : l.length ≤ k) : (acc ++ if cur = [] then [] else [cur]) = wds l := by
  rw [List.drop_eq_nil_of_le hk, wdsC] at h
  exact h
end

section
open Go.Lib

/-- A letter whose field is a register, a number, or either. -/
def isReg (c : Int) : Prop := c = 100 ∨ c = 97 ∨ c = 98
def isNum (c : Int) : Prop := c = 115 ∨ c = 117
instance (c : Int) : Decidable (isReg c) := inferInstanceAs (Decidable (_ ∨ _))
instance (c : Int) : Decidable (isNum c) := inferInstanceAs (Decidable (_ ∨ _))
/-- A field's words (one, or none). -/
def opdW (c x : Int) : List (List UInt8) := if isReg c then [114 :: decL x] else if isNum c then [decL x] else []
/-- One of fourOf. -/
def fourOf (d a b n : Int) (k : Nat) : Int := match k with | 0 => d | 1 => a | 2 => b | _ => n
/-- The words of an instruction's line: its name's, and the first k fields'. -/
def tells (o d a b n : Int) : Nat → List (List UInt8)
  | 0 => [(wName o).data.toList]
  | k + 1 => tells o d a b n k ++ opdW (shL o k) (fourOf d a b n k)
def lineWs (o d a b n : Int) : List (List UInt8) := tells o d a b n 4
/-- An instruction's line; nothing, if it may not be. -/
def lineT (o d a b n : Int) : ByteArray := if cChk o d a b n = 0 then txt (join (lineWs o d a b n) [32]) else ⟨#[]⟩

/-- Is a word a register? -/
def regOk (w : List UInt8) : Bool := hasPrefix w [114] && numOk (trimPrefix w [114])
def regV (w : List UInt8) : Int := numV (trimPrefix w [114])
def opdOk (c : Int) (w : List UInt8) : Bool := if isReg c then regOk w else if isNum c then numOk w else true
def opdV (c : Int) (w : List UInt8) : Int := if isReg c then regV w else if isNum c then numV w else 0
/-- How many words the first k fields have. -/
def used (o : Int) : Nat → Nat
  | 0 => 0
  | k + 1 => used o k + if isReg (shL o k) ∨ isNum (shL o k) then 1 else 0
/-- The word at place i, the empty one behind the last. -/
def wAt (ws : List (List UInt8)) (i : Nat) : List UInt8 := ws.getD i []
/-- A field as it is read of the operands' words, and whether the first k can be read. -/
def fldR (o : Int) (ws : List (List UInt8)) (k : Nat) : Int := opdV (shL o k) (wAt ws (used o k))
def okTo (o : Int) (ws : List (List UInt8)) : Nat → Bool
  | 0 => true
  | k + 1 => okTo o ws k && opdOk (shL o k) (wAt ws (used o k))
/-- What a line is read as. -/
def pOp (ws : List (List UInt8)) : Int := wFind (txt (wAt ws 0))
def pGood (ws : List (List UInt8)) : Bool := decide (pOp ws ≠ 0) && (okTo (pOp ws) ws.tail 4 && decide (ws.tail.length = used (pOp ws) 4))
def pErr (ws : List (List UInt8)) : Int := if pGood ws = true then cChk (pOp ws) (fldR (pOp ws) ws.tail 0) (fldR (pOp ws) ws.tail 1) (fldR (pOp ws) ws.tail 2) (fldR (pOp ws) ws.tail 3) else 3
def pO (ws : List (List UInt8)) : Int := if pErr ws = 0 then pOp ws else 0
def pF (ws : List (List UInt8)) (k : Nat) : Int := if pErr ws = 0 then fldR (pOp ws) ws.tail k else 0

theorem find_nil : wFind ⟨#[]⟩ = 0 := find_0 fun _ hj => nm_some hj
theorem find_name {o : Int} (h : isOp o) : wFind (wName o) = o := by
  unfold isOp at h
  rw [wName_in h.1 h.2, find_nm (by omega)]
  omega
theorem find_op {s : ByteArray} (h : wFind s ≠ 0) : isOp (wFind s) := by
  by_cases k : ∃ j, j < 43 ∧ nm j = s
  · obtain ⟨j, hj, rfl⟩ := k
    rw [find_nm hj]
    unfold isOp
    omega
  · exact absurd (find_0 fun j hj e => k ⟨j, hj, e⟩) h
theorem pOp_op {ws : List (List UInt8)} (h : pGood ws = true) : isOp (pOp ws) := by
  unfold pGood at h
  simp only [Bool.and_eq_true, decide_eq_true_eq] at h
  exact find_op h.1
theorem numOk_nil : numOk [] = false := by decide
theorem regOk_nil : regOk [] = false := by decide
/-- Who can be read has words enough. -/
theorem opdOk_nil {c : Int} (h : isReg c ∨ isNum c) : opdOk c [] = false := by
  unfold opdOk
  by_cases k : isReg c
  · rw [if_pos k, regOk_nil]
  · rw [if_neg k, if_pos (h.resolve_left k), numOk_nil]
theorem okTo_used {o : Int} {ws : List (List UInt8)} : ∀ (k : Nat), okTo o ws k = true → used o k ≤ ws.length
  | 0, _ => Nat.zero_le _
  | k + 1, h => by
    rw [okTo, Bool.and_eq_true] at h
    have i := okTo_used k h.1
    rw [used]
    split
    · rename_i q
      by_cases e : used o k < ws.length
      · omega
      · exfalso
        have hn : wAt ws (used o k) = [] := by
          unfold wAt
          rw [List.getD_eq_getElem?_getD, List.getElem?_eq_none (by omega)]
          rfl
        rw [hn, opdOk_nil q] at h
        exact absurd h.2 (by decide)
    · omega
theorem name_word {o : Int} (h : isOp o) : (wName o).data.toList ≠ [] ∧ ∀ x ∈ (wName o).data.toList, x ≠ 32 := by
  unfold isOp at h
  rw [wName_in h.1 h.2]
  refine ⟨fun e => nm_some (k := (o - 1).toNat) (by omega) (str_ext e), fun x hx e => ?_⟩
  subst e
  exact nm_blank (by omega) hx
theorem opdW_word {c x : Int} : ∀ w ∈ opdW c x, w ≠ [] ∧ ∀ y ∈ w, y ≠ 32 := by
  intro w hw
  have q : ∀ y ∈ decL x, y ≠ 32 := fun y hy e => by subst e; exact decL_blank x hy
  unfold opdW at hw
  split at hw
  · simp only [List.mem_singleton] at hw
    subst hw
    refine ⟨by simp, fun y hy => ?_⟩
    rcases List.mem_cons.1 hy with rfl | hy
    · decide
    · exact q y hy
  · split at hw
    · simp only [List.mem_singleton] at hw
      subst hw
      exact ⟨decL_some x, q⟩
    · simp at hw
theorem tells_word {o d a b n : Int} (h : isOp o) : ∀ (k : Nat), ∀ w ∈ tells o d a b n k, w ≠ [] ∧ ∀ x ∈ w, x ≠ 32
  | 0, w, hw => by
    simp only [tells, List.mem_singleton] at hw
    subst hw
    exact name_word h
  | k + 1, w, hw => by
    rw [tells] at hw
    rcases List.mem_append.1 hw with hw | hw
    · exact tells_word h k w hw
    · exact opdW_word w hw
/-- A line's words. -/
theorem wds_line {o d a b n : Int} (h : cChk o d a b n = 0) : wds (lineT o d a b n).data.toList = lineWs o d a b n := by
  unfold lineT
  rw [if_pos h, txt_list]
  exact wds_join _ (tells_word (chk_op h) 4)
theorem reg_dec {x : Int} (h0 : 0 ≤ x) (h1 : x ≤ 31) : regOk (114 :: decL x) = true ∧ regV (114 :: decL x) = x := by
  have e : trimPrefix (114 :: decL x) [114] = decL x := by simp [trimPrefix, hasPrefix, List.isPrefixOf]
  obtain ⟨p, q⟩ := num_dec (n := x) (by omega) (by omega)
  unfold regOk regV
  rw [e, p, q]
  refine ⟨?_, rfl⟩
  simp [hasPrefix, List.isPrefixOf]
theorem num_dec' {x : Int} (h0 : -32768 ≤ x) (h1 : x ≤ 65535) : numOk (decL x) = true ∧ numV (decL x) = x := num_dec (by omega) (by omega)
/-- What has a line is read of its words. -/
theorem line_back {o d a b n : Int} (h : cChk o d a b n = 0) : pErr (lineWs o d a b n) = 0 ∧ pO (lineWs o d a b n) = o ∧ pF (lineWs o d a b n) 0 = d ∧ pF (lineWs o d a b n) 1 = a ∧ pF (lineWs o d a b n) 2 = b ∧ pF (lineWs o d a b n) 3 = n := by
  have k := chk_op h
  have hf : pOp (lineWs o d a b n) = o := by
    have e : lineWs o d a b n = (wName o).data.toList :: (lineWs o d a b n).tail := by
      simp only [lineWs, tells, List.append_assoc, List.cons_append, List.nil_append, List.tail_cons]
    unfold pOp
    rw [e]
    simp only [wAt, List.getD_cons_zero]
    rw [txt_of, find_name k]
  have ht : (lineWs o d a b n).tail = opdW (shL o 0) d ++ (opdW (shL o 1) a ++ (opdW (shL o 2) b ++ opdW (shL o 3) n)) := by
    simp only [lineWs, tells, List.append_assoc, List.cons_append, List.nil_append, List.tail_cons, fourOf]
  have hz : o ≠ 0 := by unfold isOp at k; omega
  suffices hh : okTo o (lineWs o d a b n).tail 4 = true ∧ (lineWs o d a b n).tail.length = used o 4 ∧ fldR o (lineWs o d a b n).tail 0 = d ∧ fldR o (lineWs o d a b n).tail 1 = a ∧ fldR o (lineWs o d a b n).tail 2 = b ∧ fldR o (lineWs o d a b n).tail 3 = n by
    obtain ⟨q0, q1, q2, q3, q4, q5⟩ := hh
    have hg : pGood (lineWs o d a b n) = true := by
      unfold pGood
      rw [hf, q0, q1]
      simp [hz]
    have he : pErr (lineWs o d a b n) = 0 := by
      unfold pErr
      rw [if_pos hg, hf, q2, q3, q4, q5]
      exact h
    refine ⟨he, ?_, ?_, ?_, ?_, ?_⟩
    · unfold pO; rw [if_pos he, hf]
    all_goals unfold pF; rw [if_pos he, hf]; assumption
  obtain ⟨e0, e1, e2, e3⟩ := chk_0 h
  obtain ⟨_, _, _, _, _, _, _, _, _, hs⟩ := shaped k
  clear h hf hz k
  rw [ht]
  clear ht
  unfold fldR
  simp only [okTo, used]
  generalize shL o 0 = l0 at *
  generalize shL o 1 = l1 at *
  generalize shL o 2 = l2 at *
  generalize shL o 3 = l3 at *
  have r100 : isReg 100 := by decide
  have r97 : isReg 97 := by decide
  have r98 : isReg 98 := by decide
  have r115 : ¬ isReg 115 := by decide
  have r117 : ¬ isReg 117 := by decide
  have r45 : ¬ isReg 45 := by decide
  have n115 : isNum 115 := by decide
  have n117 : isNum 117 := by decide
  have n45 : ¬ isNum 45 := by decide
  rcases hs with ⟨_, _, rfl, rfl, rfl, rfl⟩ | ⟨_, _, rfl, rfl, rfl, rfl⟩ | ⟨_, rfl, rfl, rfl, rfl⟩ | ⟨_, rfl, rfl, rfl, rfl⟩ | ⟨_, rfl, rfl, rfl, rfl⟩ | ⟨_, rfl, rfl, rfl, rfl⟩ | ⟨_, rfl, rfl, rfl, rfl⟩ | ⟨_, rfl, rfl, rfl, rfl⟩ <;>
    simp only [fE_r, fE_s, fE_u, fE_n, true_or, or_true, Int.reduceNeg] at e0 e1 e2 e3
  · have d0 := reg_dec (x := d) (by omega) (by omega)
    have a0 := reg_dec (x := a) (by omega) (by omega)
    have b0 := reg_dec (x := b) (by omega) (by omega)
    have z0 : n = 0 := by omega
    simp [opdW, opdOk, opdV, wAt, r100, r97, r98, r45, n45, d0, a0, b0, z0]
  · have d0 := reg_dec (x := d) (by omega) (by omega)
    have a0 := reg_dec (x := a) (by omega) (by omega)
    have b0 : b = 0 := by omega
    have z0 : n = 0 := by omega
    simp [opdW, opdOk, opdV, wAt, r100, r97, r45, n45, d0, a0, b0, z0]
  · have d0 := reg_dec (x := d) (by omega) (by omega)
    have a0 := reg_dec (x := a) (by omega) (by omega)
    have b0 : b = 0 := by omega
    have z0 := num_dec' (x := n) (by omega) (by omega)
    simp [opdW, opdOk, opdV, wAt, r100, r97, r45, n45, r115, n115, d0, a0, b0, z0]
  · have d0 := reg_dec (x := d) (by omega) (by omega)
    have a0 := reg_dec (x := a) (by omega) (by omega)
    have b0 : b = 0 := by omega
    have z0 := num_dec' (x := n) (by omega) (by omega)
    simp [opdW, opdOk, opdV, wAt, r100, r97, r45, n45, r117, n117, d0, a0, b0, z0]
  · have d0 := reg_dec (x := d) (by omega) (by omega)
    have a0 : a = 0 := by omega
    have b0 : b = 0 := by omega
    have z0 := num_dec' (x := n) (by omega) (by omega)
    simp [opdW, opdOk, opdV, wAt, r100, r45, n45, r117, n117, d0, a0, b0, z0]
  · have d0 : d = 0 := by omega
    have a0 : a = 0 := by omega
    have b0 : b = 0 := by omega
    have z0 := num_dec' (x := n) (by omega) (by omega)
    simp [opdW, opdOk, opdV, wAt, r45, n45, r117, n117, d0, a0, b0, z0]
  · have d0 : d = 0 := by omega
    have a0 := reg_dec (x := a) (by omega) (by omega)
    have b0 : b = 0 := by omega
    have z0 : n = 0 := by omega
    simp [opdW, opdOk, opdV, wAt, r97, r45, n45, d0, a0, b0, z0]
  · have d0 : d = 0 := by omega
    have a0 : a = 0 := by omega
    have b0 : b = 0 := by omega
    have z0 : n = 0 := by omega
    simp [opdW, opdOk, opdV, r45, n45, d0, a0, b0, z0]
/-- An instruction's words are few and short. -/
theorem name_short {o : Int} (h : isOp o) : (wName o).data.toList.length ≤ 5 := by
  have q : ((List.range 43).all fun k => decide ((nm k).data.toList.length ≤ 5)) = true := by decide +kernel
  unfold isOp at h
  rw [wName_in h.1 h.2]
  simpa using (List.all_eq_true.1 q) (o - 1).toNat (List.mem_range.2 (by omega))
theorem line_short {o d a b n : Int} (h : cChk o d a b n = 0) : (lineWs o d a b n).length ≤ 5 ∧ ∀ w ∈ lineWs o d a b n, w.length ≤ 12 := by
  have k := chk_op h
  obtain ⟨e0, e1, e2, e3⟩ := chk_0 h
  have bd : ∀ (c x : Int), fErr c x = 0 → -32768 ≤ x ∧ x ≤ 65535 := by
    intro c x hx
    unfold fErr at hx
    split at hx
    · rename_i q
      unfold rLow rHigh at q
      repeat' split at q
      all_goals omega
    · split at hx <;> cases hx
  have w0 : ∀ (c x : Int), fErr c x = 0 → (opdW c x).length ≤ 1 ∧ ∀ w ∈ opdW c x, w.length ≤ 12 := by
    intro c x hx
    have hb := bd c x hx
    have := decL_length (n := x) (by omega) (by omega)
    unfold opdW
    split
    · refine ⟨by simp, fun w hw => ?_⟩
      simp only [List.mem_singleton] at hw
      subst hw
      simp; omega
    · split
      · refine ⟨by simp, fun w hw => ?_⟩
        simp only [List.mem_singleton] at hw
        subst hw
        omega
      · simp
  have p0 := w0 _ _ e0
  have p1 := w0 _ _ e1
  have p2 := w0 _ _ e2
  have p3 := w0 _ _ e3
  have pn := name_short k
  simp only [lineWs, tells, fourOf, List.append_assoc]
  refine ⟨by simp; omega, fun w hw => ?_⟩
  simp only [List.mem_append, List.mem_singleton] at hw
  rcases hw with rfl | hw | hw | hw | hw
  · omega
  · exact p0.2 w hw
  · exact p1.2 w hw
  · exact p2.2 w hw
  · exact p3.2 w hw
end

end Go.Proofs.YtekhgidbnpfmnaaGreatDoor
