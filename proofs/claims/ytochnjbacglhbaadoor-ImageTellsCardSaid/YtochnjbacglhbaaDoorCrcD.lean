/- Sums of bytes: what package crc's functions mean in whole numbers, and two numbers of 16 bits, xored bit by bit. Nothing of any program. -/
import Derived.Test.YtochnjbacglhbaaDoorCrcM
import Derived.PlainAid
namespace Go.Proofs.YtochnjbacglhbaaDoor
open Go.RowKit

def cw (x : Int) : BitVec 16 := BitVec.ofInt 16 x
def cb8 (x : Int) : BitVec 8 := BitVec.ofInt 8 x
def cv (b : BitVec 16) : Int := b.toNat
theorem cv_bd (b : BitVec 16) : 0 ≤ cv b ∧ cv b < 65536 := by
  have := b.isLt
  unfold cv; omega
theorem cv_cw (x : Int) : cv (cw x) = x % 65536 := by
  unfold cv cw
  rw [BitVec.toNat_ofInt]
  have := Int.emod_nonneg x (show ((2 ^ 16 : Nat) : Int) ≠ 0 by decide)
  rw [Int.toNat_of_nonneg this]
  rfl
theorem cw_cv (b : BitVec 16) : cw (cv b) = b := by
  apply BitVec.eq_of_toNat_eq
  have h := cv_cw (cv b)
  have h2 := cv_bd b
  have h3 : cv (cw (cv b)) = cv b := by rw [h]; omega
  unfold cv at h3
  exact Int.ofNat.inj h3
theorem cv_inj {a b : BitVec 16} (h : cv a = cv b) : a = b := by rw [← cw_cv a, ← cw_cv b, h]
theorem cw_mod (x : Int) : cw (x % 65536) = cw x := cv_inj (by rw [cv_cw, cv_cw]; omega)

/-- Two numbers of 16 bits, xored. -/
def wXr (a b : Int) : Int := cv (cw a ^^^ cw b)
theorem wXr_bd (a b : Int) : 0 ≤ wXr a b ∧ wXr a b < 65536 := cv_bd _
theorem wXr_nat {a b : Nat} (ha : a < 65536) (hb : b < 65536) : wXr a b = ((a ^^^ b : Nat) : Int) := by
  unfold wXr cv
  have h1 : (cw (a : Int)).toNat = a := by have := cv_cw (a : Int); unfold cv at this; omega
  have h2 : (cw (b : Int)).toNat = b := by have := cv_cw (b : Int); unfold cv at this; omega
  rw [BitVec.toNat_xor, h1, h2]
/-- The lowest k bits of two numbers, xored: what has been gathered ahead of bit k. -/
theorem xor_low (a b k : Nat) : (a ^^^ b) % 2 ^ (k + 1) = (a ^^^ b) % 2 ^ k + (if a / 2 ^ k % 2 = b / 2 ^ k % 2 then 0 else 2 ^ k) := by
  rw [Nat.mod_pow_succ]
  congr 1
  have h : (a ^^^ b) / 2 ^ k % 2 = if a / 2 ^ k % 2 = b / 2 ^ k % 2 then 0 else 1 := by
    have t := Nat.testBit_xor a b k
    rw [Nat.testBit_eq_decide_div_mod_eq, Nat.testBit_eq_decide_div_mod_eq, Nat.testBit_eq_decide_div_mod_eq] at t
    have ha := Nat.mod_two_eq_zero_or_one (a / 2 ^ k)
    have hb := Nat.mod_two_eq_zero_or_one (b / 2 ^ k)
    have hc := Nat.mod_two_eq_zero_or_one ((a ^^^ b) / 2 ^ k)
    rcases ha with ha | ha <;> rcases hb with hb | hb <;> rcases hc with hc | hc <;> simp [ha, hb, hc] at t ⊢
  rw [h]
  split <;> simp
/-- A bit's step in whole numbers. -/
theorem cbs_num (x : BitVec 16) : cv (cbs x) = if 32768 ≤ cv x then wXr (2 * cv x % 65536) 4129 else 2 * cv x % 65536 := by
  have hs : cw (2 * cv x % 65536) = x <<< 1 := by
    apply cv_inj
    rw [cv_cw]
    unfold cv
    rw [BitVec.toNat_shiftLeft, Nat.shiftLeft_eq]
    have := x.isLt
    omega
  have hm : x.msb = decide (32768 ≤ cv x) := by
    rw [BitVec.msb_eq_decide]
    unfold cv
    simp only [decide_eq_decide]
    constructor <;> (intro h; simp at h ⊢; omega)
  unfold cbs wXr
  rw [hm, hs]
  by_cases h : 32768 ≤ cv x
  · rw [if_pos h]
    simp only [h, decide_true, if_true]
    rfl
  · rw [if_neg h]
    simp only [h, decide_false, Bool.false_eq_true, if_false, BitVec.xor_zero]
    rw [← hs, cv_cw]
    omega
/-- A byte's step, and the sum of bytes. -/
def wCt (c b : Int) : Int := cv (ct (cw c) (cb8 b))
theorem wCt_bd (c b : Int) : 0 ≤ wCt c b ∧ wCt c b < 65536 := cv_bd _
/-- What stands behind k of the eight bits. -/
def ctI (c b : Int) : Nat → BitVec 16
  | 0 => cw c ^^^ cw (256 * b)
  | k + 1 => cbs (ctI c b k)
theorem cpow_succ : ∀ (n : Nat) (x : BitVec 16), cpow (n + 1) x = cbs (cpow n x)
  | 0, _ => rfl
  | n + 1, x => by show cpow (n + 1) (cbs x) = cbs (cpow n (cbs x)); exact cpow_succ n (cbs x)
theorem ctI_8 {c b : Int} (h1 : 0 ≤ b) (h2 : b ≤ 255) : cv (ctI c b 8) = wCt c b := by
  have e : ∀ k, ctI c b k = cpow k (cw c ^^^ cw (256 * b)) := by
    intro k
    induction k with
    | zero => rfl
    | succ k ih => show cbs (ctI c b k) = _; rw [ih, cpow_succ]
  rw [e]
  unfold wCt ct
  have : cw (256 * b) = (cb8 b).setWidth 16 <<< 8 := by
    apply cv_inj
    rw [cv_cw]
    unfold cv cb8
    rw [BitVec.toNat_shiftLeft, Nat.shiftLeft_eq, BitVec.toNat_setWidth, BitVec.toNat_ofInt]
    obtain ⟨n, rfl⟩ : ∃ n : Nat, b = n := ⟨b.toNat, by omega⟩
    have : (((n : Int) % ((2 ^ 8 : Nat) : Int)).toNat) = n := by
      have : (n : Int) % ((2 ^ 8 : Nat) : Int) = n := Int.emod_eq_of_lt (by omega) (by simp; omega)
      rw [this]; simp
    rw [this]
    omega
  rw [this]
def wOf (l : List Int) : Int := l.foldl wCt 65535
theorem wOf_bd (l : List Int) : 0 ≤ wOf l ∧ wOf l < 65536 := by
  unfold wOf
  rcases List.eq_nil_or_concat l with rfl | ⟨m, b, rfl⟩
  · exact ⟨by decide, by decide⟩
  · rw [List.concat_eq_append, List.foldl_append]; exact wCt_bd _ _
theorem wOf_bv (l : List Int) (c : BitVec 16) : l.foldl wCt (cv c) = cv (cOf c (l.map cb8)) := by
  induction l generalizing c with
  | nil => rfl
  | cons b l ih =>
    show l.foldl wCt (wCt (cv c) b) = cv (cOf (ct c (cb8 b)) (l.map cb8))
    rw [← ih]
    congr 1
    unfold wCt
    rw [cw_cv]
end Go.Proofs.YtochnjbacglhbaaDoor
