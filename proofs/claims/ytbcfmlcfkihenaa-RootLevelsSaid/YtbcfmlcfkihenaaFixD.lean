/- What the functions of package fix mean: products by a power of 2, rounded to the nearest whole number, of two the greater. Nothing of any program. -/
import Derived.Test.YtbcfmlcfkihenaaSatD
import Derived.Test.YtbcfmlcfkihenaaWordM
namespace Go.Proofs.Ytbcfmlcfkihenaa
open Go.RowKit

/-- By 2^n, rounded; of another n than 1 to 62 the number itself. -/
def wRnd (x n : Int) : Int := if n < 1 ∨ 62 < n then x else (x + 2 ^ (n.toNat - 1)) / 2 ^ n.toNat
/-- The product of Q2.30, of Q16.16; the highest, the lowest 32 bits of a product. -/
def wMulq (a b : Int) : Int := wCut ((a * b + 536870912) / 1073741824)
def wMulr (a b : Int) : Int := wCut ((a * b + 32768) / 65536)
def wMulh (a b : Int) : Int := a * b / 4294967296
def wMull (a b : Int) : Int := wrap32 (a * b)

theorem prod_bd {a b : Int} (a1 : -2147483648 ≤ a) (a2 : a ≤ 2147483647) (b1 : -2147483648 ≤ b) (b2 : b ≤ 2147483647) :
    -4611686018427387904 ≤ a * b ∧ a * b ≤ 4611686018427387904 := by
  have h : (a * b).natAbs ≤ 2147483648 * 2147483648 := by
    rw [Int.natAbs_mul]; exact Nat.mul_le_mul (by omega) (by omega)
  omega
theorem wMulq_bd (a b : Int) : -2147483648 ≤ wMulq a b ∧ wMulq a b ≤ 2147483647 := wCut_bd _
theorem wMulr_bd (a b : Int) : -2147483648 ≤ wMulr a b ∧ wMulr a b ≤ 2147483647 := wCut_bd _
theorem wMulh_bd {a b : Int} (a1 : -2147483648 ≤ a) (a2 : a ≤ 2147483647) (b1 : -2147483648 ≤ b) (b2 : b ≤ 2147483647) :
    -2147483648 ≤ wMulh a b ∧ wMulh a b ≤ 2147483647 := by
  have := prod_bd a1 a2 b1 b2
  unfold wMulh; omega
theorem wMull_bd (a b : Int) : -2147483648 ≤ wMull a b ∧ wMull a b ≤ 2147483647 := by unfold wMull wrap32; omega
theorem wRnd_out {x n : Int} (h : n < 1 ∨ 62 < n) : wRnd x n = x := by unfold wRnd; rw [if_pos h]
theorem wRnd_30 (x : Int) : wRnd x 30 = (x + 536870912) / 1073741824 := by
  unfold wRnd; rw [if_neg (by omega)]
  have e1 : (2 : Int) ^ ((30 : Int).toNat - 1) = 536870912 := by decide
  have e2 : (2 : Int) ^ (30 : Int).toNat = 1073741824 := by decide
  rw [e1, e2]
theorem wRnd_16 (x : Int) : wRnd x 16 = (x + 32768) / 65536 := by
  unfold wRnd; rw [if_neg (by omega)]
  have e1 : (2 : Int) ^ ((16 : Int).toNat - 1) = 32768 := by decide
  have e2 : (2 : Int) ^ (16 : Int).toNat = 65536 := by decide
  rw [e1, e2]

theorem pow_pos' (k : Nat) : (0 : Int) < 2 ^ k := Int.pow_pos (by decide)
/-- Half a unit added ahead, or the highest lost bit added behind. -/
theorem half_bit' (x : Int) (k : Nat) : (x + 2 ^ k) / 2 ^ (k + 1) = x / 2 ^ (k + 1) + x / 2 ^ k % 2 := by
  have hk := pow_pos' k
  rw [Int.pow_succ, ← Int.ediv_ediv_of_nonneg (by omega), ← Int.ediv_ediv_of_nonneg (by omega)]
  have e : (x + 2 ^ k) / 2 ^ k = x / 2 ^ k + 1 := by
    have := Int.add_mul_ediv_right x 1 (show (2 : Int) ^ k ≠ 0 by omega)
    rw [Int.one_mul] at this; exact this
  rw [e]; omega
/-- Half a unit added ahead, or 1 added behind where the rest is half a unit or more. -/
theorem half_rest (x h : Int) (hh : 0 < h) : (x + h) / (2 * h) = if h ≤ x % (2 * h) then x / (2 * h) + 1 else x / (2 * h) := by
  have e := Int.emod_add_mul_ediv x (2 * h)
  have r0 := Int.emod_nonneg x (show 2 * h ≠ 0 by omega)
  have r1 := Int.emod_lt_of_pos x (show 0 < 2 * h by omega)
  generalize x % (2 * h) = r at *
  generalize x / (2 * h) = q at *
  have e' : x + h = (r + h) + q * (2 * h) := by rw [← e, Int.mul_comm q]; omega
  rw [e', Int.add_mul_ediv_right _ _ (by omega)]
  split
  · have e1 : (r + h) / (2 * h) = 1 := by
      have e2 : r + h = (r - h) + 1 * (2 * h) := by omega
      rw [e2, Int.add_mul_ediv_right _ _ (by omega), Int.ediv_eq_zero_of_lt (by omega) (by omega)]; omega
    omega
  · rw [Int.ediv_eq_zero_of_lt (by omega) (by omega)]; omega
theorem toNat_succ {n : Int} (h : 1 ≤ n) : n.toNat = (n.toNat - 1) + 1 := by omega
theorem wRnd_bits {x n : Int} (h1 : 1 ≤ n) (h2 : n ≤ 62) : x / 2 ^ n.toNat + x / 2 ^ (n.toNat - 1) % 2 = wRnd x n := by
  unfold wRnd
  rw [if_neg (by omega)]
  obtain ⟨k, hk⟩ : ∃ k, n.toNat = k + 1 := ⟨n.toNat - 1, by omega⟩
  rw [hk, Nat.add_sub_cancel, half_bit']
theorem wRnd_rest {x n : Int} (h1 : 1 ≤ n) (h2 : n ≤ 62) : wRnd x n = if 2 ^ n.toNat / 2 ≤ x % 2 ^ n.toNat then x / 2 ^ n.toNat + 1 else x / 2 ^ n.toNat := by
  unfold wRnd
  have e : (2 : Int) ^ n.toNat = 2 * 2 ^ (n.toNat - 1) := by
    conv => lhs; rw [toNat_succ h1, Int.pow_succ]
    omega
  have := pow_pos' (n.toNat - 1)
  rw [if_neg (by omega), e, half_rest _ _ this]
  have e2 : (2 * (2 : Int) ^ (n.toNat - 1)) / 2 = 2 ^ (n.toNat - 1) := by omega
  rw [e2]
theorem div_bd {x : Int} (k : Nat) (h1 : -9223372036854775808 ≤ x) (h2 : x ≤ 9223372036854775807) : -9223372036854775808 ≤ x / 2 ^ k ∧ x / 2 ^ k ≤ 9223372036854775807 := by
  have hk := pow_pos' k
  have ha := Int.natAbs_ediv_le_natAbs x (2 ^ k)
  by_cases hx : 0 ≤ x
  · have := Int.ediv_le_self (2 ^ k) hx
    omega
  · have := Int.ediv_neg_of_neg_of_pos (show x < 0 by omega) hk
    omega
theorem div_bd' {x n : Int} (h : 1 ≤ n) (h1 : -9223372036854775808 ≤ x) (h2 : x ≤ 9223372036854775807) : -4611686018427387904 ≤ x / 2 ^ n.toNat ∧ x / 2 ^ n.toNat ≤ 4611686018427387903 := by
  have := div_bd (n.toNat - 1) h1 h2
  have hk := pow_pos' (n.toNat - 1)
  have e : x / 2 ^ n.toNat = x / 2 ^ (n.toNat - 1) / 2 := by
    conv => lhs; rw [toNat_succ h, Int.pow_succ]
    rw [Int.ediv_ediv_of_nonneg (by omega)]
  omega
theorem and_i64_1 (x : Int) : bits .and .i64 x 1 = x % 2 := by
  have h := bits_and_mask .i64 1 (by decide) x
  have e1 : ((2 : Int) ^ 1 - 1) = 1 := by decide
  have e2 : ((2 : Int) ^ 1) = 2 := by decide
  rw [e1, e2] at h
  rw [h, IntWalk.i64_in _ (by omega)]
end Go.Proofs.Ytbcfmlcfkihenaa
