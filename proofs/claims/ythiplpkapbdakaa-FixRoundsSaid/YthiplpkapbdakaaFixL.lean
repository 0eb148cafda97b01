/- The plain facts of the laws on products of fixed point. Nothing of any program. -/
import Derived.Test.YthiplpkapbdakaaFixD
namespace Go.Proofs.Ythiplpkapbdakaa
open Go.RowKit

theorem mulq_comm (a b : Int) : wMulq b a = wMulq a b := by unfold wMulq; rw [Int.mul_comm]
theorem mulr_comm (a b : Int) : wMulr b a = wMulr a b := by unfold wMulr; rw [Int.mul_comm]
theorem mulq_one {a : Int} (h1 : -2147483648 ≤ a) (h2 : a ≤ 2147483647) : wMulq a 1073741824 = a := by
  unfold wMulq; rw [show (a * 1073741824 + 536870912) / 1073741824 = a by omega]; exact wCut_in h1 h2
theorem mulr_one {a : Int} (h1 : -2147483648 ≤ a) (h2 : a ≤ 2147483647) : wMulr a 65536 = a := by
  unfold wMulr; rw [show (a * 65536 + 32768) / 65536 = a by omega]; exact wCut_in h1 h2
theorem mulq_zero (a : Int) : wMulq a 0 = 0 := by
  unfold wMulq; rw [Int.mul_zero]; decide
theorem mulq_neg {a : Int} (h1 : -2147483647 ≤ a) (h2 : a ≤ 2147483647) : wMulq a (-1073741824) = -a := by
  unfold wMulq; rw [show (a * -1073741824 + 536870912) / 1073741824 = -a by omega]; exact wCut_in (by omega) (by omega)

/-- A product that is not cut is at most half a unit from the true one; one that is cut lies beyond. -/
theorem mulq_near (a b : Int) : (-2147483648 < wMulq a b ∧ wMulq a b < 2147483647 ∧ a * b - wMulq a b * 1073741824 < 536870912 ∧ -536870912 ≤ a * b - wMulq a b * 1073741824)
    ∨ (wMulq a b = -2147483648 ∧ a * b < -2305843008676823040) ∨ (wMulq a b = 2147483647 ∧ 2305843007603081216 ≤ a * b) := by
  unfold wMulq wCut; omega
theorem mulr_near (a b : Int) : (-2147483648 < wMulr a b ∧ wMulr a b < 2147483647 ∧ a * b - wMulr a b * 65536 < 32768 ∧ -32768 ≤ a * b - wMulr a b * 65536)
    ∨ (wMulr a b = -2147483648 ∧ a * b < -140737488322560) ∨ (wMulr a b = 2147483647 ∧ 140737488257024 ≤ a * b) := by
  unfold wMulr wCut; omega
theorem pow_up {k m : Nat} (h : k ≤ m) : (2 : Int) ^ k ≤ 2 ^ m := by
  have : 2 ^ k ≤ 2 ^ m := Nat.pow_le_pow_right (by decide) h
  exact_mod_cast this
theorem pow62 {n : Nat} (h : n ≤ 62) : (2 : Int) ^ n ≤ 4611686018427387904 := Int.le_trans (pow_up h) (by decide)
theorem and_low (x : Int) {n : Nat} (h : n ≤ 62) : bits .and .i64 x (2 ^ n - 1) = x % 2 ^ n := by
  have p0 := pow_pos' n
  have p1 := pow62 h
  have q0 := Int.emod_nonneg x (show (2 : Int) ^ n ≠ 0 by omega)
  have q1 := Int.emod_lt_of_pos x p0
  rw [bits_and_mask .i64 n (show n ≤ 64 by omega) x]
  exact IntWalk.i64_in _ (by omega)
end Go.Proofs.Ythiplpkapbdakaa
