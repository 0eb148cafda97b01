/- The plain facts behind the laws of layer 7. Nothing of any program. -/
import Derived.Test.YtgmphfagflhglaaGreatDoorNum
namespace Go.Proofs.YtgmphfagflhglaaGreatDoor
open Go.RowKit

theorem wLen_half {a : Int} (h1 : 0 < a) (h2 : a ≤ 2147483647) : wLen (a / 2) = wLen a - 1 := by
  have h := Lib.bitLen_half a.natAbs (by omega) (by omega)
  have e : (a / 2).natAbs = a.natAbs / 2 := by omega
  unfold wLen
  rw [e, h]; omega
theorem wLen_0 : wLen 0 = 0 := by decide +kernel
theorem wCostA_div {op a : Int} (h : op = 22 ∨ op = 23) : wCostA op a = 2 + wLen a := by
  unfold wCostA; rw [if_pos h]
  rcases h with rfl | rfl <;> rfl
theorem wCostA_rest {op a : Int} (h : ¬ (op = 22 ∨ op = 23)) : wCostA op a = wCost op := by
  unfold wCostA; rw [if_neg h]; omega

/-- A sum is made of bits: where they differ, and where both are. -/
theorem nat_sum_bits : ∀ (n a b : Nat), a < 2 ^ n → a + b = (a ^^^ b) + 2 * (a &&& b)
  | 0, a, b, h => by
    obtain rfl : a = 0 := by simpa using h
    simp
  | n + 1, a, b, h => by
    have ih := nat_sum_bits n (a / 2) (b / 2) (by rw [Nat.pow_succ] at h; omega)
    rw [← Nat.xor_div_two, ← Nat.and_div_two] at ih
    have e1 := @Nat.xor_mod_two_eq_one a b
    have e2 := @Nat.and_mod_two_eq_one a b
    omega
theorem nat_or_bits : ∀ (n a b : Nat), a < 2 ^ n → a + b = (a ||| b) + (a &&& b)
  | 0, a, b, h => by
    obtain rfl : a = 0 := by simpa using h
    simp
  | n + 1, a, b, h => by
    have ih := nat_or_bits n (a / 2) (b / 2) (by rw [Nat.pow_succ] at h; omega)
    rw [← Nat.or_div_two, ← Nat.and_div_two] at ih
    have e1 := @Nat.or_mod_two_eq_one a b
    have e2 := @Nat.and_mod_two_eq_one a b
    omega
theorem us_sum_bits (x y : BitVec 32) : us x + us y = us (x ^^^ y) + 2 * us (x &&& y) := by
  have h := nat_sum_bits 32 x.toNat y.toNat x.isLt
  unfold us
  rw [BitVec.toNat_xor, BitVec.toNat_and]; omega
theorem us_or_bits (x y : BitVec 32) : us x + us y = us (x ||| y) + us (x &&& y) := by
  have h := nat_or_bits 32 x.toNat y.toNat x.isLt
  unfold us
  rw [BitVec.toNat_or, BitVec.toNat_and]; omega
theorem bv_parts (x y : BitVec 32) : (x &&& ~~~y) ^^^ (x &&& y) = x := by
  ext i; simp; cases x[i] <;> simp
theorem bv_none (x y : BitVec 32) : (x &&& ~~~y) &&& (x &&& y) = 0#32 := by
  ext i; simp; cases x[i] <;> simp
theorem bv_either (x y : BitVec 32) : (x &&& ~~~y) ||| (x &&& y) = x := by
  ext i; simp; cases x[i] <;> simp
theorem us_bic (x y : BitVec 32) : us (x &&& ~~~y) + us (x &&& y) = us x := by
  rw [us_sum_bits, bv_parts, bv_none]
  have : us 0#32 = 0 := by decide
  omega
theorem sg_mod (b : BitVec 32) : wrap32 (sg b) = sg b := IntWalk.wrap32_in _ (sg_bd b)
theorem wrap_wrap {x y : Int} (h : x % 4294967296 = y % 4294967296) : wrap32 x = wrap32 y := by unfold wrap32; omega

theorem sum_xor (a b : Int) : wrap32 (wXor a b + wrap32 (2 * wAnd a b)) = wrap32 (a + b) := by
  have h := us_sum_bits (wd a) (wd b)
  rw [us_wd, us_wd] at h
  have e1 := us_sg (wd a ^^^ wd b)
  have e2 := us_sg (wd a &&& wd b)
  unfold wXor wAnd
  apply wrap_wrap
  generalize sg (wd a ^^^ wd b) = X at *
  generalize sg (wd a &&& wd b) = A at *
  unfold wrap32
  omega
theorem sum_or (a b : Int) : wrap32 (wOr a b + wAnd a b) = wrap32 (a + b) := by
  have h := us_or_bits (wd a) (wd b)
  rw [us_wd, us_wd] at h
  have e1 := us_sg (wd a ||| wd b)
  have e2 := us_sg (wd a &&& wd b)
  unfold wOr wAnd
  apply wrap_wrap
  generalize sg (wd a ||| wd b) = X at *
  generalize sg (wd a &&& wd b) = A at *
  omega
theorem and_comm' (a b : Int) : wd b &&& wd a = wd a &&& wd b := BitVec.and_comm _ _
theorem sub_bic (a b : Int) : wrap32 (wBic a b - wBic b a) = wrap32 (a - b) := by
  have h1 := us_bic (wd a) (wd b)
  have h2 := us_bic (wd b) (wd a)
  rw [and_comm'] at h2
  rw [us_wd] at h1 h2
  have e1 := us_sg (wd a &&& ~~~wd b)
  have e2 := us_sg (wd b &&& ~~~wd a)
  unfold wBic
  apply wrap_wrap
  generalize sg (wd a &&& ~~~wd b) = X at *
  generalize sg (wd b &&& ~~~wd a) = Y at *
  omega
theorem xor_back {a b : Int} (h1 : -2147483648 ≤ a) (h2 : a ≤ 2147483647) : wXor (wXor a b) b = a := by
  unfold wXor
  rw [wd_sg, BitVec.xor_assoc, BitVec.xor_self, BitVec.xor_zero, sg_wd_in h1 h2]
theorem or_back {a b : Int} (h1 : -2147483648 ≤ a) (h2 : a ≤ 2147483647) : wOr (wBic a b) (wAnd a b) = a := by
  unfold wOr wBic wAnd
  rw [wd_sg, wd_sg, bv_either, sg_wd_in h1 h2]
theorem add_back {a b : Int} (h1 : -2147483648 ≤ a) (h2 : a ≤ 2147483647) : wrap32 (wrap32 (a - b) + b) = a := by
  unfold wrap32; omega
theorem wAnd_bd (a b : Int) : -2147483648 ≤ wAnd a b ∧ wAnd a b ≤ 2147483647 := sg_bd _
theorem wOr_bd (a b : Int) : -2147483648 ≤ wOr a b ∧ wOr a b ≤ 2147483647 := sg_bd _
theorem wXor_bd (a b : Int) : -2147483648 ≤ wXor a b ∧ wXor a b ≤ 2147483647 := sg_bd _
theorem wBic_bd (a b : Int) : -2147483648 ≤ wBic a b ∧ wBic a b ≤ 2147483647 := sg_bd _
theorem wrap_bd (x : Int) : -2147483648 ≤ wrap32 x ∧ wrap32 x ≤ 2147483647 := by unfold wrap32; omega

/-- The quotient times the divisor, and the rest. -/
theorem quo_back {a b : Int} (h1 : -2147483648 ≤ a) (h2 : a ≤ 2147483647) : wrap32 (wrap32 (wQuo a b * b) + wRest a b) = a := by
  have h := Int.mul_tdiv_add_tmod a b
  have e : wQuo a b * b % 4294967296 = a.tdiv b * b % 4294967296 := by
    have h3 : wQuo a b % 4294967296 = a.tdiv b % 4294967296 := by unfold wQuo wrap32; omega
    rw [Int.mul_emod, h3, ← Int.mul_emod]
  rw [Int.mul_comm b] at h
  unfold wRest
  generalize wQuo a b * b = X at *
  generalize a.tdiv b * b = Y at *
  generalize a.tmod b = Z at *
  unfold wrap32; omega
theorem rest_lt (a : Int) {b : Int} (h : b ≠ 0) : (wRest a b).natAbs < b.natAbs := by
  unfold wRest
  rw [Int.natAbs_tmod]
  exact Nat.mod_lt _ (by omega)
theorem rest_pos {a b : Int} (h : 0 ≤ a) : 0 ≤ wRest a b := Int.tmod_nonneg _ h
theorem rest_neg {a b : Int} (h : a ≤ 0) : wRest a b ≤ 0 := by
  have h2 := Int.tmod_nonneg b (show 0 ≤ -a by omega)
  rw [Int.neg_tmod] at h2
  unfold wRest; omega
theorem wQuo_bd (a b : Int) : -2147483648 ≤ wQuo a b ∧ wQuo a b ≤ 2147483647 := wrap_bd _

/-- A word is its halves. -/
theorem halves {a : Int} (h1 : -2147483648 ≤ a) (h2 : a ≤ 2147483647) : wrap32 (wrap32 (a / 65536 * 65536) + bits .and .i32 (wrap16 a) 65535) = a := by
  rw [and_i32_16]
  unfold wrap16 wrap32; omega
theorem high_is16 {a : Int} (h1 : -2147483648 ≤ a) (h2 : a ≤ 2147483647) : wSar a 16 = a / 65536 := by
  rw [wSar_eq h1 h2]; rfl
theorem sign_31 {a : Int} (h1 : -2147483648 ≤ a) (h2 : a ≤ 2147483647) : wSign a = a / 2147483648 := (sign_shr h1 h2).symm
end Go.Proofs.YtgmphfagflhglaaGreatDoor
