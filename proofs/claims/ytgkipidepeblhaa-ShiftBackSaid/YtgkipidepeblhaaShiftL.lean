/- Plain words: what the laws of layer 2 ask of shifted words. Nothing of any program. -/
import Derived.Test.YtgkipidepeblhaaShiftM
import Derived.Test.YtgkipidepeblhaaWordM
namespace Go.Proofs.Ytgkipidepeblhaa
open Go.RowKit

theorem and_31 (n : Int) : bits .and .i32 n 31 = (sn n : Int) := by
  have h := bits_and_mask .i32 5 (by decide) n
  have e1 : ((2 : Int) ^ 5 - 1) = 31 := by decide
  have e2 : ((2 : Int) ^ 5) = 32 := by decide
  rw [e1, e2] at h
  rw [h, sn_cast]
  exact IntWalk.i32_in _ (by omega)
theorem sn_small {j : Nat} (h : j < 32) : sn (j : Int) = j := by unfold sn; omega
theorem sn_sn (n : Int) : sn (sn n : Int) = sn n := sn_small (sn_lt n)
theorem sn_sub (n : Int) : sn (32 - (sn n : Int)) = (32 - sn n) % 32 := by have := sn_lt n; unfold sn at *; omega
theorem sn_sum (n m : Int) : sn ((sn n : Int) + sn m) = (sn n + sn m) % 32 := by have := sn_lt n; have := sn_lt m; unfold sn at *; omega

theorem bi_ext {a b : BitVec 32} (h : ∀ i, i < 32 → bi a i = bi b i) : a = b := by
  apply BitVec.eq_of_getLsbD_eq
  intro i hi
  have e := h i hi
  rw [bi_bit, bi_bit] at e
  cases ha : a.getLsbD i <;> cases hb : b.getLsbD i <;> simp_all

/-! ### there and back -/
theorem wd_low (k : Nat) : wd (wrap32 (4294967295 / 2 ^ k)) = BitVec.allOnes 32 >>> k := by
  rw [wd_wrap, ← us_ones, us_shr, wd_us]
theorem back_up (x n : Int) : wShr (wShl x n) n = bits .and .i32 x (wrap32 (4294967295 / 2 ^ sn n)) := by
  unfold wShr wShl
  rw [bits_i32_and, wd_sg, wd_low]
  congr 1
  apply BitVec.eq_of_getLsbD_eq
  intro i hi
  have hs := sn_lt n
  simp only [BitVec.getLsbD_and, BitVec.getLsbD_ushiftRight, BitVec.getLsbD_shiftLeft, BitVec.getLsbD_allOnes]
  by_cases h : sn n + i < 32
  · simp [h, show ¬ sn n + i < sn n by omega]
  · simp [h]
theorem wd_mask (k : Nat) (hk : k < 32) (i : Nat) : (wd (2 ^ k - 1)).getLsbD i = decide (i < k) := by
  have p : 2 ^ k ≤ 2 ^ 31 := Nat.pow_le_pow_right (by decide) (by omega)
  have p0 := Nat.two_pow_pos k
  have e : (wd (2 ^ k - 1)).toNat = 2 ^ k - 1 := by
    have h := us_wd (2 ^ k - 1)
    have h2 : ((2 : Int) ^ k - 1) = ((2 ^ k - 1 : Nat) : Int) := by rw [Int.natCast_sub p0]; simp
    rw [h2] at h ⊢
    unfold us at h
    omega
  rw [← BitVec.testBit_toNat, e, Nat.testBit_two_pow_sub_one]
theorem back_down (x n : Int) : wShl (wShr x n) n = bits .andNot .i32 x (wrap32 ((2 ^ sn n - 1) % 4294967296)) := by
  unfold wShr wShl
  rw [bits_i32_andNot, wd_sg, wd_wrap, wd_mod]
  congr 1
  apply BitVec.eq_of_getLsbD_eq
  intro i hi
  have hs := sn_lt n
  rw [BitVec.getLsbD_and, BitVec.getLsbD_not, wd_mask _ hs, BitVec.getLsbD_shiftLeft, BitVec.getLsbD_ushiftRight]
  by_cases h : i < sn n
  · simp [h, hi]
  · simp [h, hi, show sn n + (i - sn n) = i by omega]
theorem rol_rol (x n m : Int) : wRol (wRol x n) m = wRol x ((sn n : Int) + sn m) := by
  have h1 := sn_lt n
  have h2 := sn_lt m
  unfold wRol
  rw [wd_sg, sn_sum]
  congr 1
  apply bi_ext
  intro i hi
  rw [bi_rol _ _ _ h2 hi, bi_rol _ _ _ h1 (by omega), bi_rol _ _ _ (by omega) hi]
  congr 1
  omega
theorem rol_back (x n : Int) (h1 : -2147483648 ≤ x) (h2 : x ≤ 2147483647) : wRol (wRol x n) (32 - (sn n : Int)) = x := by
  have h3 := sn_lt n
  conv => rhs; rw [← sg_wd_in h1 h2]
  unfold wRol
  rw [wd_sg, sn_sub]
  congr 1
  apply bi_ext
  intro i hi
  rw [bi_rol _ _ _ (by omega) hi, bi_rol _ _ _ h3 (by omega)]
  congr 1
  omega
theorem rol_parts (x n : Int) : bits .or .i32 (wShl x n) (bits .andNot .i32 (wRol (wShr x (32 - (sn n : Int))) 0) (wShl (-1) n)) = wRol x n := by
  have h := sn_lt n
  have e0 : sn 0 = 0 := by decide
  have em : wd (-1) = BitVec.allOnes 32 := by decide
  unfold wRol wShr wShl
  rw [bits_i32_andNot, bits_i32_or, sn_sub, wd_sg, wd_sg, wd_sg, wd_sg, wd_sg, e0, em]
  congr 1
  apply BitVec.eq_of_getLsbD_eq
  intro i hi
  rw [BitVec.getLsbD_or, BitVec.getLsbD_and, BitVec.getLsbD_not, BitVec.getLsbD_shiftLeft, BitVec.getLsbD_shiftLeft, BitVec.getLsbD_allOnes, BitVec.getLsbD_rotateLeft_of_le h, BitVec.getLsbD_rotateLeft_of_le (by omega : 0 < 32), BitVec.getLsbD_ushiftRight]
  by_cases hz : sn n = 0
  · simp [hz, hi]
  · have e : (32 - sn n) % 32 = 32 - sn n := by omega
    rw [e]
    by_cases hk : i < sn n
    · simp [hk, hi]
    · simp [hk, hi, show i - sn n < 32 by omega]

/-! ### one by one -/
theorem sar_next (x : Int) {j : Nat} (h : j + 1 < 32) (h1 : -2147483648 ≤ x) (h2 : x ≤ 2147483647) : wSar (wSar x j) 1 = wSar x (j + 1 : Nat) := by
  have b := wSar_bd x j
  rw [wSar_eq b.1 b.2, wSar_eq h1 h2, wSar_eq h1 h2, sn_small (by omega), sn_small h, show sn 1 = 1 by decide, show (2 : Int) ^ 1 = 2 by decide, pow_half]
theorem shr_next (x : Int) {j : Nat} (h : j + 1 < 32) : wShr (wShr x j) 1 = wShr x (j + 1 : Nat) := by
  unfold wShr
  rw [wd_sg, sn_small (by omega), sn_small h, show sn 1 = 1 by decide, BitVec.shiftRight_add]
theorem shl_next (x : Int) {j : Nat} (h : j + 1 < 32) : wrap32 (wShl x j + wShl x j) = wShl x (j + 1 : Nat) := by
  unfold wShl
  rw [sn_small (by omega), sn_small h, ← sg_wd, BitVec.shiftLeft_add]
  congr 1
  have e : sg (wd x <<< j) + sg (wd x <<< j) = sg (wd x <<< j) * 2 ^ 1 := by omega
  rw [e, wd_mul_pow, wd_sg]
theorem sar_none (x : Int) (h1 : -2147483648 ≤ x) (h2 : x ≤ 2147483647) : wSar x (0 : Nat) = x := by
  rw [wSar_eq h1 h2, sn_small (by decide)]; simp
theorem shr_none (x : Int) (h1 : -2147483648 ≤ x) (h2 : x ≤ 2147483647) : wShr x (0 : Nat) = x := by
  unfold wShr; rw [sn_small (by decide), BitVec.ushiftRight_zero, sg_wd_in h1 h2]
theorem shl_none (x : Int) (h1 : -2147483648 ≤ x) (h2 : x ≤ 2147483647) : wShl x (0 : Nat) = x := by
  unfold wShl; rw [sn_small (by decide), BitVec.shiftLeft_zero, sg_wd_in h1 h2]
theorem sar_sn (x n : Int) : wSar x (sn n : Int) = wSar x n := by unfold wSar; rw [sn_sn]
theorem shr_sn (x n : Int) : wShr x (sn n : Int) = wShr x n := by unfold wShr; rw [sn_sn]
theorem shl_sn (x n : Int) : wShl x (sn n : Int) = wShl x n := by unfold wShl; rw [sn_sn]

/-! ### how many ones -/
theorem ones_not (x : Int) : wOnes x + wOnes (bits .xor .i32 (-1) x) = 32 := by
  unfold wOnes
  have em : wd (-1) = BitVec.allOnes 32 := by decide
  have e : BitVec.allOnes 32 ^^^ wd x = ~~~wd x := by
    apply BitVec.eq_of_getLsbD_eq
    intro i hi
    rw [BitVec.getLsbD_xor, BitVec.getLsbD_not, BitVec.getLsbD_allOnes]
    simp [hi]
  have l := BitVec.toNat_cpop_le (wd x)
  rw [bits_i32_xor, wd_sg, em, e, BitVec.toNat_cpop_not]
  omega
theorem ones_turn (x : Int) : wOnes (wTurn x) = wOnes x := by
  unfold wOnes wTurn
  rw [wd_sg, BitVec.cpop_reverse]
theorem turn_turn (x : Int) (h1 : -2147483648 ≤ x) (h2 : x ≤ 2147483647) : wTurn (wTurn x) = x := by
  conv => rhs; rw [← sg_wd_in h1 h2]
  unfold wTurn
  rw [wd_sg, BitVec.reverse_reverse_eq]
theorem pop_both (a b : BitVec 32) (n : Nat) : a.cpopNatRec n 0 + b.cpopNatRec n 0 = (a ^^^ b).cpopNatRec n 0 + 2 * (a &&& b).cpopNatRec n 0 := by
  induction n with
  | zero => simp
  | succ n ih =>
    rw [BitVec.cpopNatRec_succ, BitVec.cpopNatRec_succ, BitVec.cpopNatRec_succ, BitVec.cpopNatRec_succ, BitVec.cpopNatRec_eq (acc := 0 + (a.getLsbD n).toNat), BitVec.cpopNatRec_eq (acc := 0 + (b.getLsbD n).toNat),
      BitVec.cpopNatRec_eq (acc := 0 + ((a ^^^ b).getLsbD n).toNat), BitVec.cpopNatRec_eq (acc := 0 + ((a &&& b).getLsbD n).toNat), BitVec.getLsbD_xor, BitVec.getLsbD_and]
    cases a.getLsbD n <;> cases b.getLsbD n <;> simp <;> omega
theorem ones_both (x y : Int) : wOnes x + wOnes y = wOnes (bits .xor .i32 x y) + 2 * wOnes (bits .and .i32 x y) := by
  unfold wOnes
  rw [bits_i32_xor, bits_i32_and, wd_sg, wd_sg, BitVec.toNat_cpop, BitVec.toNat_cpop, BitVec.toNat_cpop, BitVec.toNat_cpop]
  have := pop_both (wd x) (wd y) 32
  omega

/-! ### the highest 1 -/
theorem wd_zero : wd 0 = 0#32 := by decide
theorem wd_ne {x : Int} (h0 : x ≠ 0) (h1 : -2147483648 ≤ x) (h2 : x ≤ 2147483647) : wd x ≠ 0#32 := by
  intro h
  apply h0
  rw [← sg_wd_in h1 h2, h]; decide
theorem clz_lt {x : Int} (h0 : x ≠ 0) (h1 : -2147483648 ≤ x) (h2 : x ≤ 2147483647) : wClz x < 32 := by
  have h : (wd x).clz.toNat < (32#32).toNat := (BitVec.clz_lt_iff_ne_zero (x := wd x)).2 (wd_ne h0 h1 h2)
  have e : (32#32).toNat = 32 := rfl
  unfold wClz; omega
theorem sn_clz {x : Int} (h0 : x ≠ 0) (h1 : -2147483648 ≤ x) (h2 : x ≤ 2147483647) : sn (wClz x) = (wd x).clz.toNat := by
  have h := clz_lt h0 h1 h2
  unfold wClz at *
  exact sn_small (by omega)
theorem lead_neg {x : Int} (h0 : x ≠ 0) (h1 : -2147483648 ≤ x) (h2 : x ≤ 2147483647) : wShl x (wClz x) < 0 := by
  have hl := clz_lt h0 h1 h2
  unfold wClz at hl
  unfold wShl sg
  rw [sn_clz h0 h1 h2]
  have hm : (wd x <<< (wd x).clz.toNat).msb = true := by
    rw [BitVec.msb_shiftLeft, BitVec.getMsbD]
    have hb := BitVec.getLsbD_true_clz_of_ne_zero (x := wd x) (by decide) (wd_ne h0 h1 h2)
    simp [hb]
    omega
  have h := BitVec.msb_eq_toInt (x := wd x <<< (wd x).clz.toNat)
  rw [hm] at h
  simpa using h.symm
theorem lead_one {x : Int} (h0 : x ≠ 0) (h1 : -2147483648 ≤ x) (h2 : x ≤ 2147483647) : wShr x (31 - wClz x) = 1 := by
  have hl := clz_lt h0 h1 h2
  have hw := wClz_bd x
  have e : sn (31 - wClz x) = 31 - (wd x).clz.toNat := by unfold wClz at *; unfold sn; omega
  have c1 := BitVec.two_pow_sub_clz_le_toNat_of_ne_zero (x := wd x) (by decide) (wd_ne h0 h1 h2)
  have c2 := BitVec.toNat_lt_two_pow_sub_clz (x := wd x)
  unfold wClz at hl
  have e1 : 32 - (wd x).clz.toNat = 31 - (wd x).clz.toNat + 1 := by omega
  have e2 : 32 - 1 - (wd x).clz.toNat = 31 - (wd x).clz.toNat := by omega
  rw [e1, Nat.pow_succ] at c2
  rw [e2] at c1
  have d : (wd x).toNat / 2 ^ (31 - (wd x).clz.toNat) = 1 := by
    rw [Nat.div_eq_iff (Nat.two_pow_pos _)]; omega
  have hu : us (wd x >>> (31 - (wd x).clz.toNat)) = 1 := by
    unfold us; rw [BitVec.toNat_ushiftRight, Nat.shiftRight_eq_div_pow, d]; rfl
  unfold wShr
  rw [e, sg_us, hu]
  exact IntWalk.wrap32_in _ (by omega)
theorem clz_sign {x : Int} (h1 : -2147483648 ≤ x) (h2 : x ≤ 2147483647) : wClz x = 0 ↔ x < 0 := by
  have h := BitVec.clz_eq_zero_iff (x := wd x) (by decide)
  have hu := us_wd x
  unfold us at hu
  have p : 2 ^ (32 - 1) = 2147483648 := by decide
  rw [p] at h
  unfold wClz
  omega
end Go.Proofs.Ytgkipidepeblhaa
