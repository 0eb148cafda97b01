/- What shifting, turning and counting the bits of a word mean, as plain functions of integers. Nothing of any program. -/
import Derived.Test.YtbcfmlcfkihenaaBvM
namespace Go.Proofs.Ytbcfmlcfkihenaa
open Go.RowKit

/-- A shift's number: the lowest five bits. -/
def sn (n : Int) : Nat := (n % 32).toNat
def wShl (x n : Int) : Int := sg (wd x <<< sn n)
def wShr (x n : Int) : Int := sg (wd x >>> sn n)
def wSar (x n : Int) : Int := sg ((wd x).sshiftRight (sn n))
def wRol (x n : Int) : Int := sg ((wd x).rotateLeft (sn n))
def wClz (x : Int) : Int := ((wd x).clz.toNat : Int)
def wOnes (x : Int) : Int := ((wd x).cpop.toNat : Int)
def wTurn (x : Int) : Int := sg (wd x).reverse

theorem sn_lt (n : Int) : sn n < 32 := by unfold sn; omega
theorem sn_cast (n : Int) : ((sn n : Nat) : Int) = n % 32 := by unfold sn; omega
theorem sn_eq {n m : Int} (h : n % 32 = m % 32) : sn n = sn m := by unfold sn; rw [h]
theorem wShl_bd (x n : Int) : -2147483648 ≤ wShl x n ∧ wShl x n ≤ 2147483647 := sg_bd _
theorem wShr_bd (x n : Int) : -2147483648 ≤ wShr x n ∧ wShr x n ≤ 2147483647 := sg_bd _
theorem wSar_bd (x n : Int) : -2147483648 ≤ wSar x n ∧ wSar x n ≤ 2147483647 := sg_bd _
theorem wRol_bd (x n : Int) : -2147483648 ≤ wRol x n ∧ wRol x n ≤ 2147483647 := sg_bd _
theorem wTurn_bd (x : Int) : -2147483648 ≤ wTurn x ∧ wTurn x ≤ 2147483647 := sg_bd _
theorem wClz_bd (x : Int) : 0 ≤ wClz x ∧ wClz x ≤ 32 := by
  have h : (wd x).clz.toNat ≤ (32#32).toNat := BitVec.clz_le (x := wd x)
  have e : (32#32).toNat = 32 := rfl
  unfold wClz; omega
theorem wOnes_bd (x : Int) : 0 ≤ wOnes x ∧ wOnes x ≤ 32 := by
  have := BitVec.toNat_cpop_le (wd x); unfold wOnes; omega
theorem wSar_eq {x n : Int} (h1 : -2147483648 ≤ x) (h2 : x ≤ 2147483647) : wSar x n = x / 2 ^ sn n := by
  unfold wSar; rw [← sg_sar, sg_wd_in h1 h2]

/-- Bit i of a row of bits, as a number. -/
def bi (b : BitVec 32) (i : Nat) : Int := us b / 2 ^ i % 2
theorem bi_bd (b : BitVec 32) (i : Nat) : 0 ≤ bi b i ∧ bi b i ≤ 1 := by unfold bi; omega
theorem bi_bit (b : BitVec 32) (i : Nat) : bi b i = ((b.getLsbD i).toNat : Int) := by
  unfold bi us
  have e : b.getLsbD i = decide (b.toNat / 2 ^ i % 2 = 1) := by rw [← BitVec.testBit_toNat, Nat.testBit_eq_decide_div_mod_eq]
  rw [e]
  have h : ((b.toNat : Int) / 2 ^ i % 2) = ((b.toNat / 2 ^ i % 2 : Nat) : Int) := by simp
  rw [h]
  by_cases h1 : b.toNat / 2 ^ i % 2 = 1
  · rw [h1]; rfl
  · have : b.toNat / 2 ^ i % 2 = 0 := by omega
    rw [this]; rfl
theorem bi_wd (x : Int) (i : Nat) : bi (wd x) i = x % 4294967296 / 2 ^ i % 2 := by unfold bi; rw [us_wd]

theorem us_pow (b : BitVec 32) (j : Nat) : 0 ≤ us b / 2 ^ j ∧ us b / 2 ^ j ≤ 4294967295 := by
  have h := us_bd b
  exact ⟨Int.ediv_nonneg h.1 (Int.pow_nonneg (by decide)), Int.le_trans (Int.ediv_le_self _ h.1) h.2⟩
theorem pow_half (u : Int) (k : Nat) : u / 2 ^ k / 2 = u / 2 ^ (k + 1) := by
  rw [Int.pow_succ, Int.ediv_ediv_of_nonneg (Int.pow_nonneg (by decide))]
theorem us_up (b : BitVec 32) (j : Nat) : 2 * (us b / 2 ^ (j + 1)) + bi b j = us b / 2 ^ j := by
  unfold bi
  have h := pow_half (us b) j
  omega
theorem us_top (b : BitVec 32) : us b / 2 ^ 32 = 0 := by have := us_bd b; omega

theorem bi_shl (b : BitVec 32) (k i : Nat) (hi : i < 32) : bi (b <<< k) i = if k ≤ i then bi b (i - k) else 0 := by
  rw [bi_bit, BitVec.getLsbD_shiftLeft]
  by_cases h : k ≤ i
  · rw [if_pos h, bi_bit]; simp [hi, Nat.not_lt.2 h]
  · rw [if_neg h]; simp [Nat.lt_of_not_le h]
theorem bi_shr (b : BitVec 32) (k i : Nat) : bi (b >>> k) i = if i + k < 32 then bi b (i + k) else 0 := by
  rw [bi_bit, BitVec.getLsbD_ushiftRight]
  by_cases h : i + k < 32
  · rw [if_pos h, bi_bit, Nat.add_comm]
  · rw [if_neg h, BitVec.getLsbD_of_ge _ _ (by omega)]; rfl
theorem bi_rol (b : BitVec 32) (k i : Nat) (hk : k < 32) (hi : i < 32) : bi (b.rotateLeft k) i = bi b ((i + (32 - k)) % 32) := by
  rw [bi_bit, bi_bit, BitVec.getLsbD_rotateLeft_of_le hk]
  by_cases h : i < k
  · rw [Nat.mod_eq_of_lt (by omega), Nat.add_comm i]; simp [h]
  · have e : (i + (32 - k)) % 32 = i - k := by omega
    rw [e]; simp [h, hi]
theorem bi_rev (b : BitVec 32) (i : Nat) (hi : i < 32) : bi b.reverse i = bi b (31 - i) := by
  rw [bi_bit, bi_bit, BitVec.getLsbD_reverse, BitVec.getMsbD]; simp [hi]
end Go.Proofs.Ytbcfmlcfkihenaa
