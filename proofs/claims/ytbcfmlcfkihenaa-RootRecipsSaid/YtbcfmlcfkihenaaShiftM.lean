/- Plain words: the facts on bits that package shift's functions lean on. Nothing of any program. -/
import Derived.Test.YtbcfmlcfkihenaaShiftD
import Derived.Lib.BitFns
namespace Go.Proofs.Ytbcfmlcfkihenaa
open Go.RowKit

theorem wd_neg (x : Int) : wd (-x) = -(wd x) := by unfold wd; exact BitVec.ofInt_neg

theorem sign_one (b : BitVec 32) (h : b.msb = true) : b >>> 31 &&& 1#32 = 1#32 := by
  apply BitVec.eq_of_getLsbD_eq
  intro i hi
  rw [BitVec.msb_eq_getLsbD_last] at h
  simp only [BitVec.getLsbD_and, BitVec.getLsbD_ushiftRight, BitVec.getLsbD_one]
  by_cases hi0 : i = 0
  · subst hi0; simpa using h
  · simp [hi0]
theorem sign_none (b : BitVec 32) (h : b.msb = false) : b >>> 31 &&& 1#32 = 0#32 := by
  apply BitVec.eq_of_getLsbD_eq
  intro i hi
  rw [BitVec.msb_eq_getLsbD_last] at h
  simp only [BitVec.getLsbD_and, BitVec.getLsbD_ushiftRight, BitVec.getLsbD_one]
  by_cases hi0 : i = 0
  · subst hi0; simpa using h
  · simp [hi0]

theorem sar_bits (b : BitVec 32) (k : Nat) :
    b >>> k ||| (-(b >>> 31 &&& 1#32) &&& ~~~(BitVec.allOnes 32 >>> k)) = b.sshiftRight k := by
  cases h : b.msb
  · rw [sign_none b h, BitVec.sshiftRight_eq_of_msb_false h]; simp
  · rw [sign_one b h]
    apply BitVec.eq_of_getLsbD_eq
    intro i hi
    have e : -(1#32) = BitVec.allOnes 32 := by decide
    rw [e]
    simp only [BitVec.getLsbD_or, BitVec.getLsbD_and, BitVec.getLsbD_not, BitVec.getLsbD_ushiftRight, BitVec.getLsbD_allOnes, BitVec.getLsbD_sshiftRight, h]
    by_cases hb : k + i < 32
    · simp [hb, hi]
    · have : b.getLsbD (k + i) = false := BitVec.getLsbD_of_ge _ _ (by omega)
      simp [hb, hi, this]

theorem us_ones : us (BitVec.allOnes 32) = 4294967295 := by decide
theorem us_one : us 1#32 = 1 := by decide
theorem wd_one : wd 1 = 1#32 := by decide

theorem sar_word (x : Int) (k : Nat) :
    bits .or .i32 (sg (wd x >>> k)) (wrap32 (bits .andNot .u32 (-bits .and .u32 (x % 4294967296 / 2147483648) 1 % 4294967296) (4294967295 / 2 ^ k))) = sg ((wd x).sshiftRight k) := by
  have e1 : x % (4294967296 : Int) / (2147483648 : Int) = us (wd x >>> (31 : Nat)) := by rw [← us_shr, us_wd]; rfl
  have e2 : (4294967295 : Int) / 2 ^ k = us (BitVec.allOnes 32 >>> k) := by rw [← us_shr, us_ones]
  rw [e1, e2, bits_u32_and, bits_u32_andNot, bits_i32_or, ← sg_us, wd_sg, wd_sg, wd_us, wd_us, wd_one, wd_mod, wd_neg, wd_us, sar_bits]

/-- Turned round: what goes out at the top comes in at the bottom. -/
theorem rol_bits (b : BitVec 32) (k : Nat) (hk : k < 32) : b <<< k ||| b >>> (32 - k) = b.rotateLeft k := by
  rw [BitVec.rotateLeft_def, Nat.mod_eq_of_lt hk]

theorem and_255 (b : BitVec 32) : us (b &&& 255#32) = us b % 256 := by
  unfold us
  rw [BitVec.toNat_and]
  have e : (255#32).toNat = 2 ^ 8 - 1 := by decide
  rw [e, Nat.and_two_pow_sub_one_eq_mod]
  rfl
theorem and_u32_8 (y : Int) : bits .and .u32 y 255 = y % 256 := by
  have e : wd 255 = 255#32 := by decide
  rw [bits_u32_and, e, and_255, us_wd]
  omega

/-- How many noughts stand above the highest 1. -/
theorem bitLen_hi : ∀ (f x : Nat), x < 2 ^ f → f ≤ 64 → x < 2 ^ Lib.bitLen x ∧ (x ≠ 0 → 2 ^ Lib.bitLen x ≤ 2 * x) := by
  intro f
  induction f with
  | zero =>
    intro x hx _
    have : x = 0 := by omega
    subst this
    exact ⟨by decide, fun h => absurd rfl h⟩
  | succ f ih =>
    intro x hx hf
    by_cases h0 : x = 0
    · subst h0; exact ⟨by decide, fun h => absurd rfl h⟩
    · have h2 : x < 2 ^ 64 := Nat.lt_of_lt_of_le hx (Nat.pow_le_pow_right (by decide) hf)
      have hh := Lib.bitLen_half x h0 h2
      obtain ⟨i1, i2⟩ := ih (x / 2) (by rw [Nat.pow_succ] at hx; omega) (by omega)
      have e : 2 ^ Lib.bitLen x = 2 * 2 ^ Lib.bitLen (x / 2) := by rw [hh, Nat.add_comm, Nat.pow_succ, Nat.mul_comm]
      refine ⟨by rw [e]; omega, fun _ => ?_⟩
      rw [e]
      by_cases h1 : x / 2 = 0
      · have : x = 1 := by omega
        subst this; decide
      · have := i2 h1; omega

theorem clz_len (b : BitVec 32) : (b.clz.toNat : Int) = 32 - (Lib.bitLen b.toNat : Int) := by
  have hlt := b.isLt
  obtain ⟨l1, l2⟩ := bitLen_hi 32 b.toNat hlt (by decide)
  have hc : b.clz.toNat ≤ (32#32).toNat := BitVec.clz_le (x := b)
  have e : (32#32).toNat = 32 := rfl
  by_cases h : b = 0#32
  · subst h; decide
  · have hx : b.toNat ≠ 0 := by
      intro h0; exact h (BitVec.eq_of_toNat_eq (by simpa using h0))
    have c1 := BitVec.two_pow_sub_clz_le_toNat_of_ne_zero (x := b) (by decide) h
    have c2 := BitVec.toNat_lt_two_pow_sub_clz (x := b)
    have c3 : b.clz.toNat < 32 := by
      have h3 := (BitVec.clz_lt_iff_ne_zero (x := b)).2 h
      have h4 : b.clz.toNat < (32#32).toNat := h3
      omega
    have l2' := l2 hx
    have a1 : Lib.bitLen b.toNat ≤ 32 - b.clz.toNat := by
      apply Nat.le_of_not_lt; intro hlt
      have := Nat.pow_le_pow_right (n := 2) (by decide) hlt
      rw [Nat.succ_eq_add_one, Nat.pow_succ] at this
      omega
    have a2 : 31 - b.clz.toNat < Lib.bitLen b.toNat := by
      apply Nat.lt_of_not_le; intro hle
      have := Nat.pow_le_pow_right (n := 2) (by decide) hle
      have e2 : 32 - 1 - b.clz.toNat = 31 - b.clz.toNat := by omega
      rw [e2] at c1
      omega
    omega
end Go.Proofs.Ytbcfmlcfkihenaa
