/- Plain words: a number of the kind int32 or uint32 as a row of 32 bits, and what 'and', 'or', 'xor' of the model are there. Nothing of any program. -/
import Derived.WalkKit
import Derived.PlainAid
namespace Go.Proofs.Ytbcfmlcfkihenaa
open Go.RowKit

/-- The row of a number's lowest 32 bits. -/
def wd (x : Int) : BitVec 32 := BitVec.ofInt 32 x
/-- The number of a row of 32 bits, with a sign. -/
def sg (b : BitVec 32) : Int := b.toInt
/-- The number of a row of 32 bits, from 0 on. -/
def us (b : BitVec 32) : Int := (b.toNat : Int)

theorem us_bd (b : BitVec 32) : 0 ≤ us b ∧ us b ≤ 4294967295 := by
  unfold us; have := b.isLt; omega
theorem sg_bd (b : BitVec 32) : -2147483648 ≤ sg b ∧ sg b ≤ 2147483647 := by
  have h1 := BitVec.toInt_lt (x := b)
  have h2 := BitVec.le_toInt (x := b)
  unfold sg; omega
theorem sg_us (b : BitVec 32) : sg b = wrap32 (us b) := by
  unfold sg us wrap32
  have := b.isLt
  rw [BitVec.toInt_eq_toNat_cond]
  split <;> omega
theorem us_sg (b : BitVec 32) : sg b % 4294967296 = us b := by
  rw [sg_us]; have := us_bd b; unfold wrap32; omega
theorem us_wd (x : Int) : us (wd x) = x % 4294967296 := by
  unfold us wd
  rw [BitVec.toNat_ofInt]
  have : ((2 ^ 32 : Nat) : Int) = 4294967296 := by decide
  rw [this]; omega
theorem sg_wd (x : Int) : sg (wd x) = wrap32 x := by
  rw [sg_us, us_wd]; unfold wrap32; omega
theorem sg_wd_in {x : Int} (h1 : -2147483648 ≤ x) (h2 : x ≤ 2147483647) : sg (wd x) = x := by
  rw [sg_wd]; unfold wrap32; omega
theorem us_inj {a b : BitVec 32} (h : us a = us b) : a = b := by
  unfold us at h; exact BitVec.eq_of_toNat_eq (by omega)
theorem sg_inj {a b : BitVec 32} (h : sg a = sg b) : a = b := BitVec.eq_of_toInt_eq h
theorem wd_sg (b : BitVec 32) : wd (sg b) = b := us_inj (by rw [us_wd, us_sg])
theorem wd_us (b : BitVec 32) : wd (us b) = b := us_inj (by rw [us_wd]; have := us_bd b; omega)
theorem wd_eq {x y : Int} (h : x % 4294967296 = y % 4294967296) : wd x = wd y := us_inj (by rw [us_wd, us_wd, h])
theorem wd_mod (x : Int) : wd (x % 4294967296) = wd x := wd_eq (by omega)
theorem wd_wrap (x : Int) : wd (wrap32 x) = wd x := wd_eq (by unfold wrap32; omega)

theorem bits_i32_and (x y : Int) : bits .and .i32 x y = sg (wd x &&& wd y) := by
  rw [sg_us]; show IntKind.i32.wrap (us (wd x &&& wd y)) = _; exact IntWalk.i32_left _
theorem bits_i32_or (x y : Int) : bits .or .i32 x y = sg (wd x ||| wd y) := by
  rw [sg_us]; show IntKind.i32.wrap (us (wd x ||| wd y)) = _; exact IntWalk.i32_left _
theorem bits_i32_xor (x y : Int) : bits .xor .i32 x y = sg (wd x ^^^ wd y) := by
  rw [sg_us]; show IntKind.i32.wrap (us (wd x ^^^ wd y)) = _; exact IntWalk.i32_left _
theorem bits_i32_andNot (x y : Int) : bits .andNot .i32 x y = sg (wd x &&& ~~~wd y) := by
  rw [sg_us]; show IntKind.i32.wrap (us (wd x &&& ~~~wd y)) = _; exact IntWalk.i32_left _
theorem wrap_u32 (n : Int) : IntKind.u32.wrap n = n % 4294967296 := by simp [IntKind.wrap, IntKind.bits, IntKind.signed]
theorem us_mod (b : BitVec 32) : us b % 4294967296 = us b := by have := us_bd b; omega
theorem bits_u32_and (x y : Int) : bits .and .u32 x y = us (wd x &&& wd y) := by
  show IntKind.u32.wrap (us (wd x &&& wd y)) = _; rw [wrap_u32, us_mod]
theorem bits_u32_or (x y : Int) : bits .or .u32 x y = us (wd x ||| wd y) := by
  show IntKind.u32.wrap (us (wd x ||| wd y)) = _; rw [wrap_u32, us_mod]
theorem bits_u32_xor (x y : Int) : bits .xor .u32 x y = us (wd x ^^^ wd y) := by
  show IntKind.u32.wrap (us (wd x ^^^ wd y)) = _; rw [wrap_u32, us_mod]
theorem bits_u32_andNot (x y : Int) : bits .andNot .u32 x y = us (wd x &&& ~~~wd y) := by
  show IntKind.u32.wrap (us (wd x &&& ~~~wd y)) = _; rw [wrap_u32, us_mod]

/-- Shifted up, down. -/
theorem wd_mul_pow (x : Int) (k : Nat) : wd (x * 2 ^ k) = wd x <<< k := by
  apply us_inj
  have h : us (wd x <<< k) = us (wd x) * 2 ^ k % 4294967296 := by
    unfold us
    rw [BitVec.toNat_shiftLeft, Nat.shiftLeft_eq]
    simp
  rw [h, us_wd, us_wd, Int.mul_emod (x % 4294967296), Int.emod_emod_of_dvd x (Int.dvd_refl 4294967296), ← Int.mul_emod]
theorem us_shr (b : BitVec 32) (k : Nat) : us b / 2 ^ k = us (b >>> k) := by
  unfold us
  rw [BitVec.toNat_ushiftRight, Nat.shiftRight_eq_div_pow]
  simp
theorem sg_sar (b : BitVec 32) (k : Nat) : sg b / 2 ^ k = sg (b.sshiftRight k) := by
  unfold sg
  rw [BitVec.toInt_sshiftRight, Int.shiftRight_eq_div_pow]
  simp
end Go.Proofs.Ytbcfmlcfkihenaa
