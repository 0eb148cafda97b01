/- Words, shifts, picks, cuts, products, operations: what the functions of layers 1 to 7 mean, and rows in memory. Nothing of any program. -/
import Derived.WalkKit
import Derived.PlainAid
import Derived.Lib.BitFns
import Derived.Lib.Bytealg
import Derived.Laws.Rows
import Derived.Laws.CopyOwn
import Derived.Deep.Draws
namespace Go.Proofs.YtekhgidbnpfmnaaGreatDoor
open Go.RowKit

/-- The row of a number's lowest 32 bits. -/
def wd (x : Int) : BitVec 32 := BitVec.ofInt 32 x
/-- The number of a row of 32 bits, with a sign. -/
def sg (b : BitVec 32) : Int := b.toInt
/-- The number of a row of 32 bits, from 0 on. -/
def us (b : BitVec 32) : Int := (b.toNat : Int)

theorem us_bd (b : BitVec 32) : 0 ≤ us b ∧ us b ≤ 4294967295 := by
  unfold us; have := b.isLt; omega
theorem sg_bd (b : BitVec 32) : -2147483648 ≤ sg b ∧ sg b ≤ 2147483647 := by
  have h1 := BitVec.toInt_lt (x := b)
  have h2 := BitVec.le_toInt (x := b)
  unfold sg; omega
theorem sg_us (b : BitVec 32) : sg b = wrap32 (us b) := by
  unfold sg us wrap32
  have := b.isLt
  rw [BitVec.toInt_eq_toNat_cond]
  split <;> omega
theorem us_sg (b : BitVec 32) : sg b % 4294967296 = us b := by
  rw [sg_us]; have := us_bd b; unfold wrap32; omega
theorem us_wd (x : Int) : us (wd x) = x % 4294967296 := by
  unfold us wd
  rw [BitVec.toNat_ofInt]
  have : ((2 ^ 32 : Nat) : Int) = 4294967296 := by decide
  rw [this]; omega
theorem sg_wd (x : Int) : sg (wd x) = wrap32 x := by
  rw [sg_us, us_wd]; unfold wrap32; omega
theorem sg_wd_in {x : Int} (h1 : -2147483648 ≤ x) (h2 : x ≤ 2147483647) : sg (wd x) = x := by
  rw [sg_wd]; unfold wrap32; omega
theorem us_inj {a b : BitVec 32} (h : us a = us b) : a = b := by
  unfold us at h; exact BitVec.eq_of_toNat_eq (by omega)
theorem sg_inj {a b : BitVec 32} (h : sg a = sg b) : a = b := BitVec.eq_of_toInt_eq h
theorem wd_sg (b : BitVec 32) : wd (sg b) = b := us_inj (by rw [us_wd, us_sg])
theorem wd_us (b : BitVec 32) : wd (us b) = b := us_inj (by rw [us_wd]; have := us_bd b; omega)
theorem wd_eq {x y : Int} (h : x % 4294967296 = y % 4294967296) : wd x = wd y := us_inj (by rw [us_wd, us_wd, h])
theorem wd_mod (x : Int) : wd (x % 4294967296) = wd x := wd_eq (by omega)
theorem wd_wrap (x : Int) : wd (wrap32 x) = wd x := wd_eq (by unfold wrap32; omega)

theorem bits_i32_and (x y : Int) : bits .and .i32 x y = sg (wd x &&& wd y) := by
  rw [sg_us]; show IntKind.i32.wrap (us (wd x &&& wd y)) = _; exact IntWalk.i32_left _
theorem bits_i32_or (x y : Int) : bits .or .i32 x y = sg (wd x ||| wd y) := by
  rw [sg_us]; show IntKind.i32.wrap (us (wd x ||| wd y)) = _; exact IntWalk.i32_left _
theorem bits_i32_xor (x y : Int) : bits .xor .i32 x y = sg (wd x ^^^ wd y) := by
  rw [sg_us]; show IntKind.i32.wrap (us (wd x ^^^ wd y)) = _; exact IntWalk.i32_left _
theorem bits_i32_andNot (x y : Int) : bits .andNot .i32 x y = sg (wd x &&& ~~~wd y) := by
  rw [sg_us]; show IntKind.i32.wrap (us (wd x &&& ~~~wd y)) = _; exact IntWalk.i32_left _
theorem wrap_u32 (n : Int) : IntKind.u32.wrap n = n % 4294967296 := by simp [IntKind.wrap, IntKind.bits, IntKind.signed]
theorem us_mod (b : BitVec 32) : us b % 4294967296 = us b := by have := us_bd b; omega
theorem bits_u32_and (x y : Int) : bits .and .u32 x y = us (wd x &&& wd y) := by
  show IntKind.u32.wrap (us (wd x &&& wd y)) = _; rw [wrap_u32, us_mod]
theorem bits_u32_or (x y : Int) : bits .or .u32 x y = us (wd x ||| wd y) := by
  show IntKind.u32.wrap (us (wd x ||| wd y)) = _; rw [wrap_u32, us_mod]
theorem bits_u32_xor (x y : Int) : bits .xor .u32 x y = us (wd x ^^^ wd y) := by
  show IntKind.u32.wrap (us (wd x ^^^ wd y)) = _; rw [wrap_u32, us_mod]
theorem bits_u32_andNot (x y : Int) : bits .andNot .u32 x y = us (wd x &&& ~~~wd y) := by
  show IntKind.u32.wrap (us (wd x &&& ~~~wd y)) = _; rw [wrap_u32, us_mod]

/-- Shifted up, down. -/
theorem wd_mul_pow (x : Int) (k : Nat) : wd (x * 2 ^ k) = wd x <<< k := by
  apply us_inj
  have h : us (wd x <<< k) = us (wd x) * 2 ^ k % 4294967296 := by
    unfold us
    rw [BitVec.toNat_shiftLeft, Nat.shiftLeft_eq]
    simp
  rw [h, us_wd, us_wd, Int.mul_emod (x % 4294967296), Int.emod_emod_of_dvd x (Int.dvd_refl 4294967296), ← Int.mul_emod]
theorem us_shr (b : BitVec 32) (k : Nat) : us b / 2 ^ k = us (b >>> k) := by
  unfold us
  rw [BitVec.toNat_ushiftRight, Nat.shiftRight_eq_div_pow]
  simp
theorem sg_sar (b : BitVec 32) (k : Nat) : sg b / 2 ^ k = sg (b.sshiftRight k) := by
  unfold sg
  rw [BitVec.toInt_sshiftRight, Int.shiftRight_eq_div_pow]
  simp

/-- The lowest 16 bits, with a sign. -/
def wrap16 (n : Int) : Int := (n + 32768) % 65536 - 32768

theorem wrap_i16 (n : Int) : IntKind.i16.wrap n = wrap16 n := by
  unfold wrap16
  simp [IntKind.wrap, IntKind.bits, IntKind.signed]
  split <;> omega

theorem toNat_or_add (i a b : Nat) (ha : a % 2 ^ i = 0) (hb : b < 2 ^ i) : a ||| b = a + b := by
  have hq : a = 2 ^ i * (a / 2 ^ i) := by have := Nat.div_add_mod a (2 ^ i); omega
  rw [hq, ← Nat.two_pow_add_eq_or_of_lt hb]

/-- Or-ing a number whose lowest i bits are 0 with one of i bits is their sum. -/
theorem bits_or_add (k : IntKind) (i : Nat) (hi : i ≤ k.bits) (x y : Int) (hx : x % 2 ^ i = 0) (hy0 : 0 ≤ y) (hy : y < 2 ^ i) :
    bits .or k x y = k.wrap (((x % 2 ^ k.bits).toNat + y.toNat : Nat) : Int) := by
  have hb : y.toNat < 2 ^ i := by
    have : ((y.toNat : Nat) : Int) < ((2 ^ i : Nat) : Int) := by rw [Int.toNat_of_nonneg hy0]; simpa using hy
    exact_mod_cast this
  have hp : 2 ^ i ≤ 2 ^ k.bits := Nat.pow_le_pow_right (by decide) hi
  have hyk : (y % 2 ^ k.bits).toNat = y.toNat := by
    have : y % 2 ^ k.bits = y := Int.emod_eq_of_lt hy0 (by
      have : (2 : Int) ^ i ≤ 2 ^ k.bits := by exact_mod_cast hp
      omega)
    rw [this]
  have ha : (x % 2 ^ k.bits).toNat % 2 ^ i = 0 := by
    have hd : ((2 : Int) ^ i) ∣ 2 ^ k.bits := by
      obtain ⟨d, hd⟩ := Nat.exists_eq_add_of_le hi
      exact ⟨2 ^ d, by rw [hd, Int.pow_add]⟩
    have h1 : x % 2 ^ k.bits % 2 ^ i = 0 := by rw [Int.emod_emod_of_dvd _ hd]; exact hx
    have h0 : 0 ≤ x % 2 ^ k.bits := Int.emod_nonneg _ (by
      have : (0 : Int) < 2 ^ k.bits := Int.pow_pos (by decide)
      omega)
    have h2 : (((x % 2 ^ k.bits).toNat % 2 ^ i : Nat) : Int) = 0 := by
      rw [Int.natCast_emod, Int.toNat_of_nonneg h0]; simpa using h1
    exact_mod_cast h2
  show k.wrap ((BitVec.ofInt k.bits x ||| BitVec.ofInt k.bits y).toNat : Int) = _
  rw [BitVec.toNat_or, BitVec.toNat_ofInt, BitVec.toNat_ofInt]
  have e1 : (x % ((2 ^ k.bits : Nat) : Int)).toNat = (x % 2 ^ k.bits).toNat := by simp
  have e2 : (y % ((2 ^ k.bits : Nat) : Int)).toNat = (y % 2 ^ k.bits).toNat := by simp
  rw [e1, e2, hyk, toNat_or_add i _ _ ha hb]

/-- And-ing with i ones: the lowest i bits, from 0 on. -/
theorem bits_and_mask (k : IntKind) (i : Nat) (hi : i ≤ k.bits) (x : Int) : bits .and k x (2 ^ i - 1) = k.wrap (x % 2 ^ i) := by
  have hpos : 0 < 2 ^ i := Nat.two_pow_pos i
  have hp : 2 ^ i ≤ 2 ^ k.bits := Nat.pow_le_pow_right (by decide) hi
  have hd : ((2 : Int) ^ i) ∣ 2 ^ k.bits := by
    obtain ⟨d, hd⟩ := Nat.exists_eq_add_of_le hi
    exact ⟨2 ^ d, by rw [hd, Int.pow_add]⟩
  have h0 : 0 ≤ x % 2 ^ k.bits := Int.emod_nonneg _ (by
    have : (0 : Int) < 2 ^ k.bits := Int.pow_pos (by decide)
    omega)
  have hc : ((2 : Int) ^ i - 1) = ((2 ^ i - 1 : Nat) : Int) := by
    rw [Int.natCast_sub hpos]; simp
  show k.wrap ((BitVec.ofInt k.bits x &&& BitVec.ofInt k.bits (2 ^ i - 1)).toNat : Int) = _
  rw [BitVec.toNat_and, BitVec.toNat_ofInt, hc, BitVec.ofInt_natCast, BitVec.toNat_ofNat, Nat.mod_eq_of_lt (by omega), Nat.and_two_pow_sub_one_eq_mod, Int.natCast_emod]
  have e1 : (x % ((2 ^ k.bits : Nat) : Int)).toNat = (x % 2 ^ k.bits).toNat := by simp
  rw [e1, Int.toNat_of_nonneg h0]
  congr 1
  have e2 : ((2 ^ i : Nat) : Int) = 2 ^ i := by simp
  rw [e2, Int.emod_emod_of_dvd _ hd]

theorem and_i32_16 (x : Int) : bits .and .i32 x 65535 = x % 65536 := by
  have h := bits_and_mask .i32 16 (by decide) x
  have e1 : ((2 : Int) ^ 16 - 1) = 65535 := by decide
  have e2 : ((2 : Int) ^ 16) = 65536 := by decide
  rw [e1, e2] at h
  rw [h]
  exact IntWalk.i32_in _ (by omega)

theorem or_i64_32 (x y : Int) (hx : -2147483648 ≤ x ∧ x ≤ 2147483647) (hy : 0 ≤ y ∧ y < 4294967296) :
    bits .or .i64 (x * 4294967296) y = x * 4294967296 + y := by
  rw [bits_or_add .i64 32 (by decide) _ _ (by omega) hy.1 (by omega), IntKind.wrap_i64]
  simp only [IntKind.bits]
  omega

theorem or_i32_8 (x y : Int) (hx : -8388608 ≤ x ∧ x ≤ 8388607) (hy : 0 ≤ y ∧ y < 256) :
    bits .or .i32 (x * 256) y = x * 256 + y := by
  rw [bits_or_add .i32 8 (by decide) _ _ (by omega) hy.1 (by omega), IntKind.wrap_i32]
  simp only [IntKind.bits]
  omega

theorem or_i32_w (x y : Int) (hy : 0 ≤ y ∧ y ≤ 255) : bits .or .i32 (wrap32 (x * 256)) y = wrap32 (x * 256 + y) := by
  rw [bits_or_add .i32 8 (by decide) _ _ (by unfold wrap32; omega) hy.1 (by omega), IntKind.wrap_i32]
  simp only [IntKind.bits]
  unfold wrap32
  omega

/-- The number of the first k bytes, cut to a word at each of them; and uncut. -/
def accW (z : Nat → Int) : Nat → Int
  | 0 => 0
  | k + 1 => wrap32 (accW z k * 256 + z k)
def accN (z : Nat → Int) : Nat → Int
  | 0 => 0
  | k + 1 => 256 * accN z k + z k

theorem accW_eq (z : Nat → Int) : accW z 4 = wrap32 (accN z 4) := by
  simp only [accW, accN]
  unfold wrap32
  omega

theorem accN_bd (z : Nat → Int) (hz : ∀ i, i < 4 → 0 ≤ z i ∧ z i ≤ 255) (k : Nat) (hk : k ≤ 4) : 0 ≤ accN z k ∧ accN z k ≤ 4294967295 := by
  have h0 := hz 0 (by omega)
  have h1 := hz 1 (by omega)
  have h2 := hz 2 (by omega)
  have h3 := hz 3 (by omega)
  obtain rfl | rfl | rfl | rfl | rfl : k = 0 ∨ k = 1 ∨ k = 2 ∨ k = 3 ∨ k = 4 := by omega
  all_goals simp only [accN]; omega

/-- The four bytes of a word, the highest first. -/
def byt (x : Int) (i : Nat) : Int := match i with | 0 => x / 16777216 % 256 | 1 => x / 65536 % 256 | 2 => x / 256 % 256 | _ => x % 256

theorem byt_bd (x : Int) (i : Nat) : 0 ≤ byt x i ∧ byt x i ≤ 255 := by unfold byt; split <;> omega
theorem byt_word (x : Int) (h1 : -2147483648 ≤ x) (h2 : x ≤ 2147483647) : wrap32 (accN (byt x) 4) = x := by
  simp only [accN, byt]; unfold wrap32; omega

/-- A shift's number: the lowest five bits. -/
def sn (n : Int) : Nat := (n % 32).toNat
def wShl (x n : Int) : Int := sg (wd x <<< sn n)
def wShr (x n : Int) : Int := sg (wd x >>> sn n)
def wSar (x n : Int) : Int := sg ((wd x).sshiftRight (sn n))
def wRol (x n : Int) : Int := sg ((wd x).rotateLeft (sn n))
def wClz (x : Int) : Int := ((wd x).clz.toNat : Int)
def wOnes (x : Int) : Int := ((wd x).cpop.toNat : Int)
def wTurn (x : Int) : Int := sg (wd x).reverse

theorem sn_lt (n : Int) : sn n < 32 := by unfold sn; omega
theorem sn_cast (n : Int) : ((sn n : Nat) : Int) = n % 32 := by unfold sn; omega
theorem sn_eq {n m : Int} (h : n % 32 = m % 32) : sn n = sn m := by unfold sn; rw [h]
theorem wShl_bd (x n : Int) : -2147483648 ≤ wShl x n ∧ wShl x n ≤ 2147483647 := sg_bd _
theorem wShr_bd (x n : Int) : -2147483648 ≤ wShr x n ∧ wShr x n ≤ 2147483647 := sg_bd _
theorem wSar_bd (x n : Int) : -2147483648 ≤ wSar x n ∧ wSar x n ≤ 2147483647 := sg_bd _
theorem wRol_bd (x n : Int) : -2147483648 ≤ wRol x n ∧ wRol x n ≤ 2147483647 := sg_bd _
theorem wTurn_bd (x : Int) : -2147483648 ≤ wTurn x ∧ wTurn x ≤ 2147483647 := sg_bd _
theorem wClz_bd (x : Int) : 0 ≤ wClz x ∧ wClz x ≤ 32 := by
  have h : (wd x).clz.toNat ≤ (32#32).toNat := BitVec.clz_le (x := wd x)
  have e : (32#32).toNat = 32 := rfl
  unfold wClz; omega
theorem wOnes_bd (x : Int) : 0 ≤ wOnes x ∧ wOnes x ≤ 32 := by
  have := BitVec.toNat_cpop_le (wd x); unfold wOnes; omega
theorem wSar_eq {x n : Int} (h1 : -2147483648 ≤ x) (h2 : x ≤ 2147483647) : wSar x n = x / 2 ^ sn n := by
  unfold wSar; rw [← sg_sar, sg_wd_in h1 h2]

/-- Bit i of a row of bits, as a number. -/
def bi (b : BitVec 32) (i : Nat) : Int := us b / 2 ^ i % 2
theorem bi_bd (b : BitVec 32) (i : Nat) : 0 ≤ bi b i ∧ bi b i ≤ 1 := by unfold bi; omega
theorem bi_bit (b : BitVec 32) (i : Nat) : bi b i = ((b.getLsbD i).toNat : Int) := by
  unfold bi us
  have e : b.getLsbD i = decide (b.toNat / 2 ^ i % 2 = 1) := by rw [← BitVec.testBit_toNat, Nat.testBit_eq_decide_div_mod_eq]
  rw [e]
  have h : ((b.toNat : Int) / 2 ^ i % 2) = ((b.toNat / 2 ^ i % 2 : Nat) : Int) := by simp
  rw [h]
  by_cases h1 : b.toNat / 2 ^ i % 2 = 1
  · rw [h1]; rfl
  · have : b.toNat / 2 ^ i % 2 = 0 := by omega
    rw [this]; rfl
theorem bi_wd (x : Int) (i : Nat) : bi (wd x) i = x % 4294967296 / 2 ^ i % 2 := by unfold bi; rw [us_wd]

theorem us_pow (b : BitVec 32) (j : Nat) : 0 ≤ us b / 2 ^ j ∧ us b / 2 ^ j ≤ 4294967295 := by
  have h := us_bd b
  exact ⟨Int.ediv_nonneg h.1 (Int.pow_nonneg (by decide)), Int.le_trans (Int.ediv_le_self _ h.1) h.2⟩
theorem pow_half (u : Int) (k : Nat) : u / 2 ^ k / 2 = u / 2 ^ (k + 1) := by
  rw [Int.pow_succ, Int.ediv_ediv_of_nonneg (Int.pow_nonneg (by decide))]
theorem us_up (b : BitVec 32) (j : Nat) : 2 * (us b / 2 ^ (j + 1)) + bi b j = us b / 2 ^ j := by
  unfold bi
  have h := pow_half (us b) j
  omega
theorem us_top (b : BitVec 32) : us b / 2 ^ 32 = 0 := by have := us_bd b; omega

theorem bi_shl (b : BitVec 32) (k i : Nat) (hi : i < 32) : bi (b <<< k) i = if k ≤ i then bi b (i - k) else 0 := by
  rw [bi_bit, BitVec.getLsbD_shiftLeft]
  by_cases h : k ≤ i
  · rw [if_pos h, bi_bit]; simp [hi, Nat.not_lt.2 h]
  · rw [if_neg h]; simp [Nat.lt_of_not_le h]
theorem bi_shr (b : BitVec 32) (k i : Nat) : bi (b >>> k) i = if i + k < 32 then bi b (i + k) else 0 := by
  rw [bi_bit, BitVec.getLsbD_ushiftRight]
  by_cases h : i + k < 32
  · rw [if_pos h, bi_bit, Nat.add_comm]
  · rw [if_neg h, BitVec.getLsbD_of_ge _ _ (by omega)]; rfl
theorem bi_rol (b : BitVec 32) (k i : Nat) (hk : k < 32) (hi : i < 32) : bi (b.rotateLeft k) i = bi b ((i + (32 - k)) % 32) := by
  rw [bi_bit, bi_bit, BitVec.getLsbD_rotateLeft_of_le hk]
  by_cases h : i < k
  · rw [Nat.mod_eq_of_lt (by omega), Nat.add_comm i]; simp [h]
  · have e : (i + (32 - k)) % 32 = i - k := by omega
    rw [e]; simp [h, hi]
theorem bi_rev (b : BitVec 32) (i : Nat) (hi : i < 32) : bi b.reverse i = bi b (31 - i) := by
  rw [bi_bit, bi_bit, BitVec.getLsbD_reverse, BitVec.getMsbD]; simp [hi]

theorem wd_neg (x : Int) : wd (-x) = -(wd x) := by unfold wd; exact BitVec.ofInt_neg

theorem sign_one (b : BitVec 32) (h : b.msb = true) : b >>> 31 &&& 1#32 = 1#32 := by
  apply BitVec.eq_of_getLsbD_eq
  intro i hi
  rw [BitVec.msb_eq_getLsbD_last] at h
  simp only [BitVec.getLsbD_and, BitVec.getLsbD_ushiftRight, BitVec.getLsbD_one]
  by_cases hi0 : i = 0
  · subst hi0; simpa using h
  · simp [hi0]
theorem sign_none (b : BitVec 32) (h : b.msb = false) : b >>> 31 &&& 1#32 = 0#32 := by
  apply BitVec.eq_of_getLsbD_eq
  intro i hi
  rw [BitVec.msb_eq_getLsbD_last] at h
  simp only [BitVec.getLsbD_and, BitVec.getLsbD_ushiftRight, BitVec.getLsbD_one]
  by_cases hi0 : i = 0
  · subst hi0; simpa using h
  · simp [hi0]

theorem sar_bits (b : BitVec 32) (k : Nat) :
    b >>> k ||| (-(b >>> 31 &&& 1#32) &&& ~~~(BitVec.allOnes 32 >>> k)) = b.sshiftRight k := by
  cases h : b.msb
  · rw [sign_none b h, BitVec.sshiftRight_eq_of_msb_false h]; simp
  · rw [sign_one b h]
    apply BitVec.eq_of_getLsbD_eq
    intro i hi
    have e : -(1#32) = BitVec.allOnes 32 := by decide
    rw [e]
    simp only [BitVec.getLsbD_or, BitVec.getLsbD_and, BitVec.getLsbD_not, BitVec.getLsbD_ushiftRight, BitVec.getLsbD_allOnes, BitVec.getLsbD_sshiftRight, h]
    by_cases hb : k + i < 32
    · simp [hb, hi]
    · have : b.getLsbD (k + i) = false := BitVec.getLsbD_of_ge _ _ (by omega)
      simp [hb, hi, this]

theorem us_ones : us (BitVec.allOnes 32) = 4294967295 := by decide
theorem us_one : us 1#32 = 1 := by decide
theorem wd_one : wd 1 = 1#32 := by decide

theorem sar_word (x : Int) (k : Nat) :
    bits .or .i32 (sg (wd x >>> k)) (wrap32 (bits .andNot .u32 (-bits .and .u32 (x % 4294967296 / 2147483648) 1 % 4294967296) (4294967295 / 2 ^ k))) = sg ((wd x).sshiftRight k) := by
  have e1 : x % (4294967296 : Int) / (2147483648 : Int) = us (wd x >>> (31 : Nat)) := by rw [← us_shr, us_wd]; rfl
  have e2 : (4294967295 : Int) / 2 ^ k = us (BitVec.allOnes 32 >>> k) := by rw [← us_shr, us_ones]
  rw [e1, e2, bits_u32_and, bits_u32_andNot, bits_i32_or, ← sg_us, wd_sg, wd_sg, wd_us, wd_us, wd_one, wd_mod, wd_neg, wd_us, sar_bits]

/-- Turned round: what goes out at the top comes in at the bottom. -/
theorem rol_bits (b : BitVec 32) (k : Nat) (hk : k < 32) : b <<< k ||| b >>> (32 - k) = b.rotateLeft k := by
  rw [BitVec.rotateLeft_def, Nat.mod_eq_of_lt hk]

theorem and_255 (b : BitVec 32) : us (b &&& 255#32) = us b % 256 := by
  unfold us
  rw [BitVec.toNat_and]
  have e : (255#32).toNat = 2 ^ 8 - 1 := by decide
  rw [e, Nat.and_two_pow_sub_one_eq_mod]
  rfl
theorem and_u32_8 (y : Int) : bits .and .u32 y 255 = y % 256 := by
  have e : wd 255 = 255#32 := by decide
  rw [bits_u32_and, e, and_255, us_wd]
  omega

/-- How many noughts stand above the highest 1. -/
theorem bitLen_hi : ∀ (f x : Nat), x < 2 ^ f → f ≤ 64 → x < 2 ^ Lib.bitLen x ∧ (x ≠ 0 → 2 ^ Lib.bitLen x ≤ 2 * x) := by
  intro f
  induction f with
  | zero =>
    intro x hx _
    have : x = 0 := by omega
    subst this
    exact ⟨by decide, fun h => absurd rfl h⟩
  | succ f ih =>
    intro x hx hf
    by_cases h0 : x = 0
    · subst h0; exact ⟨by decide, fun h => absurd rfl h⟩
    · have h2 : x < 2 ^ 64 := Nat.lt_of_lt_of_le hx (Nat.pow_le_pow_right (by decide) hf)
      have hh := Lib.bitLen_half x h0 h2
      obtain ⟨i1, i2⟩ := ih (x / 2) (by rw [Nat.pow_succ] at hx; omega) (by omega)
      have e : 2 ^ Lib.bitLen x = 2 * 2 ^ Lib.bitLen (x / 2) := by rw [hh, Nat.add_comm, Nat.pow_succ, Nat.mul_comm]
      refine ⟨by rw [e]; omega, fun _ => ?_⟩
      rw [e]
      by_cases h1 : x / 2 = 0
      · have : x = 1 := by omega
        subst this; decide
      · have := i2 h1; omega

theorem clz_len (b : BitVec 32) : (b.clz.toNat : Int) = 32 - (Lib.bitLen b.toNat : Int) := by
  have hlt := b.isLt
  obtain ⟨l1, l2⟩ := bitLen_hi 32 b.toNat hlt (by decide)
  have hc : b.clz.toNat ≤ (32#32).toNat := BitVec.clz_le (x := b)
  have e : (32#32).toNat = 32 := rfl
  by_cases h : b = 0#32
  · subst h; decide
  · have hx : b.toNat ≠ 0 := by
      intro h0; exact h (BitVec.eq_of_toNat_eq (by simpa using h0))
    have c1 := BitVec.two_pow_sub_clz_le_toNat_of_ne_zero (x := b) (by decide) h
    have c2 := BitVec.toNat_lt_two_pow_sub_clz (x := b)
    have c3 : b.clz.toNat < 32 := by
      have h3 := (BitVec.clz_lt_iff_ne_zero (x := b)).2 h
      have h4 : b.clz.toNat < (32#32).toNat := h3
      omega
    have l2' := l2 hx
    have a1 : Lib.bitLen b.toNat ≤ 32 - b.clz.toNat := by
      apply Nat.le_of_not_lt; intro hlt
      have := Nat.pow_le_pow_right (n := 2) (by decide) hlt
      rw [Nat.succ_eq_add_one, Nat.pow_succ] at this
      omega
    have a2 : 31 - b.clz.toNat < Lib.bitLen b.toNat := by
      apply Nat.lt_of_not_le; intro hle
      have := Nat.pow_le_pow_right (n := 2) (by decide) hle
      have e2 : 32 - 1 - b.clz.toNat = 31 - b.clz.toNat := by omega
      rw [e2] at c1
      omega
    omega

def wMask (x : Int) : Int := if x = 0 then 0 else -1
def wSign (x : Int) : Int := if x < 0 then -1 else 0
def wSel (m a b : Int) : Int := sg (wd a &&& wd m ||| wd b &&& ~~~wd m)
/-- -1 of what is less. -/
def wBelow (a b : Int) : Int := if a < b then -1 else 0
def wLess (a b : Int) : Int := if a < b then 1 else 0
def wUnder (a b : Int) : Int := if a % 4294967296 < b % 4294967296 then 1 else 0
def wSame (a b : Int) : Int := if a = b then 1 else 0
def wMin (a b : Int) : Int := if a < b then a else b
def wMax (a b : Int) : Int := if a < b then b else a
def wFlip (x m : Int) : Int := wrap32 (sg (wd x ^^^ wd m) - m)

theorem wMask_bd (x : Int) : -1 ≤ wMask x ∧ wMask x ≤ 0 := by unfold wMask; split <;> omega
theorem wSign_bd (x : Int) : -1 ≤ wSign x ∧ wSign x ≤ 0 := by unfold wSign; split <;> omega
theorem wBelow_bd (a b : Int) : -1 ≤ wBelow a b ∧ wBelow a b ≤ 0 := by unfold wBelow; split <;> omega
theorem wLess_bd (a b : Int) : 0 ≤ wLess a b ∧ wLess a b ≤ 1 := by unfold wLess; split <;> omega
theorem wUnder_bd (a b : Int) : 0 ≤ wUnder a b ∧ wUnder a b ≤ 1 := by unfold wUnder; split <;> omega
theorem wSame_bd (a b : Int) : 0 ≤ wSame a b ∧ wSame a b ≤ 1 := by unfold wSame; split <;> omega
theorem wSel_bd (m a b : Int) : -2147483648 ≤ wSel m a b ∧ wSel m a b ≤ 2147483647 := sg_bd _
theorem wFlip_bd (x m : Int) : -2147483648 ≤ wFlip x m ∧ wFlip x m ≤ 2147483647 := by unfold wFlip wrap32; omega

theorem wd_0 : wd 0 = 0#32 := by decide
theorem wd_m1 : wd (-1) = BitVec.allOnes 32 := by decide
theorem wSel_0 {a b : Int} (h1 : -2147483648 ≤ b) (h2 : b ≤ 2147483647) : wSel 0 a b = b := by
  unfold wSel; rw [wd_0, BitVec.and_zero, BitVec.zero_or, show ~~~(0#32) = BitVec.allOnes 32 by decide, BitVec.and_allOnes, sg_wd_in h1 h2]
theorem wSel_m1 {a b : Int} (h1 : -2147483648 ≤ a) (h2 : a ≤ 2147483647) : wSel (-1) a b = a := by
  unfold wSel; rw [wd_m1, BitVec.and_allOnes, show ~~~(BitVec.allOnes 32) = 0#32 by decide, BitVec.and_zero, BitVec.or_zero, sg_wd_in h1 h2]
theorem below_min {a b : Int} (h1 : -2147483648 ≤ a) (h2 : a ≤ 2147483647) (h3 : -2147483648 ≤ b) (h4 : b ≤ 2147483647) : wSel (wBelow a b) a b = wMin a b := by
  unfold wBelow wMin; split
  · exact wSel_m1 h1 h2
  · exact wSel_0 h3 h4
theorem below_max {a b : Int} (h1 : -2147483648 ≤ a) (h2 : a ≤ 2147483647) (h3 : -2147483648 ≤ b) (h4 : b ≤ 2147483647) : wSel (wBelow a b) b a = wMax a b := by
  unfold wBelow wMax; split
  · exact wSel_m1 h3 h4
  · exact wSel_0 h1 h2
theorem below_shr {a b : Int} (h1 : -4294967296 ≤ a - b) (h2 : a - b ≤ 4294967296) : (a - b) / 9223372036854775808 = wBelow a b := by
  unfold wBelow; split <;> omega
theorem sign_shr {x : Int} (h1 : -2147483648 ≤ x) (h2 : x ≤ 2147483647) : x / 2147483648 = wSign x := by
  unfold wSign; split <;> omega
theorem below_one (a b : Int) : bits .and .i32 (wBelow a b) 1 = wLess a b := by
  unfold wBelow wLess; split <;> decide +kernel
theorem under_one (a b : Int) : wLess (a % 4294967296) (b % 4294967296) = wUnder a b := rfl

theorem sg_neg_iff (b : BitVec 32) : sg b < 0 ↔ b.msb = true := by
  unfold sg
  rw [BitVec.msb_eq_toInt]; simp
theorem or_neg (b : BitVec 32) : (b ||| -b).msb = decide (b ≠ 0#32) := by
  rw [BitVec.msb_or, BitVec.msb_neg]
  by_cases h : b = 0#32
  · subst h; decide
  · by_cases h2 : b = BitVec.intMin 32
    · subst h2; decide
    · have e : (decide (b ≠ 0#32)) = true := by simpa using h
      rw [e]; cases b.msb <;> simp [h, h2]
theorem wd_neg_ (x : Int) : wd (-x) = -(wd x) := by unfold wd; exact BitVec.ofInt_neg
theorem wd_eq0 {x : Int} (h1 : -2147483648 ≤ x) (h2 : x ≤ 2147483647) : wd x = 0#32 ↔ x = 0 := by
  constructor
  · intro h; rw [← sg_wd_in h1 h2, h]; decide
  · intro h; subst h; decide
theorem mask_sign {x : Int} (h1 : -2147483648 ≤ x) (h2 : x ≤ 2147483647) : wSign (bits .or .i32 x (wrap32 (-x))) = wMask x := by
  rw [bits_i32_or, wd_wrap, wd_neg_]
  unfold wSign wMask
  have h := wd_eq0 h1 h2
  have g := sg_neg_iff (wd x ||| -wd x)
  rw [or_neg] at g
  by_cases h0 : x = 0
  · rw [if_pos h0, if_neg]; intro k; have := g.1 k; simp [h.2 h0] at this
  · rw [if_neg h0, if_pos]; apply g.2; simpa using fun e => h0 (h.1 e)
theorem xor_0 {a b : Int} (h1 : -2147483648 ≤ a) (h2 : a ≤ 2147483647) (h3 : -2147483648 ≤ b) (h4 : b ≤ 2147483647) : bits .xor .i32 a b = 0 ↔ a = b := by
  rw [bits_i32_xor]
  constructor
  · intro h
    have e : wd a ^^^ wd b = 0#32 := by
      have : sg (wd a ^^^ wd b) = sg 0#32 := by rw [h]; decide
      exact sg_inj this
    have e2 : wd a = wd b := by
      have := congrArg (· ^^^ wd b) e
      simpa [BitVec.xor_assoc] using this
    rw [← sg_wd_in h1 h2, e2, sg_wd_in h3 h4]
  · intro h; subst h; simp; decide
theorem same_mask {a b : Int} (h1 : -2147483648 ≤ a) (h2 : a ≤ 2147483647) (h3 : -2147483648 ≤ b) (h4 : b ≤ 2147483647) :
    bits .and .i32 (bits .xor .i32 (-1) (wMask (bits .xor .i32 a b))) 1 = wSame a b := by
  have h := xor_0 h1 h2 h3 h4
  unfold wMask wSame
  by_cases he : a = b
  · rw [if_pos (h.2 he), if_pos he]; decide +kernel
  · rw [if_neg (fun e => he (h.1 e)), if_neg he]; decide +kernel
theorem sel_bits (m a b : Int) : bits .or .i32 (bits .and .i32 a m) (bits .andNot .i32 b m) = wSel m a b := by
  unfold wSel; rw [bits_i32_and, bits_i32_andNot, bits_i32_or, wd_sg, wd_sg]
theorem flip_bits (x m : Int) : wrap32 (bits .xor .i32 x m - m) = wFlip x m := by
  unfold wFlip; rw [bits_i32_xor]

/-- A number, cut to a word. -/
def wCut (x : Int) : Int := if x < -2147483648 then -2147483648 else if 2147483647 < x then 2147483647 else x
/-- A number within bounds; the high one counts before the low one. -/
def wClamp (x l h : Int) : Int := if h < x ∨ h < l then h else if x < l then l else x
/-- How far a number is from another. -/
def wFar (x y : Int) : Int := if x < y then y - x else x - y
/-- The amount of a word, cut. -/
def wAbs (x : Int) : Int := if x < 0 then wCut (-x) else x

theorem wCut_bd (x : Int) : -2147483648 ≤ wCut x ∧ wCut x ≤ 2147483647 := by
  unfold wCut; split <;> (try split) <;> omega
theorem wCut_in {x : Int} (h1 : -2147483648 ≤ x) (h2 : x ≤ 2147483647) : wCut x = x := by
  unfold wCut; split <;> (try split) <;> omega
theorem wClamp_eq (x l h : Int) : wClamp x l h = min (max x l) h := by
  unfold wClamp; omega
theorem wCut_clamp (x : Int) : wCut x = wClamp x (-2147483648) 2147483647 := by
  unfold wCut wClamp; split <;> split <;> (try split) <;> omega
theorem wClamp_bd {x l h : Int} {a b : Int} (x1 : a ≤ x) (x2 : x ≤ b) (l1 : a ≤ l) (l2 : l ≤ b) (h1 : a ≤ h) (h2 : h ≤ b) : a ≤ wClamp x l h ∧ wClamp x l h ≤ b := by
  unfold wClamp; split <;> (try split) <;> omega
theorem wFar_bd {x y : Int} (x1 : -9223372036854775808 ≤ x) (x2 : x ≤ 9223372036854775807) (y1 : -2147483648 ≤ y) (y2 : y ≤ 2147483647) : 0 ≤ wFar x y ∧ wFar x y < 18446744073709551616 := by
  unfold wFar; split <;> omega

/-- By 2^n, rounded; of another n than 1 to 62 the number itself. -/
def wRnd (x n : Int) : Int := if n < 1 ∨ 62 < n then x else (x + 2 ^ (n.toNat - 1)) / 2 ^ n.toNat
/-- The product of Q2.30, of Q16.16; the highest, the lowest 32 bits of a product. -/
def wMulq (a b : Int) : Int := wCut ((a * b + 536870912) / 1073741824)
def wMulr (a b : Int) : Int := wCut ((a * b + 32768) / 65536)
def wMulh (a b : Int) : Int := a * b / 4294967296
def wMull (a b : Int) : Int := wrap32 (a * b)

theorem prod_bd {a b : Int} (a1 : -2147483648 ≤ a) (a2 : a ≤ 2147483647) (b1 : -2147483648 ≤ b) (b2 : b ≤ 2147483647) :
    -4611686018427387904 ≤ a * b ∧ a * b ≤ 4611686018427387904 := by
  have h : (a * b).natAbs ≤ 2147483648 * 2147483648 := by
    rw [Int.natAbs_mul]; exact Nat.mul_le_mul (by omega) (by omega)
  omega
theorem wMulq_bd (a b : Int) : -2147483648 ≤ wMulq a b ∧ wMulq a b ≤ 2147483647 := wCut_bd _
theorem wMulr_bd (a b : Int) : -2147483648 ≤ wMulr a b ∧ wMulr a b ≤ 2147483647 := wCut_bd _
theorem wMulh_bd {a b : Int} (a1 : -2147483648 ≤ a) (a2 : a ≤ 2147483647) (b1 : -2147483648 ≤ b) (b2 : b ≤ 2147483647) :
    -2147483648 ≤ wMulh a b ∧ wMulh a b ≤ 2147483647 := by
  have := prod_bd a1 a2 b1 b2
  unfold wMulh; omega
theorem wMull_bd (a b : Int) : -2147483648 ≤ wMull a b ∧ wMull a b ≤ 2147483647 := by unfold wMull wrap32; omega
theorem wRnd_out {x n : Int} (h : n < 1 ∨ 62 < n) : wRnd x n = x := by unfold wRnd; rw [if_pos h]
theorem wRnd_30 (x : Int) : wRnd x 30 = (x + 536870912) / 1073741824 := by
  unfold wRnd; rw [if_neg (by omega)]
  have e1 : (2 : Int) ^ ((30 : Int).toNat - 1) = 536870912 := by decide
  have e2 : (2 : Int) ^ (30 : Int).toNat = 1073741824 := by decide
  rw [e1, e2]
theorem wRnd_16 (x : Int) : wRnd x 16 = (x + 32768) / 65536 := by
  unfold wRnd; rw [if_neg (by omega)]
  have e1 : (2 : Int) ^ ((16 : Int).toNat - 1) = 32768 := by decide
  have e2 : (2 : Int) ^ (16 : Int).toNat = 65536 := by decide
  rw [e1, e2]

theorem pow_pos' (k : Nat) : (0 : Int) < 2 ^ k := Int.pow_pos (by decide)
/-- Half a unit added ahead, or the highest lost bit added behind. -/
theorem half_bit' (x : Int) (k : Nat) : (x + 2 ^ k) / 2 ^ (k + 1) = x / 2 ^ (k + 1) + x / 2 ^ k % 2 := by
  have hk := pow_pos' k
  rw [Int.pow_succ, ← Int.ediv_ediv_of_nonneg (by omega), ← Int.ediv_ediv_of_nonneg (by omega)]
  have e : (x + 2 ^ k) / 2 ^ k = x / 2 ^ k + 1 := by
    have := Int.add_mul_ediv_right x 1 (show (2 : Int) ^ k ≠ 0 by omega)
    rw [Int.one_mul] at this; exact this
  rw [e]; omega
/-- Half a unit added ahead, or 1 added behind where the rest is half a unit or more. -/
theorem half_rest (x h : Int) (hh : 0 < h) : (x + h) / (2 * h) = if h ≤ x % (2 * h) then x / (2 * h) + 1 else x / (2 * h) := by
  have e := Int.emod_add_mul_ediv x (2 * h)
  have r0 := Int.emod_nonneg x (show 2 * h ≠ 0 by omega)
  have r1 := Int.emod_lt_of_pos x (show 0 < 2 * h by omega)
  generalize x % (2 * h) = r at *
  generalize x / (2 * h) = q at *
  have e' : x + h = (r + h) + q * (2 * h) := by rw [← e, Int.mul_comm q]; omega
  rw [e', Int.add_mul_ediv_right _ _ (by omega)]
  split
  · have e1 : (r + h) / (2 * h) = 1 := by
      have e2 : r + h = (r - h) + 1 * (2 * h) := by omega
      rw [e2, Int.add_mul_ediv_right _ _ (by omega), Int.ediv_eq_zero_of_lt (by omega) (by omega)]; omega
    omega
  · rw [Int.ediv_eq_zero_of_lt (by omega) (by omega)]; omega
theorem toNat_succ {n : Int} (h : 1 ≤ n) : n.toNat = (n.toNat - 1) + 1 := by omega
theorem wRnd_bits {x n : Int} (h1 : 1 ≤ n) (h2 : n ≤ 62) : x / 2 ^ n.toNat + x / 2 ^ (n.toNat - 1) % 2 = wRnd x n := by
  unfold wRnd
  rw [if_neg (by omega)]
  obtain ⟨k, hk⟩ : ∃ k, n.toNat = k + 1 := ⟨n.toNat - 1, by omega⟩
  rw [hk, Nat.add_sub_cancel, half_bit']
theorem wRnd_rest {x n : Int} (h1 : 1 ≤ n) (h2 : n ≤ 62) : wRnd x n = if 2 ^ n.toNat / 2 ≤ x % 2 ^ n.toNat then x / 2 ^ n.toNat + 1 else x / 2 ^ n.toNat := by
  unfold wRnd
  have e : (2 : Int) ^ n.toNat = 2 * 2 ^ (n.toNat - 1) := by
    conv => lhs; rw [toNat_succ h1, Int.pow_succ]
    omega
  have := pow_pos' (n.toNat - 1)
  rw [if_neg (by omega), e, half_rest _ _ this]
  have e2 : (2 * (2 : Int) ^ (n.toNat - 1)) / 2 = 2 ^ (n.toNat - 1) := by omega
  rw [e2]
theorem div_bd {x : Int} (k : Nat) (h1 : -9223372036854775808 ≤ x) (h2 : x ≤ 9223372036854775807) : -9223372036854775808 ≤ x / 2 ^ k ∧ x / 2 ^ k ≤ 9223372036854775807 := by
  have hk := pow_pos' k
  have ha := Int.natAbs_ediv_le_natAbs x (2 ^ k)
  by_cases hx : 0 ≤ x
  · have := Int.ediv_le_self (2 ^ k) hx
    omega
  · have := Int.ediv_neg_of_neg_of_pos (show x < 0 by omega) hk
    omega
theorem div_bd' {x n : Int} (h : 1 ≤ n) (h1 : -9223372036854775808 ≤ x) (h2 : x ≤ 9223372036854775807) : -4611686018427387904 ≤ x / 2 ^ n.toNat ∧ x / 2 ^ n.toNat ≤ 4611686018427387903 := by
  have := div_bd (n.toNat - 1) h1 h2
  have hk := pow_pos' (n.toNat - 1)
  have e : x / 2 ^ n.toNat = x / 2 ^ (n.toNat - 1) / 2 := by
    conv => lhs; rw [toNat_succ h, Int.pow_succ]
    rw [Int.ediv_ediv_of_nonneg (by omega)]
  omega
theorem and_i64_1 (x : Int) : bits .and .i64 x 1 = x % 2 := by
  have h := bits_and_mask .i64 1 (by decide) x
  have e1 : ((2 : Int) ^ 1 - 1) = 1 := by decide
  have e2 : ((2 : Int) ^ 1) = 2 := by decide
  rw [e1, e2] at h
  rw [h, IntWalk.i64_in _ (by omega)]

/-- The 43 names, in order. -/
def nms : List ByteArray := [⟨#[97, 100, 100]⟩, ⟨#[115, 117, 98]⟩, ⟨#[97, 100, 100, 115]⟩, ⟨#[115, 117, 98, 115]⟩, ⟨#[97, 110, 100]⟩, ⟨#[111, 114]⟩, ⟨#[120, 111, 114]⟩, ⟨#[98, 105, 99]⟩, ⟨#[115, 104, 108]⟩, ⟨#[115, 104, 114]⟩, ⟨#[115, 97, 114]⟩, ⟨#[114, 111, 108]⟩, ⟨#[115, 108, 116]⟩, ⟨#[115, 108, 116, 117]⟩, ⟨#[115, 101, 113]⟩, ⟨#[109, 105, 110]⟩, ⟨#[109, 97, 120]⟩, ⟨#[109, 117, 108]⟩, ⟨#[109, 117, 108, 104]⟩, ⟨#[109, 117, 108, 113]⟩, ⟨#[109, 117, 108, 114]⟩, ⟨#[100, 105, 118]⟩, ⟨#[114, 101, 109]⟩, ⟨#[99, 108, 122]⟩, ⟨#[110, 101, 103]⟩, ⟨#[97, 98, 115]⟩, ⟨#[109, 97, 115, 107]⟩, ⟨#[115, 105, 103, 110]⟩, ⟨#[104, 97, 108, 102]⟩, ⟨#[104, 105, 103, 104]⟩, ⟨#[97, 100, 100, 105]⟩, ⟨#[111, 114, 105]⟩, ⟨#[108, 117, 105]⟩, ⟨#[108, 119]⟩, ⟨#[115, 119]⟩, ⟨#[98, 101, 113]⟩, ⟨#[98, 110, 101]⟩, ⟨#[98, 108, 116]⟩, ⟨#[106, 117, 109, 112]⟩, ⟨#[106, 97, 108]⟩, ⟨#[106, 114]⟩, ⟨#[110, 111, 112]⟩, ⟨#[104, 97, 108, 116]⟩]
/-- The name at place k, from 0 on. -/
def nm (k : Nat) : ByteArray := nms.getD k ⟨#[]⟩
/-- Names with a blank between each two. -/
def joinL : List ByteArray → List UInt8
  | [] => []
  | [a] => a.data.toList
  | a :: r => a.data.toList ++ 32 :: joinL r
/-- The text of all names, but for the first k of them. -/
def rest (k : Nat) : ByteArray := ⟨(joinL (nms.drop k)).toArray⟩
/-- What is ahead of the first c, what is behind it, and whether there is one. -/
def cutA (s : ByteArray) (c : UInt8) : ByteArray := if Lib.indexByte s.data.toList c < 0 then s else ⟨(s.data.toList.take (Lib.indexByte s.data.toList c).toNat).toArray⟩
def cutB (s : ByteArray) (c : UInt8) : ByteArray := if Lib.indexByte s.data.toList c < 0 then ⟨#[]⟩ else ⟨(s.data.toList.drop ((Lib.indexByte s.data.toList c).toNat + 1)).toArray⟩
def cutF (s : ByteArray) (c : UInt8) : Bool := decide (0 ≤ Lib.indexByte s.data.toList c)

def wName (n : Int) : ByteArray := if 1 ≤ n ∧ n ≤ 43 then nm (n - 1).toNat else ⟨#[]⟩
/-- The number of a name among some that are numbered from i on; 0: it is none of them. -/
def findIn (s : ByteArray) : List ByteArray → Int → Int
  | [], _ => 0
  | a :: l, i => if a = s then i else findIn s l (i + 1)
def wFind (s : ByteArray) : Int := findIn s nms 1
def wShape (n : Int) : ByteArray :=
  if n < 1 ∨ 43 < n then ⟨#[]⟩ else if n ≤ 23 then ⟨#[100, 97, 98, 45]⟩ else if n ≤ 30 then ⟨#[100, 97, 45, 45]⟩ else if n = 31 then ⟨#[100, 97, 45, 115]⟩ else if n = 33 ∨ n = 40 then ⟨#[100, 45, 45, 117]⟩
  else if n = 39 then ⟨#[45, 45, 45, 117]⟩ else if n = 41 then ⟨#[45, 97, 45, 45]⟩ else if 42 ≤ n then ⟨#[45, 45, 45, 45]⟩ else ⟨#[100, 97, 45, 117]⟩
def wCost (n : Int) : Int :=
  if n < 1 ∨ 43 < n then 0 else if (18 ≤ n ∧ n ≤ 21) ∨ (39 ≤ n ∧ n ≤ 41) then 3 else if n = 22 ∨ n = 23 ∨ n = 34 ∨ n = 35 then 2 else 1
def wReck (n : Int) : Bool := decide (1 ≤ n ∧ n ≤ 30)
def wLeak (n : Int) : Bool := decide (n = 22 ∨ n = 23 ∨ n = 34 ∨ n = 35 ∨ n = 36 ∨ n = 37 ∨ n = 38 ∨ n = 41)

theorem index_app : ∀ (a b : List UInt8) (c : UInt8), c ∉ a → Lib.indexByte (a ++ c :: b) c = a.length
  | [], _, _, _ => by simp [Lib.indexByte]
  | x :: a, b, c, h => by
    have h0 : (x == c) = false := by
      have : x ≠ c := fun e => h (by simp [e])
      simpa using this
    have ih := index_app a b c (fun e => h (by simp [e]))
    rw [List.cons_append, Lib.indexByte, h0, ih]
    have h1 : (((a.length : Nat) : Int) == -1) = false := by rw [beq_eq_false_iff_ne]; omega
    simp only [h1, Bool.false_eq_true, if_false, List.length_cons]
    omega
theorem index_none : ∀ (a : List UInt8) (c : UInt8), c ∉ a → Lib.indexByte a c = -1
  | [], _, _ => rfl
  | x :: a, c, h => by
    have h0 : (x == c) = false := by
      have : x ≠ c := fun e => h (by simp [e])
      simpa using this
    have ih := index_none a c (fun e => h (by simp [e]))
    rw [Lib.indexByte, h0, ih]
    rfl
theorem nm_at {k : Nat} (h : k < nms.length) : nm k = nms[k] := by
  unfold nm
  rw [List.getD, List.getElem?_eq_getElem h]
  rfl
theorem blankless : (nms.all fun a => !a.data.toList.contains 32) = true := by decide +kernel
theorem nm_blank {k : Nat} (h : k < 43) : (32 : UInt8) ∉ (nm k).data.toList := by
  have hm : nm k ∈ nms := by
    rw [nm_at h]
    exact List.getElem_mem _
  have := List.all_eq_true.1 blankless _ hm
  simpa using this
theorem drop_nms {k : Nat} (h : k < 43) : nms.drop k = nm k :: nms.drop (k + 1) := by
  rw [List.drop_eq_getElem_cons h, nm_at h]
theorem rest_at {k : Nat} (h : k < 42) : (rest k).data.toList = (nm k).data.toList ++ 32 :: (rest (k + 1)).data.toList := by
  have h1 : nms.drop k = nm k :: nm (k + 1) :: nms.drop (k + 2) := by rw [drop_nms (show k < 43 by omega), drop_nms (show k + 1 < 43 by omega)]
  have h2 : nms.drop (k + 1) = nm (k + 1) :: nms.drop (k + 2) := drop_nms (show k + 1 < 43 by omega)
  simp only [rest, h1, h2, joinL]
theorem rest_42 : (rest 42).data.toList = (nm 42).data.toList := by
  simp [rest, drop_nms (show 42 < 43 by omega), show nms.drop 43 = [] from rfl, joinL]
theorem rest_43 : rest 43 = ⟨#[]⟩ := rfl
theorem ba_ext {a b : ByteArray} (h : a.data.toList = b.data.toList) : a = b := by
  cases a; cases b; congr 1; exact Array.toList_inj.1 h
theorem cut_a {k : Nat} (h : k < 43) : cutA (rest k) 32 = nm k := by
  rcases (show k < 42 ∨ k = 42 by omega) with h1 | rfl
  · unfold cutA
    rw [rest_at h1, index_app _ _ _ (nm_blank h)]
    rw [if_neg (by omega)]
    apply ba_ext
    simp
  · unfold cutA
    rw [rest_42, index_none _ _ (nm_blank h)]
    exact ba_ext rest_42
theorem cut_b {k : Nat} (h : k < 43) : cutB (rest k) 32 = rest (k + 1) := by
  rcases (show k < 42 ∨ k = 42 by omega) with h1 | rfl
  · unfold cutB
    rw [rest_at h1, index_app _ _ _ (nm_blank h)]
    rw [if_neg (by omega)]
    apply ba_ext
    rw [Int.toNat_natCast, ← List.drop_drop, List.drop_left]
    rfl
  · unfold cutB
    rw [rest_42, index_none _ _ (nm_blank h), rest_43]
    rfl
theorem sizes : ((List.range 44).all fun k => decide ((joinL (nms.drop k)).length ≤ 200)) = true := by decide +kernel
theorem rest_size {k : Nat} (h : k < 44) : (rest k).size ≤ 200 := by
  have := List.all_eq_true.1 sizes k (List.mem_range.2 h)
  simpa [rest, ByteArray.size] using this
theorem findIn_0 (s : ByteArray) : ∀ (l : List ByteArray) (i : Int), (∀ j, j < l.length → l.getD j ⟨#[]⟩ ≠ s) → findIn s l i = 0
  | [], _, _ => rfl
  | a :: l, i, h => by
    have h0 : ¬ a = s := by simpa using h 0 (by simp)
    rw [findIn, if_neg h0]
    exact findIn_0 s l (i + 1) fun j hj => by simpa using h (j + 1) (by simpa using hj)
theorem findIn_at {s : ByteArray} : ∀ (l : List ByteArray) (i : Int) (k : Nat), (∀ j, j < k → l.getD j ⟨#[]⟩ ≠ s) → k < l.length → l.getD k ⟨#[]⟩ = s → findIn s l i = i + k
  | [], _, _, _, h, _ => by simp at h
  | a :: l, i, 0, _, _, h => by
    have : a = s := by simpa using h
    rw [findIn, if_pos this]; simp
  | a :: l, i, k + 1, h, hk, hs => by
    have h0 : ¬ a = s := by simpa using h 0 (by omega)
    have := findIn_at l (i + 1) k (fun j hj => by simpa using h (j + 1) (by omega)) (by simpa using hk) (by simpa using hs)
    rw [findIn, if_neg h0, this]
    omega
theorem find_0 {s : ByteArray} (h : ∀ j, j < 43 → nm j ≠ s) : wFind s = 0 := findIn_0 s nms 1 h
/-- The first place at which the name stands. -/
theorem find_at {s : ByteArray} {k : Nat} (h0 : ∀ j, j < k → nm j ≠ s) (hk : k < 43) (h : nm k = s) : wFind s = (k : Int) + 1 := by
  have := findIn_at (s := s) nms 1 k h0 hk h
  unfold wFind; rw [this]; omega
/-- Each name stands at its own place alone. -/
theorem finds : ((List.range 43).all fun k => decide (wFind (nm k) = (k : Int) + 1)) = true := by decide +kernel
theorem find_nm {k : Nat} (h : k < 43) : wFind (nm k) = (k : Int) + 1 := by
  simpa using List.all_eq_true.1 finds k (List.mem_range.2 h)
theorem filled : (nms.all fun a => decide (a ≠ ⟨#[]⟩)) = true := by decide +kernel
theorem nm_some {k : Nat} (h : k < 43) : nm k ≠ ⟨#[]⟩ := by
  have hm : nm k ∈ nms := by
    rw [nm_at h]
    exact List.getElem_mem _
  simpa using List.all_eq_true.1 filled _ hm
theorem wName_out {n : Int} (h : n < 1 ∨ 43 < n) : wName n = ⟨#[]⟩ := by unfold wName; rw [if_neg (by omega)]
theorem wName_in {n : Int} (h1 : 1 ≤ n) (h2 : n ≤ 43) : wName n = nm (n - 1).toNat := by unfold wName; rw [if_pos ⟨h1, h2⟩]
theorem wName_some {n : Int} (h1 : 1 ≤ n) (h2 : n ≤ 43) : wName n ≠ ⟨#[]⟩ := by rw [wName_in h1 h2]; exact nm_some (by omega)
/-- The table of costs. -/
def costZ (i : Nat) : Int := if (18 ≤ i ∧ i ≤ 21) ∨ (39 ≤ i ∧ i ≤ 41) then 3 else if i = 22 ∨ i = 23 ∨ i = 34 ∨ i = 35 then 2 else 0
theorem wCost_out {n : Int} (h : n < 1 ∨ 43 < n) : wCost n = 0 := by unfold wCost; rw [if_pos h]
theorem wCost_in (k : Nat) (h1 : 1 ≤ k) (h2 : k ≤ 43) : wCost k = max (costZ k) 1 := by
  unfold wCost costZ
  rw [if_neg (by omega)]
  by_cases h3 : (18 ≤ k ∧ k ≤ 21) ∨ (39 ≤ k ∧ k ≤ 41)
  · rw [if_pos (by omega), if_pos h3]; rfl
  · rw [if_neg (by omega), if_neg h3]
    by_cases h4 : k = 22 ∨ k = 23 ∨ k = 34 ∨ k = 35
    · rw [if_pos (by omega), if_pos h4]; rfl
    · rw [if_neg (by omega), if_neg h4]; rfl
/-- The table of shapes, row by row: from, to, and the shape. -/
def loZ (k : Nat) : Int := [1, 24, 31, 32, 33, 34, 39, 40, 41, 42].getD k 44
def hiZ (k : Nat) : Int := [23, 30, 31, 32, 33, 38, 39, 40, 41, 43].getD k 0
def shZ (k : Nat) : ByteArray := [⟨#[100, 97, 98, 45]⟩, ⟨#[100, 97, 45, 45]⟩, ⟨#[100, 97, 45, 115]⟩, ⟨#[100, 97, 45, 117]⟩, ⟨#[100, 45, 45, 117]⟩, ⟨#[100, 97, 45, 117]⟩, ⟨#[45, 45, 45, 117]⟩, ⟨#[100, 45, 45, 117]⟩, ⟨#[45, 97, 45, 45]⟩, ⟨#[45, 45, 45, 45]⟩].getD k ⟨#[]⟩
theorem lo_next {k : Nat} (h : k < 10) : loZ (k + 1) = hiZ k + 1 := by
  match k, h with
  | 0, _ | 1, _ | 2, _ | 3, _ | 4, _ | 5, _ | 6, _ | 7, _ | 8, _ | 9, _ => rfl
theorem lo_bd (k : Nat) : 1 ≤ loZ k ∧ loZ k ≤ 44 := by
  by_cases h : k < 10
  · match k, h with
    | 0, _ | 1, _ | 2, _ | 3, _ | 4, _ | 5, _ | 6, _ | 7, _ | 8, _ | 9, _ => exact ⟨by decide, by decide⟩
  · have e : loZ k = 44 := by unfold loZ; rw [List.getD, List.getElem?_eq_none (by simp; omega)]; rfl
    rw [e]; exact ⟨by decide, by decide⟩
theorem hi_bd {k : Nat} (h : k < 10) : 1 ≤ hiZ k ∧ hiZ k ≤ 43 := by
  match k, h with
  | 0, _ | 1, _ | 2, _ | 3, _ | 4, _ | 5, _ | 6, _ | 7, _ | 8, _ | 9, _ => exact ⟨by decide, by decide⟩
theorem wShape_at {n : Int} {k : Nat} (h : k < 10) (h1 : loZ k ≤ n) (h2 : n ≤ hiZ k) : wShape n = shZ k := by
  match k, h with
  | 0, _ | 1, _ | 2, _ | 3, _ | 4, _ | 5, _ | 6, _ | 7, _ | 8, _ | 9, _ =>
    simp only [loZ, hiZ, List.getD_cons_zero, List.getD_cons_succ] at h1 h2
    unfold wShape
    (repeat' split) <;> first | rfl | omega
theorem wShape_out {n : Int} (h : n < 1 ∨ 43 < n) : wShape n = ⟨#[]⟩ := by unfold wShape; rw [if_pos h]

def wAnd (a b : Int) : Int := sg (wd a &&& wd b)
def wOr (a b : Int) : Int := sg (wd a ||| wd b)
def wXor (a b : Int) : Int := sg (wd a ^^^ wd b)
def wBic (a b : Int) : Int := sg (wd a &&& ~~~wd b)
def wQuo (a b : Int) : Int := wrap32 (a.tdiv b)
def wRest (a b : Int) : Int := a.tmod b
/-- How many bits the amount of a number has. -/
def wLen (a : Int) : Int := (Lib.bitLen a.natAbs : Int)
/-- Of which operations something is reckoned, with b. -/
def wDoes (op b : Int) : Bool := decide (1 ≤ op ∧ op ≤ 30 ∧ (b = 0 → op ≠ 22 ∧ op ≠ 23))
/-- What is reckoned of two words. -/
def wTwo (op a b : Int) : Int :=
  if op = 1 then wrap32 (a + b) else if op = 2 then wrap32 (a - b) else if op = 3 then wCut (a + b) else if op = 4 then wCut (a - b)
  else if op = 5 then wAnd a b else if op = 6 then wOr a b else if op = 7 then wXor a b else if op = 8 then wBic a b
  else if op = 9 then wShl a b else if op = 10 then wShr a b else if op = 11 then wSar a b else if op = 12 then wRol a b
  else if op = 13 then wLess a b else if op = 14 then wUnder a b else if op = 15 then wSame a b else if op = 16 then wMin a b else if op = 17 then wMax a b
  else if op = 18 then wMull a b else if op = 19 then wMulh a b else if op = 20 then wMulq a b else if op = 21 then wMulr a b
  else if op = 22 then wQuo a b else wRest a b
/-- What is reckoned of one word. -/
def wOne (op a : Int) : Int :=
  if op = 24 then wClz a else if op = 25 then wCut (-a) else if op = 26 then wAbs a else if op = 27 then wMask a else if op = 28 then wSign a
  else if op = 29 then wrap16 a else wSar a 16
def wDo (op a b : Int) : Int := if wDoes op b = false then 0 else if op ≤ 23 then wTwo op a b else wOne op a
/-- What an operation costs with a. -/
def wCostA (op a : Int) : Int := wCost op + if op = 22 ∨ op = 23 then wLen a else 0

theorem wDoes_out {op b : Int} (h : op < 1 ∨ 30 < op) : wDoes op b = false := decide_eq_false (by omega)
theorem wDoes_0 {op : Int} (h : op = 22 ∨ op = 23) : wDoes op 0 = false := decide_eq_false (by omega)
theorem wDoes_div {op b : Int} (h : op = 22 ∨ op = 23) (hb : b ≠ 0) : wDoes op b = true := decide_eq_true (by omega)
theorem wDoes_in {op b : Int} (h1 : 1 ≤ op) (h2 : op ≤ 30) (h3 : op ≠ 22) (h4 : op ≠ 23) : wDoes op b = true := decide_eq_true (by omega)
theorem wDo_none {op a b : Int} (h : wDoes op b = false) : wDo op a b = 0 := by unfold wDo; rw [if_pos h]
theorem wDo_two {op a b : Int} (h : wDoes op b = true) (h2 : op ≤ 23) : wDo op a b = wTwo op a b := by unfold wDo; rw [if_neg (by rw [h]; decide), if_pos h2]
theorem wDo_one {op a b : Int} (h : wDoes op b = true) (h2 : 23 < op) : wDo op a b = wOne op a := by unfold wDo; rw [if_neg (by rw [h]; decide), if_neg (by omega)]

theorem wLen_bd {a : Int} (h1 : -2147483648 ≤ a) (h2 : a ≤ 2147483647) : 0 ≤ wLen a ∧ wLen a ≤ 32 := by
  have hx : a.natAbs < 2 ^ 32 := by omega
  obtain ⟨_, l2⟩ := bitLen_hi 32 a.natAbs hx (by decide)
  unfold wLen
  by_cases h : a.natAbs = 0
  · rw [h]; decide
  · have l3 := l2 h
    refine ⟨by omega, ?_⟩
    have : Lib.bitLen a.natAbs ≤ 32 := by
      apply Nat.le_of_not_lt; intro hlt
      have := Nat.pow_le_pow_right (n := 2) (by decide) hlt
      have e : (2 : Nat) ^ Nat.succ 32 = 8589934592 := by decide
      omega
    omega
/-- The amount as a row of bits: flipped by its own sign. -/
theorem flip_sign {a : Int} (h1 : -2147483648 ≤ a) (h2 : a ≤ 2147483647) : us (wd (wFlip a (wSign a))) = (a.natAbs : Int) := by
  unfold wFlip wSign
  by_cases h : a < 0
  · rw [if_pos h, wd_m1, BitVec.xor_allOnes, wd_wrap, us_wd]
    have e : sg (~~~(wd a)) = -1 - a := by
      have h3 : ~~~(wd a) = wd (-1 - a) := us_inj (by
        have h4 : us (~~~(wd a)) = 4294967295 - us (wd a) := by
          have := (wd a).isLt
          unfold us; rw [BitVec.toNat_not]; omega
        rw [h4, us_wd, us_wd]; omega)
      rw [h3, sg_wd_in (by omega) (by omega)]
    rw [e]; omega
  · rw [if_neg h, wd_0, BitVec.xor_zero, wd_wrap, us_wd]
    rw [sg_wd_in h1 h2]; omega
theorem len_clz {a : Int} (h1 : -2147483648 ≤ a) (h2 : a ≤ 2147483647) : 32 - wClz (wFlip a (wSign a)) = wLen a := by
  have e := clz_len (wd (wFlip a (wSign a)))
  have f := flip_sign h1 h2
  have g : (wd (wFlip a (wSign a))).toNat = a.natAbs := by unfold us at f; omega
  unfold wClz wLen
  rw [e, g]; omega

/-- A call that only makes new memory, in a walk that began at w0. -/
theorem keep {P : Program} {f : FuncId} {args : Array Value} {w w0 : World} {B : Nat} {v : Value}
    (hc : Calls P f args w fun e w' => e = .returned v ∧ Below w.heap.size w w') (hb : Below B w0 w) (hB : B ≤ w.heap.size) :
    Calls P f args w fun e w' => e = .returned v ∧ Below B w0 w' ∧ B ≤ w'.heap.size :=
  hc.mono fun _ _ ⟨he, h⟩ => ⟨he, hb.trans (h.mono hB), Nat.le_trans hB h.size⟩

/-- The cells of an array of n integers. -/
def row (n : Nat) (k : IntKind) (f : Nat → Int) : Array Value := Array.ofFn (n := n) fun i => Value.int k (f i.val)
/-- The place i holds v, the others what they held. -/
def upd (f : Nat → Int) (i : Nat) (v : Int) (j : Nat) : Int := if j = i then v else f j

theorem row_size (n : Nat) (k : IntKind) (f : Nat → Int) : (row n k f).size = n := by simp [row]
theorem row_get {n : Nat} (k : IntKind) (f : Nat → Int) {i : Nat} (h : i < n) : (row n k f)[i]? = some (.int k (f i)) := by
  simp [row, h]
theorem row_set {n : Nat} (k : IntKind) (f : Nat → Int) (i : Nat) (v : Int) : (row n k f).setIfInBounds i (.int k v) = row n k (upd f i v) := by
  apply Array.ext_getElem?
  intro j
  by_cases h : j < n
  · rw [row_get k _ h]
    by_cases hj : j = i
    · subst hj
      simp [upd, row_size, h]
    · simp [upd, Ne.symm hj, hj, row_get k f h]
  · have e1 : (row n k (upd f i v))[j]? = none := by simp [row_size, Nat.not_lt.1 h]
    have e2 : ((row n k f).setIfInBounds i (.int k v))[j]? = none := by simp [row_size, Nat.not_lt.1 h]
    rw [e1, e2]
theorem row_ext {n : Nat} (k : IntKind) {f g : Nat → Int} (h : ∀ i, i < n → f i = g i) : row n k f = row n k g := by
  unfold row
  congr 1
  funext i
  rw [h i.val i.isLt]
theorem row_ones (n : Nat) (k : IntKind) (f : Nat → Int) : (row n k f).all (·.oneCell') = true := by
  rw [Array.all_eq_true]
  intro i h
  simp [row, Value.oneCell']
theorem row_32 : #[Value.int .i64 0, Value.int .i64 0, Value.int .i64 0, Value.int .i64 0, Value.int .i64 0, Value.int .i64 0, Value.int .i64 0, Value.int .i64 0,
    Value.int .i64 0, Value.int .i64 0, Value.int .i64 0, Value.int .i64 0, Value.int .i64 0, Value.int .i64 0, Value.int .i64 0, Value.int .i64 0,
    Value.int .i64 0, Value.int .i64 0, Value.int .i64 0, Value.int .i64 0, Value.int .i64 0, Value.int .i64 0, Value.int .i64 0, Value.int .i64 0,
    Value.int .i64 0, Value.int .i64 0, Value.int .i64 0, Value.int .i64 0, Value.int .i64 0, Value.int .i64 0, Value.int .i64 0, Value.int .i64 0] = row 32 .i64 fun _ => 0 := by rfl

theorem setRow_alloc_new (w : World) (c c' : Array Value) (t : TypeId) : (w.alloc (.cells c t)).setRow w.heap.size c' = w.alloc (.cells c' t) := by
  unfold World.setRow World.alloc
  congr 1
  apply Array.ext_getElem?
  intro k
  rw [Array.getElem?_modify]
  by_cases hk : w.heap.size = k
  · subst hk; simp
  · have hk' : k ≠ w.heap.size := fun e => hk e.symm
    simp [hk, hk', Array.getElem?_push]
theorem setRow_alloc_past (w : World) (o : Obj) (g : Nat) (c : Array Value) (h : g < w.heap.size) : (w.alloc o).setRow g c = (w.setRow g c).alloc o := by
  unfold World.setRow World.alloc
  congr 1
  apply Array.ext_getElem?
  intro k
  simp only [Array.getElem?_modify, Array.getElem?_push, Array.size_modify]
  by_cases hk : k = w.heap.size
  · subst hk; simp [Nat.ne_of_lt h]
  · simp [hk]
theorem heap_at0 (w : World) (o o' : Obj) : ((w.alloc o).alloc o').heap[w.heap.size]? = some o := by
  rw [Below.heap_alloc _ _ _ (by simp)]; exact heap_alloc_new w o
theorem heap_at1 (w : World) (o o' : Obj) : ((w.alloc o).alloc o').heap[w.heap.size + 1]? = some o' := by
  have := heap_alloc_new (w.alloc o) o'
  rwa [World.size_alloc] at this
theorem heap_lt (w : World) (o : Obj) (n : Nat) (h : n < w.heap.size) : (w.alloc o).heap[n]? = w.heap[n]? := Below.heap_alloc w o n h
theorem heap_atn (w : World) (o : Obj) (n : Nat) (h : n = w.heap.size) : (w.alloc o).heap[n]? = some o := by
  subst h; exact heap_alloc_new w o
theorem setRow_atn (w : World) (c c' : Array Value) (t : TypeId) (n : Nat) (h : n = w.heap.size) : (w.alloc (.cells c t)).setRow n c' = w.alloc (.cells c' t) := by
  subst h; exact setRow_alloc_new w c c' t

theorem at2_0 (w : World) (o0 o1 : Obj) (n : Nat) (h : n = w.heap.size) : ((w.alloc o0).alloc o1).heap[n]? = some o0 := by
  rw [heap_lt _ _ _ (by rw [World.size_alloc]; omega), heap_atn _ _ _ h]
theorem at2_1 (w : World) (o0 o1 : Obj) (n : Nat) (h : n = w.heap.size + 1) : ((w.alloc o0).alloc o1).heap[n]? = some o1 := by
  rw [heap_atn _ _ _ (by rw [World.size_alloc]; omega)]
theorem at3_0 (w : World) (o0 o1 o2 : Obj) (n : Nat) (h : n = w.heap.size) : (((w.alloc o0).alloc o1).alloc o2).heap[n]? = some o0 := by
  rw [heap_lt _ _ _ (by rw [World.size_alloc, World.size_alloc]; omega), at2_0 _ _ _ _ h]
theorem at3_1 (w : World) (o0 o1 o2 : Obj) (n : Nat) (h : n = w.heap.size + 1) : (((w.alloc o0).alloc o1).alloc o2).heap[n]? = some o1 := by
  rw [heap_lt _ _ _ (by rw [World.size_alloc, World.size_alloc]; omega), at2_1 _ _ _ _ h]
theorem at3_2 (w : World) (o0 o1 o2 : Obj) (n : Nat) (h : n = w.heap.size + 2) : (((w.alloc o0).alloc o1).alloc o2).heap[n]? = some o2 := by
  rw [heap_atn _ _ _ (by rw [World.size_alloc, World.size_alloc]; omega)]
theorem set2_0 (w : World) (c c' : Array Value) (t : TypeId) (o1 : Obj) (n : Nat) (h : n = w.heap.size) : ((w.alloc (.cells c t)).alloc o1).setRow n c' = (w.alloc (.cells c' t)).alloc o1 := by
  rw [setRow_alloc_past _ _ _ _ (by rw [World.size_alloc]; omega), setRow_atn _ _ _ _ _ h]
theorem set2_1 (w : World) (c c' : Array Value) (t : TypeId) (o0 : Obj) (n : Nat) (h : n = w.heap.size + 1) : ((w.alloc o0).alloc (.cells c t)).setRow n c' = (w.alloc o0).alloc (.cells c' t) := by
  rw [setRow_atn _ _ _ _ _ (by rw [World.size_alloc]; omega)]
theorem set3_0 (w : World) (c c' : Array Value) (t : TypeId) (o1 o2 : Obj) (n : Nat) (h : n = w.heap.size) : (((w.alloc (.cells c t)).alloc o1).alloc o2).setRow n c' = ((w.alloc (.cells c' t)).alloc o1).alloc o2 := by
  rw [setRow_alloc_past _ _ _ _ (by rw [World.size_alloc, World.size_alloc]; omega), set2_0 _ _ _ _ _ _ h]
theorem set3_1 (w : World) (c c' : Array Value) (t : TypeId) (o0 o2 : Obj) (n : Nat) (h : n = w.heap.size + 1) : (((w.alloc o0).alloc (.cells c t)).alloc o2).setRow n c' = ((w.alloc o0).alloc (.cells c' t)).alloc o2 := by
  rw [setRow_alloc_past _ _ _ _ (by rw [World.size_alloc, World.size_alloc]; omega), set2_1 _ _ _ _ _ _ h]
theorem set3_2 (w : World) (c c' : Array Value) (t : TypeId) (o0 o1 : Obj) (n : Nat) (h : n = w.heap.size + 2) : (((w.alloc o0).alloc o1).alloc (.cells c t)).setRow n c' = ((w.alloc o0).alloc o1).alloc (.cells c' t) := by
  rw [setRow_atn _ _ _ _ _ (by rw [World.size_alloc, World.size_alloc]; omega)]
theorem heap_drewN (w : World) (d : Nat) : (w.drewN d).heap = w.heap := rfl
theorem setCell_drewN' (w : World) (d : Nat) (a : Addr) (v : Value) : (w.drewN d).setCell a v = (w.setCell a v).drewN d := rfl
theorem drewN_drew' (w : World) (d : Nat) : (w.drewN d).drew = w.drewN (d + 1) := rfl
theorem below2 {B : Nat} {w w1 : World} (hb : Below B w w1) (hB : B ≤ w1.heap.size) (o0 o1 : Obj) : Below B w ((w1.alloc o0).alloc o1) :=
  (hb.alloc hB _).alloc (by rw [World.size_alloc]; omega) _
theorem below3 {B : Nat} {w w1 : World} (hb : Below B w w1) (hB : B ≤ w1.heap.size) (o0 o1 o2 : Obj) : Below B w (((w1.alloc o0).alloc o1).alloc o2) :=
  (below2 hb hB _ _).alloc (by rw [World.size_alloc, World.size_alloc]; omega) _

/-- A call in a region that reads cells which lay there since w0. -/
theorem keepF {P : Program} {f : FuncId} {args : Array Value} {w w0 : World} {B : Nat} {v : Value} {F : World → Prop} (hF : ∀ w', Below B w0 w' → F w')
    (hc : Calls P f args w fun e w' => e = .returned v ∧ Below w.heap.size w w') (hS : F w ∧ Below B w0 w ∧ B ≤ w.heap.size) :
    Calls P f args w fun e w' => e = .returned v ∧ (F w' ∧ Below B w0 w' ∧ B ≤ w'.heap.size) :=
  hc.mono fun _ _ ⟨he, h⟩ => ⟨he, hF _ (hS.2.1.trans (h.mono hS.2.2)), hS.2.1.trans (h.mono hS.2.2), Nat.le_trans hS.2.2 h.size⟩

end Go.Proofs.YtekhgidbnpfmnaaGreatDoor
