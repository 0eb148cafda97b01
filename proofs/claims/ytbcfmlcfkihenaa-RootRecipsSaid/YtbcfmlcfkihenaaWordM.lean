/- Plain numbers: what shifting, or-ing and cutting do to integers. Nothing of any program. No conditions beyond each line's own. -/
import Derived.WalkKit
import Derived.PlainAid
namespace Go.Proofs.Ytbcfmlcfkihenaa
open Go.RowKit

/-- The lowest 16 bits, with a sign. -/
def wrap16 (n : Int) : Int := (n + 32768) % 65536 - 32768

theorem wrap_i16 (n : Int) : IntKind.i16.wrap n = wrap16 n := by
  unfold wrap16
  simp [IntKind.wrap, IntKind.bits, IntKind.signed]
  split <;> omega

theorem toNat_or_add (i a b : Nat) (ha : a % 2 ^ i = 0) (hb : b < 2 ^ i) : a ||| b = a + b := by
  have hq : a = 2 ^ i * (a / 2 ^ i) := by have := Nat.div_add_mod a (2 ^ i); omega
  rw [hq, ← Nat.two_pow_add_eq_or_of_lt hb]

/-- Or-ing a number whose lowest i bits are 0 with one of i bits is their sum. -/
theorem bits_or_add (k : IntKind) (i : Nat) (hi : i ≤ k.bits) (x y : Int) (hx : x % 2 ^ i = 0) (hy0 : 0 ≤ y) (hy : y < 2 ^ i) :
    bits .or k x y = k.wrap (((x % 2 ^ k.bits).toNat + y.toNat : Nat) : Int) := by
  have hb : y.toNat < 2 ^ i := by
    have : ((y.toNat : Nat) : Int) < ((2 ^ i : Nat) : Int) := by rw [Int.toNat_of_nonneg hy0]; simpa using hy
    exact_mod_cast this
  have hp : 2 ^ i ≤ 2 ^ k.bits := Nat.pow_le_pow_right (by decide) hi
  have hyk : (y % 2 ^ k.bits).toNat = y.toNat := by
    have : y % 2 ^ k.bits = y := Int.emod_eq_of_lt hy0 (by
      have : (2 : Int) ^ i ≤ 2 ^ k.bits := by exact_mod_cast hp
      omega)
    rw [this]
  have ha : (x % 2 ^ k.bits).toNat % 2 ^ i = 0 := by
    have hd : ((2 : Int) ^ i) ∣ 2 ^ k.bits := by
      obtain ⟨d, hd⟩ := Nat.exists_eq_add_of_le hi
      exact ⟨2 ^ d, by rw [hd, Int.pow_add]⟩
    have h1 : x % 2 ^ k.bits % 2 ^ i = 0 := by rw [Int.emod_emod_of_dvd _ hd]; exact hx
    have h0 : 0 ≤ x % 2 ^ k.bits := Int.emod_nonneg _ (by
      have : (0 : Int) < 2 ^ k.bits := Int.pow_pos (by decide)
      omega)
    have h2 : (((x % 2 ^ k.bits).toNat % 2 ^ i : Nat) : Int) = 0 := by
      rw [Int.natCast_emod, Int.toNat_of_nonneg h0]; simpa using h1
    exact_mod_cast h2
  show k.wrap ((BitVec.ofInt k.bits x ||| BitVec.ofInt k.bits y).toNat : Int) = _
  rw [BitVec.toNat_or, BitVec.toNat_ofInt, BitVec.toNat_ofInt]
  have e1 : (x % ((2 ^ k.bits : Nat) : Int)).toNat = (x % 2 ^ k.bits).toNat := by simp
  have e2 : (y % ((2 ^ k.bits : Nat) : Int)).toNat = (y % 2 ^ k.bits).toNat := by simp
  rw [e1, e2, hyk, toNat_or_add i _ _ ha hb]

/-- And-ing with i ones: the lowest i bits, from 0 on. -/
theorem bits_and_mask (k : IntKind) (i : Nat) (hi : i ≤ k.bits) (x : Int) : bits .and k x (2 ^ i - 1) = k.wrap (x % 2 ^ i) := by
  have hpos : 0 < 2 ^ i := Nat.two_pow_pos i
  have hp : 2 ^ i ≤ 2 ^ k.bits := Nat.pow_le_pow_right (by decide) hi
  have hd : ((2 : Int) ^ i) ∣ 2 ^ k.bits := by
    obtain ⟨d, hd⟩ := Nat.exists_eq_add_of_le hi
    exact ⟨2 ^ d, by rw [hd, Int.pow_add]⟩
  have h0 : 0 ≤ x % 2 ^ k.bits := Int.emod_nonneg _ (by
    have : (0 : Int) < 2 ^ k.bits := Int.pow_pos (by decide)
    omega)
  have hc : ((2 : Int) ^ i - 1) = ((2 ^ i - 1 : Nat) : Int) := by
    rw [Int.natCast_sub hpos]; simp
  show k.wrap ((BitVec.ofInt k.bits x &&& BitVec.ofInt k.bits (2 ^ i - 1)).toNat : Int) = _
  rw [BitVec.toNat_and, BitVec.toNat_ofInt, hc, BitVec.ofInt_natCast, BitVec.toNat_ofNat, Nat.mod_eq_of_lt (by omega), Nat.and_two_pow_sub_one_eq_mod, Int.natCast_emod]
  have e1 : (x % ((2 ^ k.bits : Nat) : Int)).toNat = (x % 2 ^ k.bits).toNat := by simp
  rw [e1, Int.toNat_of_nonneg h0]
  congr 1
  have e2 : ((2 ^ i : Nat) : Int) = 2 ^ i := by simp
  rw [e2, Int.emod_emod_of_dvd _ hd]

theorem and_i32_16 (x : Int) : bits .and .i32 x 65535 = x % 65536 := by
  have h := bits_and_mask .i32 16 (by decide) x
  have e1 : ((2 : Int) ^ 16 - 1) = 65535 := by decide
  have e2 : ((2 : Int) ^ 16) = 65536 := by decide
  rw [e1, e2] at h
  rw [h]
  exact IntWalk.i32_in _ (by omega)

theorem or_i64_32 (x y : Int) (hx : -2147483648 ≤ x ∧ x ≤ 2147483647) (hy : 0 ≤ y ∧ y < 4294967296) :
    bits .or .i64 (x * 4294967296) y = x * 4294967296 + y := by
  rw [bits_or_add .i64 32 (by decide) _ _ (by omega) hy.1 (by omega), IntKind.wrap_i64]
  simp only [IntKind.bits]
  omega

theorem or_i32_8 (x y : Int) (hx : -8388608 ≤ x ∧ x ≤ 8388607) (hy : 0 ≤ y ∧ y < 256) :
    bits .or .i32 (x * 256) y = x * 256 + y := by
  rw [bits_or_add .i32 8 (by decide) _ _ (by omega) hy.1 (by omega), IntKind.wrap_i32]
  simp only [IntKind.bits]
  omega

theorem or_i32_w (x y : Int) (hy : 0 ≤ y ∧ y ≤ 255) : bits .or .i32 (wrap32 (x * 256)) y = wrap32 (x * 256 + y) := by
  rw [bits_or_add .i32 8 (by decide) _ _ (by unfold wrap32; omega) hy.1 (by omega), IntKind.wrap_i32]
  simp only [IntKind.bits]
  unfold wrap32
  omega

/-- The number of the first k bytes, cut to a word at each of them; and uncut. -/
def accW (z : Nat → Int) : Nat → Int
  | 0 => 0
  | k + 1 => wrap32 (accW z k * 256 + z k)
def accN (z : Nat → Int) : Nat → Int
  | 0 => 0
  | k + 1 => 256 * accN z k + z k

theorem accW_eq (z : Nat → Int) : accW z 4 = wrap32 (accN z 4) := by
  simp only [accW, accN]
  unfold wrap32
  omega

theorem accN_bd (z : Nat → Int) (hz : ∀ i, i < 4 → 0 ≤ z i ∧ z i ≤ 255) (k : Nat) (hk : k ≤ 4) : 0 ≤ accN z k ∧ accN z k ≤ 4294967295 := by
  have h0 := hz 0 (by omega)
  have h1 := hz 1 (by omega)
  have h2 := hz 2 (by omega)
  have h3 := hz 3 (by omega)
  obtain rfl | rfl | rfl | rfl | rfl : k = 0 ∨ k = 1 ∨ k = 2 ∨ k = 3 ∨ k = 4 := by omega
  all_goals simp only [accN]; omega

/-- The four bytes of a word, the highest first. -/
def byt (x : Int) (i : Nat) : Int := match i with | 0 => x / 16777216 % 256 | 1 => x / 65536 % 256 | 2 => x / 256 % 256 | _ => x % 256

theorem byt_bd (x : Int) (i : Nat) : 0 ≤ byt x i ∧ byt x i ≤ 255 := by unfold byt; split <;> omega
theorem byt_word (x : Int) (h1 : -2147483648 ≤ x) (h2 : x ≤ 2147483647) : wrap32 (accN (byt x) 4) = x := by
  simp only [accN, byt]; unfold wrap32; omega

end Go.Proofs.Ytbcfmlcfkihenaa
