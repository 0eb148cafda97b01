/- What Go's math/bits.Reverse32, ReverseBytes32 and RotateLeft32 answer, over their own text. Conditions: the number is of the kind uint32; turned by less than 32. -/
import Derived.Test.YtbcfmlcfkihenaaProg
import Derived.Test.YtbcfmlcfkihenaaShiftM
import Derived.Lib.Hide
namespace Go.Proofs.Ytbcfmlcfkihenaa
open Go.RowKit

/-- Neighbours of a width change places. -/
def fl (k i : Nat) : Nat := if i / k % 2 = 0 then i + k else i - k
def swp (b M : BitVec 32) (k : Nat) : BitVec 32 := b >>> k &&& M ||| (b &&& M) <<< k
theorem swp_bit (b M : BitVec 32) (k : Nat) (hk : k = 1 ∨ k = 2 ∨ k = 4 ∨ k = 8 ∨ k = 16) (hM : ∀ i, i < 32 → M.getLsbD i = decide (i / k % 2 = 0)) (i : Nat) (hi : i < 32) :
    (swp b M k).getLsbD i = b.getLsbD (fl k i) := by
  unfold swp fl
  simp only [BitVec.getLsbD_or, BitVec.getLsbD_and, BitVec.getLsbD_ushiftRight, BitVec.getLsbD_shiftLeft, hi, decide_true, Bool.true_and]
  rw [hM i hi, hM (i - k) (by omega)]
  by_cases h : i / k % 2 = 0
  · have h2 : i < k ∨ ¬ (i - k) / k % 2 = 0 := by rcases hk with rfl | rfl | rfl | rfl | rfl <;> omega
    rw [if_pos h, Nat.add_comm i k]
    rcases h2 with h2 | h2 <;> simp [h, h2]
  · have h2 : ¬ i < k := by rcases hk with rfl | rfl | rfl | rfl | rfl <;> omega
    have h3 : (i - k) / k % 2 = 0 := by rcases hk with rfl | rfl | rfl | rfl | rfl <;> omega
    rw [if_neg h]
    simp [h, h2, h3]
theorem fl_lt (k i : Nat) (hk : k = 1 ∨ k = 2 ∨ k = 4 ∨ k = 8 ∨ k = 16) (hi : i < 32) : fl k i < 32 := by
  unfold fl
  rcases hk with rfl | rfl | rfl | rfl | rfl <;> split <;> omega
theorem fl_all : ∀ i : Fin 32, fl 1 (fl 2 (fl 4 (fl 8 (fl 16 i.val)))) = 31 - i.val := by decide

theorem mask_bit (M : BitVec 32) (k : Nat) (h : ∀ i : Fin 32, M.getLsbD i.val = decide (i.val / k % 2 = 0)) (i : Nat) (hi : i < 32) : M.getLsbD i = decide (i / k % 2 = 0) := h ⟨i, hi⟩
theorem m1 : ∀ i : Fin 32, (1431655765#32).getLsbD i.val = decide (i.val / 1 % 2 = 0) := by decide
theorem m2 : ∀ i : Fin 32, (858993459#32).getLsbD i.val = decide (i.val / 2 % 2 = 0) := by decide
theorem m4 : ∀ i : Fin 32, (252645135#32).getLsbD i.val = decide (i.val / 4 % 2 = 0) := by decide
theorem m8 : ∀ i : Fin 32, (16711935#32).getLsbD i.val = decide (i.val / 8 % 2 = 0) := by decide

def revB (b : BitVec 32) : BitVec 32 := swp b 16711935#32 8 >>> 16 ||| swp b 16711935#32 8 <<< 16
theorem half_bit (c : BitVec 32) (i : Nat) (hi : i < 32) : (c >>> 16 ||| c <<< 16).getLsbD i = c.getLsbD (fl 16 i) := by
  unfold fl
  simp only [BitVec.getLsbD_or, BitVec.getLsbD_ushiftRight, BitVec.getLsbD_shiftLeft, hi, decide_true, Bool.true_and]
  by_cases h : i < 16
  · rw [if_pos (by omega), Nat.add_comm i 16]; simp [h]
  · rw [if_neg (by omega), BitVec.getLsbD_of_ge c (16 + i) (by omega)]; simp [h]
theorem rev_bits (b : BitVec 32) : revB (swp (swp (swp b 1431655765#32 1) 858993459#32 2) 252645135#32 4) = b.reverse := by
  apply BitVec.eq_of_getLsbD_eq
  intro i hi
  have a16 := fl_lt 16 i (by omega) hi
  have a8 := fl_lt 8 _ (by omega) a16
  have a4 := fl_lt 4 _ (by omega) a8
  have a2 := fl_lt 2 _ (by omega) a4
  unfold revB
  rw [half_bit _ i hi, swp_bit _ _ 8 (by omega) (mask_bit _ 8 m8) _ a16, swp_bit _ _ 4 (by omega) (mask_bit _ 4 m4) _ a8, swp_bit _ _ 2 (by omega) (mask_bit _ 2 m2) _ a4,
    swp_bit _ _ 1 (by omega) (mask_bit _ 1 m1) _ a2, fl_all ⟨i, hi⟩, BitVec.getLsbD_reverse, BitVec.getMsbD]
  simp [hi]

theorem ret_u32 {a b : Int} (h : a = b) : Ending.returned (.int .u32 a) = .returned (.int .u32 b) := by rw [h]

theorem and_u64_31 (k : Nat) (hk : k < 32) : bits .and .u64 (k : Int) 31 = (k : Int) := by
  have h : ∀ i : Fin 32, bits .and .u64 (i.val : Int) 31 = (i.val : Int) := by decide
  exact h ⟨k, hk⟩

theorem rot32_is (b : BitVec 32) (k : Nat) (w : World) (hk : k < 32) :
    Calls Try.prog 103 #[.int .u32 (us b), .int .i64 k] w fun e w' => e = .returned (.int .u32 (us (b.rotateLeft k))) ∧ w = w' := by
  have hb := us_bd b
  have e1 := and_u64_31 k hk
  go_enter Try.func103, Try.ntmps103
  go_wp2
  go_ret
  refine ⟨ret_u32 ?_, rfl⟩
  rw [← rol_bits b k hk, ← us_wd, wd_mul_pow, wd_us, us_shr, bits_u32_or, wd_us, wd_us]

theorem swp_word (b M : BitVec 32) (k : Nat) (m p : Int) (hm : m = us M) (hp : p = 2 ^ k) :
    bits .or .u32 (bits .and .u32 (us b / p) m) (bits .and .u32 (us b) m * p % 4294967296) = us (swp b M k) := by
  subst hm hp
  unfold swp
  rw [bits_u32_and, bits_u32_and, us_shr, wd_us, wd_us, wd_us, ← us_wd, wd_mul_pow, bits_u32_or, wd_us, wd_us, wd_us]

end Go.Proofs.Ytbcfmlcfkihenaa
