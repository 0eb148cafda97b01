/- The plain facts of the laws on masks, comparisons, and which of two. Nothing of any program. -/
import Derived.Test.YtoagijojmkcfnaaPickD
namespace Go.Proofs.Ytoagijojmkcfnaa
open Go.RowKit

theorem sel_mask (x : Int) {a b : Int} (h1 : -2147483648 ≤ a) (h2 : a ≤ 2147483647) (h3 : -2147483648 ≤ b) (h4 : b ≤ 2147483647) : wSel (wMask x) a b = if x = 0 then b else a := by
  unfold wMask; split
  · exact wSel_0 h3 h4
  · exact wSel_m1 h1 h2
theorem not_mask (x : Int) : bits .xor .i32 (-1) (wMask x) = if x = 0 then -1 else 0 := by
  unfold wMask; split <;> decide +kernel
theorem sel_nmask (x : Int) {a b : Int} (h1 : -2147483648 ≤ a) (h2 : a ≤ 2147483647) (h3 : -2147483648 ≤ b) (h4 : b ≤ 2147483647) : wSel (bits .xor .i32 (-1) (wMask x)) b a = if x = 0 then b else a := by
  rw [not_mask]; split
  · exact wSel_m1 h3 h4
  · exact wSel_0 h1 h2
theorem allOnes_xor (b : BitVec 32) : BitVec.allOnes 32 ^^^ b = ~~~b := by
  apply BitVec.eq_of_getLsbD_eq
  intro i hi
  rw [BitVec.getLsbD_xor, BitVec.getLsbD_not, BitVec.getLsbD_allOnes]
  simp [hi]
theorem sel_other (x a b : Int) : wSel (bits .xor .i32 (-1) x) b a = wSel x a b := by
  unfold wSel
  rw [bits_i32_xor, wd_sg, wd_m1, allOnes_xor, BitVec.not_not, BitVec.or_comm]
theorem sel_less {a b : Int} (h1 : -2147483648 ≤ a) (h2 : a ≤ 2147483647) (h3 : -2147483648 ≤ b) (h4 : b ≤ 2147483647) : wSel (-wLess a b) a b = wMin a b := by
  unfold wLess wMin; split
  · exact wSel_m1 h1 h2
  · exact wSel_0 h3 h4
theorem one_of_less (a b : Int) : wLess a b + wLess b a + wSame a b = 1 := by
  unfold wLess wSame; split <;> split <;> split <;> omega
theorem one_of_under {a b : Int} (h1 : -2147483648 ≤ a) (h2 : a ≤ 2147483647) (h3 : -2147483648 ≤ b) (h4 : b ≤ 2147483647) : wUnder a b + wUnder b a + wSame a b = 1 := by
  unfold wUnder wSame; split <;> split <;> split <;> omega
theorem signs_under {a b : Int} (h1 : -2147483648 ≤ a) (h2 : a ≤ 2147483647) (h3 : -2147483648 ≤ b) (h4 : b ≤ 2147483647) :
    (wSign a = wSign b ∧ wLess a b = wUnder a b) ∨ (wSign a ≠ wSign b ∧ wLess a b ≠ wUnder a b) := by
  unfold wSign wLess wUnder; split <;> split <;> split <;> split <;> omega
theorem min_max (a b : Int) : wMin a b ≤ wMax a b ∧ wMin a b + wMax a b = a + b ∧ (wMin a b = a ∨ wMin a b = b) := by
  unfold wMin wMax; split <;> omega
theorem min_in {a b : Int} (h1 : -2147483648 ≤ a) (h2 : a ≤ 2147483647) (h3 : -2147483648 ≤ b) (h4 : b ≤ 2147483647) : -2147483648 ≤ wMin a b ∧ wMin a b ≤ 2147483647 := by
  unfold wMin; split <;> omega
theorem max_in {a b : Int} (h1 : -2147483648 ≤ a) (h2 : a ≤ 2147483647) (h3 : -2147483648 ≤ b) (h4 : b ≤ 2147483647) : -2147483648 ≤ wMax a b ∧ wMax a b ≤ 2147483647 := by
  unfold wMax; split <;> omega
theorem flip_0 {x : Int} (h1 : -2147483648 ≤ x) (h2 : x ≤ 2147483647) : wFlip x 0 = x := by
  unfold wFlip; rw [wd_0, BitVec.xor_zero, sg_wd_in h1 h2]; unfold wrap32; omega
theorem sg_not (b : BitVec 32) : sg (~~~b) = -1 - sg b := by
  have e : sg (~~~b) = -sg b - 1 := by
    have h := us_bd b
    rw [sg_us, sg_us]
    have : us (~~~b) = 4294967295 - us b := by
      have k := b.isLt
      unfold us; rw [BitVec.toNat_not]; omega
    rw [this]; unfold wrap32; omega
  omega
theorem flip_m1 {x : Int} (h1 : -2147483648 ≤ x) (h2 : x ≤ 2147483647) : wFlip x (-1) = wrap32 (-x) := by
  unfold wFlip; rw [wd_m1, BitVec.xor_comm, allOnes_xor, sg_not, sg_wd_in h1 h2]; congr 1; omega
theorem flip_sign {x : Int} (h1 : -2147483648 ≤ x) (h2 : x ≤ 2147483647) : 0 ≤ wFlip x (wSign x) ∨ x = -2147483648 := by
  unfold wSign; split
  · rw [flip_m1 h1 h2]; unfold wrap32; omega
  · rw [flip_0 h1 h2]; omega
theorem flip_back {x : Int} (h1 : -2147483648 ≤ x) (h2 : x ≤ 2147483647) : wFlip (wFlip x (wSign x)) (wSign x) = x := by
  have hb := wFlip_bd x (-1)
  unfold wSign; split
  · rw [flip_m1 hb.1 hb.2, flip_m1 h1 h2]; unfold wrap32; omega
  · rw [flip_0 h1 h2, flip_0 h1 h2]
end Go.Proofs.Ytoagijojmkcfnaa
