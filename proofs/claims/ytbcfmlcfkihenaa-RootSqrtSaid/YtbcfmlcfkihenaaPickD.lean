/- Masks, comparisons, and which of two, as plain functions of integers. Nothing of any program. -/
import Derived.Test.YtbcfmlcfkihenaaBvM
namespace Go.Proofs.Ytbcfmlcfkihenaa
open Go.RowKit

def wMask (x : Int) : Int := if x = 0 then 0 else -1
def wSign (x : Int) : Int := if x < 0 then -1 else 0
def wSel (m a b : Int) : Int := sg (wd a &&& wd m ||| wd b &&& ~~~wd m)
/-- -1 of what is less. -/
def wBelow (a b : Int) : Int := if a < b then -1 else 0
def wLess (a b : Int) : Int := if a < b then 1 else 0
def wUnder (a b : Int) : Int := if a % 4294967296 < b % 4294967296 then 1 else 0
def wSame (a b : Int) : Int := if a = b then 1 else 0
def wMin (a b : Int) : Int := if a < b then a else b
def wMax (a b : Int) : Int := if a < b then b else a
def wFlip (x m : Int) : Int := wrap32 (sg (wd x ^^^ wd m) - m)

theorem wMask_bd (x : Int) : -1 ≤ wMask x ∧ wMask x ≤ 0 := by unfold wMask; split <;> omega
theorem wSign_bd (x : Int) : -1 ≤ wSign x ∧ wSign x ≤ 0 := by unfold wSign; split <;> omega
theorem wBelow_bd (a b : Int) : -1 ≤ wBelow a b ∧ wBelow a b ≤ 0 := by unfold wBelow; split <;> omega
theorem wLess_bd (a b : Int) : 0 ≤ wLess a b ∧ wLess a b ≤ 1 := by unfold wLess; split <;> omega
theorem wUnder_bd (a b : Int) : 0 ≤ wUnder a b ∧ wUnder a b ≤ 1 := by unfold wUnder; split <;> omega
theorem wSame_bd (a b : Int) : 0 ≤ wSame a b ∧ wSame a b ≤ 1 := by unfold wSame; split <;> omega
theorem wSel_bd (m a b : Int) : -2147483648 ≤ wSel m a b ∧ wSel m a b ≤ 2147483647 := sg_bd _
theorem wFlip_bd (x m : Int) : -2147483648 ≤ wFlip x m ∧ wFlip x m ≤ 2147483647 := by unfold wFlip wrap32; omega

theorem wd_0 : wd 0 = 0#32 := by decide
theorem wd_m1 : wd (-1) = BitVec.allOnes 32 := by decide
theorem wSel_0 {a b : Int} (h1 : -2147483648 ≤ b) (h2 : b ≤ 2147483647) : wSel 0 a b = b := by
  unfold wSel; rw [wd_0, BitVec.and_zero, BitVec.zero_or, show ~~~(0#32) = BitVec.allOnes 32 by decide, BitVec.and_allOnes, sg_wd_in h1 h2]
theorem wSel_m1 {a b : Int} (h1 : -2147483648 ≤ a) (h2 : a ≤ 2147483647) : wSel (-1) a b = a := by
  unfold wSel; rw [wd_m1, BitVec.and_allOnes, show ~~~(BitVec.allOnes 32) = 0#32 by decide, BitVec.and_zero, BitVec.or_zero, sg_wd_in h1 h2]
theorem below_min {a b : Int} (h1 : -2147483648 ≤ a) (h2 : a ≤ 2147483647) (h3 : -2147483648 ≤ b) (h4 : b ≤ 2147483647) : wSel (wBelow a b) a b = wMin a b := by
  unfold wBelow wMin; split
  · exact wSel_m1 h1 h2
  · exact wSel_0 h3 h4
theorem below_max {a b : Int} (h1 : -2147483648 ≤ a) (h2 : a ≤ 2147483647) (h3 : -2147483648 ≤ b) (h4 : b ≤ 2147483647) : wSel (wBelow a b) b a = wMax a b := by
  unfold wBelow wMax; split
  · exact wSel_m1 h3 h4
  · exact wSel_0 h1 h2
theorem below_shr {a b : Int} (h1 : -4294967296 ≤ a - b) (h2 : a - b ≤ 4294967296) : (a - b) / 9223372036854775808 = wBelow a b := by
  unfold wBelow; split <;> omega
theorem sign_shr {x : Int} (h1 : -2147483648 ≤ x) (h2 : x ≤ 2147483647) : x / 2147483648 = wSign x := by
  unfold wSign; split <;> omega
theorem below_one (a b : Int) : bits .and .i32 (wBelow a b) 1 = wLess a b := by
  unfold wBelow wLess; split <;> decide +kernel
theorem under_one (a b : Int) : wLess (a % 4294967296) (b % 4294967296) = wUnder a b := rfl

theorem sg_neg_iff (b : BitVec 32) : sg b < 0 ↔ b.msb = true := by
  unfold sg
  rw [BitVec.msb_eq_toInt]; simp
theorem or_neg (b : BitVec 32) : (b ||| -b).msb = decide (b ≠ 0#32) := by
  rw [BitVec.msb_or, BitVec.msb_neg]
  by_cases h : b = 0#32
  · subst h; decide
  · by_cases h2 : b = BitVec.intMin 32
    · subst h2; decide
    · have e : (decide (b ≠ 0#32)) = true := by simpa using h
      rw [e]; cases b.msb <;> simp [h, h2]
theorem wd_neg_ (x : Int) : wd (-x) = -(wd x) := by unfold wd; exact BitVec.ofInt_neg
theorem wd_eq0 {x : Int} (h1 : -2147483648 ≤ x) (h2 : x ≤ 2147483647) : wd x = 0#32 ↔ x = 0 := by
  constructor
  · intro h; rw [← sg_wd_in h1 h2, h]; decide
  · intro h; subst h; decide
theorem mask_sign {x : Int} (h1 : -2147483648 ≤ x) (h2 : x ≤ 2147483647) : wSign (bits .or .i32 x (wrap32 (-x))) = wMask x := by
  rw [bits_i32_or, wd_wrap, wd_neg_]
  unfold wSign wMask
  have h := wd_eq0 h1 h2
  have g := sg_neg_iff (wd x ||| -wd x)
  rw [or_neg] at g
  by_cases h0 : x = 0
  · rw [if_pos h0, if_neg]; intro k; have := g.1 k; simp [h.2 h0] at this
  · rw [if_neg h0, if_pos]; apply g.2; simpa using fun e => h0 (h.1 e)
theorem xor_0 {a b : Int} (h1 : -2147483648 ≤ a) (h2 : a ≤ 2147483647) (h3 : -2147483648 ≤ b) (h4 : b ≤ 2147483647) : bits .xor .i32 a b = 0 ↔ a = b := by
  rw [bits_i32_xor]
  constructor
  · intro h
    have e : wd a ^^^ wd b = 0#32 := by
      have : sg (wd a ^^^ wd b) = sg 0#32 := by rw [h]; decide
      exact sg_inj this
    have e2 : wd a = wd b := by
      have := congrArg (· ^^^ wd b) e
      simpa [BitVec.xor_assoc] using this
    rw [← sg_wd_in h1 h2, e2, sg_wd_in h3 h4]
  · intro h; subst h; simp; decide
theorem same_mask {a b : Int} (h1 : -2147483648 ≤ a) (h2 : a ≤ 2147483647) (h3 : -2147483648 ≤ b) (h4 : b ≤ 2147483647) :
    bits .and .i32 (bits .xor .i32 (-1) (wMask (bits .xor .i32 a b))) 1 = wSame a b := by
  have h := xor_0 h1 h2 h3 h4
  unfold wMask wSame
  by_cases he : a = b
  · rw [if_pos (h.2 he), if_pos he]; decide +kernel
  · rw [if_neg (fun e => he (h.1 e)), if_neg he]; decide +kernel
theorem sel_bits (m a b : Int) : bits .or .i32 (bits .and .i32 a m) (bits .andNot .i32 b m) = wSel m a b := by
  unfold wSel; rw [bits_i32_and, bits_i32_andNot, bits_i32_or, wd_sg, wd_sg]
theorem flip_bits (x m : Int) : wrap32 (bits .xor .i32 x m - m) = wFlip x m := by
  unfold wFlip; rw [bits_i32_xor]
end Go.Proofs.Ytbcfmlcfkihenaa
