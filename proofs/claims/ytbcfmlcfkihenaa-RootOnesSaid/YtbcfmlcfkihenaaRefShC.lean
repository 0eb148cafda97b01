/- What the document's own plain answers for shifted words (package astrolaberef02) give: Sar, Clz, Ones, Rol. Conditions: the numbers are of the kind int32. -/
import Derived.Test.YtbcfmlcfkihenaaRefShB
namespace Go.Proofs.Ytbcfmlcfkihenaa
open Go.RowKit

/-- How many of the lowest k bits are 1. -/
def onesTo (b : BitVec 32) (k : Nat) : Int := (b.cpopNatRec k 0 : Int)
theorem onesTo_step (b : BitVec 32) (k : Nat) : onesTo b k + bi b k = onesTo b (k + 1) := by
  unfold onesTo
  rw [BitVec.cpopNatRec_succ, BitVec.cpopNatRec_eq (acc := 0 + _), bi_bit]
  simp
theorem onesTo_bd (b : BitVec 32) (k : Nat) : 0 ≤ onesTo b k ∧ onesTo b k ≤ 32 := by
  have := BitVec.cpopNatRec_zero_le b k
  unfold onesTo; omega
theorem onesTo_32 (x : Int) : onesTo (wd x) 32 = wOnes x := by
  unfold onesTo wOnes; rw [BitVec.toNat_cpop]

/-- The k highest bits are noughts. -/
theorem clz_none (x : Int) (h : us (wd x) / 2 ^ 0 = 0) : (32 : Int) = wClz x := by
  have e : wd x = 0#32 := by
    have h' : us (wd x) = 0 := by simpa using h
    apply us_inj
    rw [h']; decide
  unfold wClz; rw [e]; decide
theorem clz_of (b : BitVec 32) (k : Nat) (hk : k < 32) (h1 : us b / 2 ^ (32 - k) = 0) (h2 : bi b (31 - k) = 1) : (b.clz.toNat : Int) = k := by
  have hu := us_bd b
  have p1 : (0 : Int) < 2 ^ (32 - k) := Int.pow_pos (by decide)
  have p2 : (0 : Int) < 2 ^ (31 - k) := Int.pow_pos (by decide)
  have l1 : us b < 2 ^ (32 - k) := by
    refine Int.not_le.1 fun hle => ?_
    have h3 : 1 ≤ us b / 2 ^ (32 - k) := (Int.le_ediv_iff_mul_le p1).2 (by omega)
    omega
  have l2 : 2 ^ (31 - k) ≤ us b := by
    unfold bi at h2
    have h3 : 1 ≤ us b / 2 ^ (31 - k) := by
      have := Int.ediv_nonneg hu.1 (Int.le_of_lt p2)
      omega
    have := (Int.le_ediv_iff_mul_le p2).1 h3
    omega
  have n1 : b.toNat < 2 ^ (32 - k) := by unfold us at l1; exact_mod_cast l1
  have n2 : 2 ^ (31 - k) ≤ b.toNat := by unfold us at l2; exact_mod_cast l2
  have hne : b ≠ 0#32 := by
    intro h
    subst h
    have := Nat.two_pow_pos (31 - k)
    simp at n2
  have c1 := BitVec.two_pow_sub_clz_le_toNat_of_ne_zero (x := b) (by decide) hne
  have c2 := BitVec.toNat_lt_two_pow_sub_clz (x := b)
  have c3 : b.clz.toNat < 32 := by
    have h4 : b.clz.toNat < (32#32).toNat := (BitVec.clz_lt_iff_ne_zero (x := b)).2 hne
    have e : (32#32).toNat = 32 := rfl
    omega
  have e2 : 32 - 1 - b.clz.toNat = 31 - b.clz.toNat := by omega
  rw [e2] at c1
  have a1 : k ≤ b.clz.toNat := by
    apply Nat.le_of_not_lt; intro hlt
    have := Nat.pow_le_pow_right (n := 2) (by decide) (show 32 - k ≤ 31 - b.clz.toNat by omega)
    omega
  have a2 : b.clz.toNat ≤ k := by
    apply Nat.le_of_not_lt; intro hlt
    have := Nat.pow_le_pow_right (n := 2) (by decide) (show 32 - b.clz.toNat ≤ 31 - k by omega)
    omega
  omega

set_option maxHeartbeats 1000000 in
theorem refClz_is (x : Int) (w : World) (h1 : -2147483648 ≤ x) (h2 : x ≤ 2147483647) :
    Calls Try.prog 23 #[.int .i32 x] w fun e w' => e = .returned (.int .i32 (wClz x)) ∧ Below w.heap.size w w' := by
  go_enter Try.func23, Try.ntmps23
  go_wp2_with (first
    | (go_at_call 36; refine (refBits_is x _ h1 h2).mono ?_; rintro e w' ⟨rfl, rfl⟩)
    | (refine wpList_store_row rfl 46 _ _ rfl (w.heap.size + 2) (row 32 .i64 (bi (wd x))) rfl rfl 46 _ (heap_atn _ _ _ (by simp)) (by rw [row_size]; exact info32) (by rw [row_size]; rfl) (row_ones _ _ _) ?_; rw [setRow_atn _ _ _ _ _ (by simp)]))
  go_loop [4, 5] (fun n i => ∃ j : Nat, j ≤ 32 ∧ i = .int .i64 ((j : Int) - 1) ∧ n = .int .i32 (32 - (j : Int)) ∧ Hid (us (wd x) / 2 ^ j = 0)) (fun _ i => (intOf i + 1).toNat)
  case atStart => exact ⟨32, by omega, rfl, rfl, Lib.hid (us_top _)⟩
  case round =>
    obtain ⟨j, hj, rfl, rfl, hz⟩ := hrel
    by_cases h0 : 0 < j
    · obtain ⟨i, rfl⟩ : ∃ i, j = i + 1 := ⟨j - 1, by omega⟩
      have hg := row_get .i64 (bi (wd x)) (show i < 32 by omega)
      have hb := bi_bd (wd x) i
      have e1 : ((i + 1 : Nat) : Int) - 1 = (i : Int) := by omega
      have e2 : 32 - ((i + 1 : Nat) : Int) = 31 - (i : Int) := by omega
      rw [e1, e2]
      clear e1 e2
      by_cases hone : bi (wd x) i = 0
      · have hz' := Lib.hid (show us (wd x) / 2 ^ i = 0 by
          have e1 := us_up (wd x) i
          rw [hz.out, hone] at e1
          omega)
        rw [hone] at hg
        clear hone hb hz
        go_wp2
        go_round
        case rel => exact ⟨i, by omega, rfl, by go_num, hz'⟩
        case measure => simp [intOf]
      · have h1' : bi (wd x) i = 1 := by omega
        have H := Lib.hid (clz_of (wd x) (31 - i) (by omega) (by rw [show 32 - (31 - i) = i + 1 by omega]; exact hz.out) (by rw [show 31 - (31 - i) = i by omega]; exact h1'))
        rw [h1'] at hg
        clear hone hb h1' hz
        go_wp2
        go_ret
        exact ⟨ret_int (by have := H.out; unfold wClz; omega), (((Below.refl _ _).alloc (Nat.le_refl _) _).alloc (by simp) _).alloc (by simp; omega) _⟩
    · obtain rfl : j = 0 := by omega
      have H := Lib.hid (clz_none x hz.out)
      have e : ((0 : Nat) : Int) - 1 = -1 := by omega
      have e2 : 32 - ((0 : Nat) : Int) = 32 := by omega
      rw [e, e2]
      clear e e2 hz
      go_wp2
      go_ret
      exact ⟨ret_int H.out, (((Below.refl _ _).alloc (Nat.le_refl _) _).alloc (by simp) _).alloc (by simp; omega) _⟩
end Go.Proofs.Ytbcfmlcfkihenaa
