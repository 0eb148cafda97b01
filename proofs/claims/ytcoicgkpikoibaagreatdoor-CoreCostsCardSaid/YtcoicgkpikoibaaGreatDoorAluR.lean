/- What the document's own plain answers for the operations (package astrolaberef07) give: amounts, their bits, quotient and rest. Conditions: the numbers are of the parameters' kinds. -/
import Derived.Test.YtcoicgkpikoibaaGreatDoorRefs
import Derived.Test.YtcoicgkpikoibaaGreatDoorNum
namespace Go.Proofs.YtcoicgkpikoibaaGreatDoor
open Go.RowKit

theorem refAmount_is (a v : Int) (w : World) (h1 : -2147483648 ≤ a) (h2 : a ≤ 2147483647) (hv : (a.natAbs : Int) = v) :
    Calls Tryz.prog 55 #[.int .i32 a] w fun e w' => e = .returned (.int .i64 v) ∧ w = w' := by
  by_cases h : a < 0
  all_goals
    have E := Lib.hid hv
    clear hv
    go_enter Tryz.func55, Tryz.ntmps55
    go_wp2
    go_ret
    exact ⟨ret_int (by rw [← E.out]; omega), rfl⟩

theorem refLen_is (N : Nat) (w : World) (hN : N ≤ 4294967296) :
    Calls Tryz.prog 54 #[.int .i64 N] w fun e w' => e = .returned (.int .i64 (Lib.bitLen N : Int)) ∧ w = w' := by
  have hl : Lib.bitLen N ≤ 64 := by
    obtain ⟨_, l2⟩ := bitLen_hi 33 N (by omega) (by decide)
    by_cases h0 : N = 0
    · subst h0; decide
    · have l3 := l2 h0
      apply Nat.le_of_not_lt; intro hlt
      have := Nat.pow_le_pow_right (n := 2) (by decide) hlt
      have e : (2 : Nat) ^ Nat.succ 64 = 36893488147419103232 := by decide
      omega
  go_enter Tryz.func54, Tryz.ntmps54
  go_wp2
  go_loop [0, 3] (fun n i => ∃ m j : Nat, m ≤ N ∧ n = .int .i64 m ∧ i = .int .i64 j ∧ j + Lib.bitLen m = Lib.bitLen N) (fun n _ => (intOf n).toNat)
  case atStart => exact ⟨N, 0, Nat.le_refl _, rfl, rfl, by omega⟩
  case round =>
    obtain ⟨m, j, hm, rfl, rfl, hj⟩ := hrel
    by_cases h0 : m = 0
    · subst h0
      have e : Lib.bitLen 0 = 0 := by decide +kernel
      have hj' := Lib.hid (show j = Lib.bitLen N by omega)
      clear hj e
      go_wp2
      go_ret
      exact ⟨ret_int (by rw [hj'.out]), rfl⟩
    · have hh := Lib.hid (Lib.bitLen_half m h0 (by omega))
      have h1 : (0 : Int) < m := by omega
      have hj' := Lib.hid hj
      have j1 : j ≤ 64 := by omega
      clear hj
      go_wp2
      go_round
      case rel => exact ⟨m / 2, j + 1, by omega, by go_num, by go_num, by have := hh.out; have := hj'.out; omega⟩
      case measure => simp [intOf]; omega

theorem quo_sign {a b : Int} (Q : Int) (hQ : (a.natAbs : Int).tdiv (b.natAbs : Int) = Q) : a.tdiv b = if decide (a < 0) != decide (b < 0) then -Q else Q := by
  subst hQ
  by_cases ha : a < 0 <;> by_cases hb : b < 0
  · have ea : (a.natAbs : Int) = -a := by omega
    have eb : (b.natAbs : Int) = -b := by omega
    rw [ea, eb, Int.neg_tdiv, Int.tdiv_neg]; simp [ha, hb]
  · have ea : (a.natAbs : Int) = -a := by omega
    have eb : (b.natAbs : Int) = b := by omega
    rw [ea, eb, Int.neg_tdiv]; simp [ha, hb]
  · have ea : (a.natAbs : Int) = a := by omega
    have eb : (b.natAbs : Int) = -b := by omega
    rw [ea, eb, Int.tdiv_neg]; simp [ha, hb]
  · have ea : (a.natAbs : Int) = a := by omega
    have eb : (b.natAbs : Int) = b := by omega
    rw [ea, eb]; simp [ha, hb]

theorem rest_bd {a b : Int} (a1 : -2147483648 ≤ a) (a2 : a ≤ 2147483647) : -2147483648 ≤ a.tmod b ∧ a.tmod b ≤ 2147483647 := by
  by_cases h : 0 ≤ a
  · have h1 := Int.tmod_nonneg b h
    have h2 : (a.tmod b).natAbs ≤ a.natAbs := by rw [Int.natAbs_tmod]; exact Nat.mod_le _ _
    omega
  · have h1 := Int.tmod_nonneg b (show 0 ≤ -a by omega)
    rw [Int.neg_tmod] at h1
    have h2 : (a.tmod b).natAbs ≤ a.natAbs := by rw [Int.natAbs_tmod]; exact Nat.mod_le _ _
    omega
theorem quo_bd {A B : Int} (hA0 : 0 ≤ A) (hA : A ≤ 2147483648) (hB : 0 < B) : 0 ≤ A.tdiv B ∧ A.tdiv B ≤ 2147483648 := by
  rw [Int.tdiv_eq_ediv_of_nonneg hA0]
  exact ⟨Int.ediv_nonneg hA0 (by omega), Int.le_trans (Int.ediv_le_self _ hA0) hA⟩

set_option maxHeartbeats 1000000 in
theorem refQuo_is (a b : Int) (t : Bool) (w : World) (a1 : -2147483648 ≤ a) (a2 : a ≤ 2147483647) (b1 : -2147483648 ≤ b) (b2 : b ≤ 2147483647) (hn : ¬ b = 0) :
    Calls Tryz.prog 93 #[.int .i32 a, .int .i32 b, .bool t] w fun e w' => e = .returned (.int .i32 (if t then wRest a b else wQuo a b)) ∧ w = w' := by
  obtain ⟨A, hA⟩ : ∃ A : Int, (a.natAbs : Int) = A := ⟨_, rfl⟩
  obtain ⟨B, hB⟩ : ∃ B : Int, (b.natAbs : Int) = B := ⟨_, rfl⟩
  obtain ⟨Q, hQ⟩ : ∃ Q : Int, A.tdiv B = Q := ⟨_, rfl⟩
  have S := quo_sign (a := a) (b := b) Q (by rw [hA, hB]; exact hQ)
  have B0 : ¬ B = 0 := by omega
  obtain ⟨q1, q2⟩ := quo_bd (A := A) (B := B) (by omega) (by omega) (by omega)
  rw [hQ] at q1 q2
  have hm := Int.mul_tdiv_add_tmod a b
  obtain ⟨r1, r2⟩ := rest_bd (b := b) a1 a2
  rw [Int.mul_comm b] at hm
  have hq : wQuo a b = wrap32 (a.tdiv b) := rfl
  have hr : wRest a b = a.tmod b := rfl
  by_cases ha : a < 0 <;> by_cases hb : b < 0
  all_goals
    simp only [ha, hb, decide_true, decide_false, bne_self_eq_false, Bool.false_eq_true, if_false, Bool.true_bne, Bool.false_bne, Bool.not_false, if_true] at S
    rw [S] at hm hq
    first | rw [Int.neg_mul] at hm | skip
    have p : -4294967296 ≤ Q * b ∧ Q * b ≤ 4294967296 := by omega
    have n0 : -Q * b = -(Q * b) := Int.neg_mul _ _
    first
      | have sa : decide (a < 0) = true := decide_eq_true ha
      | have sa : decide (a < 0) = false := decide_eq_false ha
    first
      | have sb : decide (b < 0) = true := decide_eq_true hb
      | have sb : decide (b < 0) = false := decide_eq_false hb
    have HA := Lib.hid hA
    have HB := Lib.hid hB
    have HM := Lib.hid hm
    have HQ := Lib.hid hq
    have HR := Lib.hid hr
    have R1 := Lib.hid r1
    have R2 := Lib.hid r2
    clear hA hB S hm hq hr r1 r2
  all_goals cases t
  all_goals
    go_enter Tryz.func93, Tryz.ntmps93
    go_wp2_with (first
      | (go_at_call 55; with_reducible refine (refAmount_is a A _ a1 a2 HA.out).mono ?_; rintro e w' ⟨rfl, rfl⟩)
      | (go_at_call 55; with_reducible refine (refAmount_is b B _ b1 b2 HB.out).mono ?_; rintro e w' ⟨rfl, rfl⟩)
      | (go_at_call 32; with_reducible refine (refLow_is _ _ _ rfl).mono ?_; rintro e w' ⟨rfl, rfl⟩))
    go_ret
    refine ⟨ret_int ?_, rfl⟩
    first
      | exact HQ.out.symm
      | (have h1 := HM.out; have h2 := HR.out; have h3 := R1.out; have h4 := R2.out
         show wrap32 _ = wRest a b
         unfold wrap32; omega)
end Go.Proofs.YtcoicgkpikoibaaGreatDoor
