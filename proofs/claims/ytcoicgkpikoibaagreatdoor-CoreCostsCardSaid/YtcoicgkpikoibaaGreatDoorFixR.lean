/- What the document's own plain answers for products of fixed point (package astrolaberef05) give. Conditions: the numbers are of the parameters' kinds. -/
import Derived.Test.YtcoicgkpikoibaaGreatDoorRefs
import Derived.Test.YtcoicgkpikoibaaGreatDoorNum
import Derived.Handy
import Derived.Lib.Hide
namespace Go.Proofs.YtcoicgkpikoibaaGreatDoor
open Go.RowKit

theorem rest_q (x : Int) (m : Int) (h : 0 < m) : (x - x % m).tdiv m = x / m := by
  have e := Int.emod_add_mul_ediv x m
  have e2 : x - x % m = m * (x / m) := by omega
  rw [e2, Int.mul_tdiv_cancel_left _ (by omega)]
theorem floor_bd {x : Int} {k : Nat} (hk : k ≤ 63) (h : -9223372036854775808 ≤ x) : -9223372036854775808 ≤ x - x % pw k := by
  have p0 := pw_pos k
  have e : pw (63 - k) * pw k = 9223372036854775808 := by
    unfold pw
    rw [← Int.pow_add, Nat.sub_add_cancel hk]; decide
  have e1 := Int.emod_add_mul_ediv x (pw k)
  have g : -(pw (63 - k)) ≤ x / pw k := Int.le_ediv_of_mul_le p0 (by rw [Int.neg_mul, e]; exact h)
  have g2 := Int.mul_le_mul_of_nonneg_right g (Int.le_of_lt p0)
  rw [Int.neg_mul, e, Int.mul_comm (x / pw k)] at g2
  omega
theorem refRound_is (x n : Int) (w : World) (x1 : -9223372036854775808 ≤ x) (x2 : x ≤ 9223372036854775807) (n1 : -9223372036854775808 ≤ n) (n2 : n ≤ 9223372036854775807) :
    Calls Tryz.prog 112 #[.int .i64 x, .int .i64 n] w fun e w' => e = .returned (.int .i64 (wRnd x n)) ∧ w = w' := by
  rcases (show n < 1 ∨ (1 ≤ n ∧ 62 < n) ∨ (1 ≤ n ∧ n ≤ 62) by omega) with h | ⟨h, h'⟩ | ⟨h, h'⟩
  · have E := Lib.hid (wRnd_out (x := x) (n := n) (by omega))
    go_enter Tryz.func112, Tryz.ntmps112
    go_wp2
    go_ret
    exact ⟨ret_int E.out.symm, rfl⟩
  · have E := Lib.hid (wRnd_out (x := x) (n := n) (by omega))
    go_enter Tryz.func112, Tryz.ntmps112
    go_wp2
    go_ret
    exact ⟨ret_int E.out.symm, rfl⟩
  · obtain ⟨j, rfl⟩ : ∃ j : Nat, n = j := ⟨n.toNat, by omega⟩
    have E := Lib.hid (wRnd_rest (x := x) h h')
    have d := div_bd' h x1 x2
    rw [Int.toNat_natCast] at d
    go_enter Tryz.func112, Tryz.ntmps112
    go_wp2
    go_loop [5, 6] (fun m i => ∃ k : Nat, k ≤ j ∧ i = .int .i64 k ∧ m = .int .i64 (pw k)) (fun _ i => j - (intOf i).toNat)
    case atStart => exact ⟨0, by omega, rfl, rfl⟩
    case round =>
      obtain ⟨k, hk, rfl, rfl⟩ := hrel
      have p0 := pw_pos k
      have p1 : pw k ≤ 4611686018427387904 := pw_mono (m := 62) (by omega)
      by_cases hlt : k < j
      · have p2 : pw k ≤ 2305843009213693952 := pw_mono (m := 61) (by omega)
        have e := Lib.hid (pw_succ k)
        go_wp2
        go_round
        case rel => exact ⟨k + 1, by omega, by go_num, by rw [e.out]⟩
        case measure => simp [intOf]; omega
      · obtain rfl : k = j := by omega
        have q0 := Int.emod_nonneg x (show pw k ≠ 0 by omega)
        have q1 := Int.emod_lt_of_pos x p0
        have q2 := rest_q x (pw k) p0
        have q3 : -9223372036854775808 ≤ x - x % pw k ∧ x - x % pw k ≤ 9223372036854775807 := by
          have := floor_bd (k := k) (by omega) x1
          omega
        have d' : -4611686018427387904 ≤ x / pw k ∧ x / pw k ≤ 4611686018427387903 := d
        have E' := Lib.hid (show wRnd x k = if pw k / 2 ≤ x % pw k then x / pw k + 1 else x / pw k from E.out)
        clear E d
        by_cases ht : pw k / 2 ≤ x % pw k
        · go_wp2_with (go_at_call 70; refine (refMod_is x (pw k) _ _ (by omega) (by omega) rfl).mono ?_; rintro e w' ⟨rfl, rfl⟩)
          go_ret
          exact ⟨ret_int (by rw [E'.out, if_pos ht]), rfl⟩
        · go_wp2_with (go_at_call 70; refine (refMod_is x (pw k) _ _ (by omega) (by omega) rfl).mono ?_; rintro e w' ⟨rfl, rfl⟩)
          go_ret
          exact ⟨ret_int (by rw [E'.out, if_neg (Int.not_le.mpr ht)]), rfl⟩
theorem refMulq_is (a b : Int) (w : World) (a1 : -2147483648 ≤ a) (a2 : a ≤ 2147483647) (b1 : -2147483648 ≤ b) (b2 : b ≤ 2147483647) :
    Calls Tryz.prog 91 #[.int .i32 a, .int .i32 b] w fun e w' => e = .returned (.int .i32 (wMulq a b)) ∧ w = w' := by
  obtain ⟨p1, p2⟩ := prod_bd a1 a2 b1 b2
  have E := Lib.hid (wRnd_30 (a * b))
  go_enter Tryz.func91, Tryz.ntmps91
  go_wp2_with (first
    | (go_at_call 112; refine (refRound_is (a * b) 30 _ (by omega) (by omega) (by omega) (by omega)).mono ?_; rintro e w' ⟨rfl, rfl⟩)
    | (go_at_call 106; refine (refSat_is _ _).mono ?_; rintro e w' ⟨rfl, rfl⟩))
  go_ret
  exact ⟨ret_int (by rw [E.out]; rfl), rfl⟩
theorem refMulr_is (a b : Int) (w : World) (a1 : -2147483648 ≤ a) (a2 : a ≤ 2147483647) (b1 : -2147483648 ≤ b) (b2 : b ≤ 2147483647) :
    Calls Tryz.prog 92 #[.int .i32 a, .int .i32 b] w fun e w' => e = .returned (.int .i32 (wMulr a b)) ∧ w = w' := by
  obtain ⟨p1, p2⟩ := prod_bd a1 a2 b1 b2
  have E := Lib.hid (wRnd_16 (a * b))
  go_enter Tryz.func92, Tryz.ntmps92
  go_wp2_with (first
    | (go_at_call 112; refine (refRound_is (a * b) 16 _ (by omega) (by omega) (by omega) (by omega)).mono ?_; rintro e w' ⟨rfl, rfl⟩)
    | (go_at_call 106; refine (refSat_is _ _).mono ?_; rintro e w' ⟨rfl, rfl⟩))
  go_ret
  exact ⟨ret_int (by rw [E.out]; rfl), rfl⟩
theorem refMulh_is (a b : Int) (w : World) (a1 : -2147483648 ≤ a) (a2 : a ≤ 2147483647) (b1 : -2147483648 ≤ b) (b2 : b ≤ 2147483647) :
    Calls Tryz.prog 90 #[.int .i32 a, .int .i32 b] w fun e w' => e = .returned (.int .i32 (wMulh a b)) ∧ w = w' := by
  obtain ⟨p1, p2⟩ := prod_bd a1 a2 b1 b2
  go_enter Tryz.func90, Tryz.ntmps90
  go_wp2_with (go_at_call 111; refine (refHigh_is (a * b) (wMulh a b) _ (by omega) (by omega) rfl).mono ?_; rintro e w' ⟨rfl, rfl⟩)
  go_ret
  exact ⟨rfl, rfl⟩
theorem refMull_is (a b : Int) (w : World) (a1 : -2147483648 ≤ a) (a2 : a ≤ 2147483647) (b1 : -2147483648 ≤ b) (b2 : b ≤ 2147483647) :
    Calls Tryz.prog 89 #[.int .i32 a, .int .i32 b] w fun e w' => e = .returned (.int .i32 (wMull a b)) ∧ w = w' := by
  obtain ⟨p1, p2⟩ := prod_bd a1 a2 b1 b2
  go_enter Tryz.func89, Tryz.ntmps89
  go_wp2_with (go_at_call 32; refine (refLow_is (a * b) (wMull a b) _ rfl).mono ?_; rintro e w' ⟨rfl, rfl⟩)
  go_ret
  exact ⟨rfl, rfl⟩
end Go.Proofs.YtcoicgkpikoibaaGreatDoor
