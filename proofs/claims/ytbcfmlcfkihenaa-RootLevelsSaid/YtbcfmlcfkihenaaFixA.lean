/- What package fix's functions answer. Conditions: the numbers are of the parameters' kinds. -/
import Derived.Test.YtbcfmlcfkihenaaProg
import Derived.Test.YtbcfmlcfkihenaaFixD
import Derived.Test.YtbcfmlcfkihenaaWordA
import Derived.Test.YtbcfmlcfkihenaaSatA
import Derived.Handy
import Derived.Lib.Hide
import Derived.RegionTactic
import Derived.Deep.QuietTactic
import Derived.BigQuiet
namespace Go.Proofs.Ytbcfmlcfkihenaa
open Go.RowKit

theorem round_q (x n : Int) (w : World) (x1 : -9223372036854775808 ≤ x) (x2 : x ≤ 9223372036854775807) (n1 : -9223372036854775808 ≤ n) (n2 : n ≤ 9223372036854775807) :
    Calls Try.prog 125 #[.int .i64 x, .int .i64 n] w fun e w' => e = .returned (.int .i64 (wRnd x n)) ∧ ∃ m, w' = w.drewN m := by
  rcases (show n < 1 ∨ (1 ≤ n ∧ 62 < n) ∨ (1 ≤ n ∧ n ≤ 62) by omega) with h | ⟨h, h'⟩ | ⟨h, h'⟩
  · have E := Lib.hid (wRnd_out (x := x) (n := n) (by omega))
    go_enter Try.func125, Try.ntmps125
    go_wp2
    go_ret
    exact ⟨ret_int E.out.symm, 0, rfl⟩
  · have E := Lib.hid (wRnd_out (x := x) (n := n) (by omega))
    go_enter Try.func125, Try.ntmps125
    go_wp2
    go_ret
    exact ⟨ret_int E.out.symm, 0, rfl⟩
  · have E := Lib.hid (wRnd_bits (x := x) h h')
    have d := div_bd' h x1 x2
    go_enter Try.func125, Try.ntmps125
    go_wp2
    go_region
    go_wp2
    go_ret
    refine ⟨ret_int ?_, 1, rfl⟩
    rw [← E.out]
    rw [and_i64_1, IntWalk.wrap64_in _ (by omega)]
theorem round_b (x n : Int) (w : World) (x1 : -9223372036854775808 ≤ x) (x2 : x ≤ 9223372036854775807) (n1 : -9223372036854775808 ≤ n) (n2 : n ≤ 9223372036854775807) :
    Calls Try.prog 125 #[.int .i64 x, .int .i64 n] w fun e w' => e = .returned (.int .i64 (wRnd x n)) ∧ Below w.heap.size w w' :=
  (round_q x n w x1 x2 n1 n2).mono fun _ _ ⟨he, m, hm⟩ => ⟨he, hm ▸ below_drewN (Below.refl _ _) m⟩
theorem whole_is (a b : Int) (w : World) (a1 : -2147483648 ≤ a) (a2 : a ≤ 2147483647) (b1 : -2147483648 ≤ b) (b2 : b ≤ 2147483647) :
    Calls Try.prog 123 #[.int .i32 a, .int .i32 b] w fun e w' => e = .returned (.int .i64 (a * b)) ∧ w = w' := by
  obtain ⟨p1, p2⟩ := prod_bd a1 a2 b1 b2
  go_enter Try.func123, Try.ntmps123
  go_wp2
  go_ret
  exact ⟨rfl, rfl⟩
theorem mulq_is (a b : Int) (w : World) (a1 : -2147483648 ≤ a) (a2 : a ≤ 2147483647) (b1 : -2147483648 ≤ b) (b2 : b ≤ 2147483647) :
    Calls Try.prog 88 #[.int .i32 a, .int .i32 b] w fun e w' => e = .returned (.int .i32 (wMulq a b)) ∧ Below w.heap.size w w' := by
  obtain ⟨p1, p2⟩ := prod_bd a1 a2 b1 b2
  have E := Lib.hid (wRnd_30 (a * b))
  go_enter Try.func88, Try.ntmps88
  go_wp2_with go_in
  go_quiet ((first
    | (go_at_call 123; with_reducible exact quiet_here (whole_is a b _ a1 a2 b1 b2))
    | (go_at_call 125; exact Calls.quiet_of (round_q (a * b) 30 _ (by omega) (by omega) (by omega) (by omega)))
    | (go_at_call 99; exact quiet_here (sat_is _ _))))
  go_wp2
  go_ret
  exact ⟨ret_int (by rw [E.out]; rfl), (((Below.refl _ _).alloc (Nat.le_refl _) _).trans (below_drewN (Below.refl _ _) _))⟩
theorem mulr_is (a b : Int) (w : World) (a1 : -2147483648 ≤ a) (a2 : a ≤ 2147483647) (b1 : -2147483648 ≤ b) (b2 : b ≤ 2147483647) :
    Calls Try.prog 89 #[.int .i32 a, .int .i32 b] w fun e w' => e = .returned (.int .i32 (wMulr a b)) ∧ Below w.heap.size w w' := by
  obtain ⟨p1, p2⟩ := prod_bd a1 a2 b1 b2
  have E := Lib.hid (wRnd_16 (a * b))
  go_enter Try.func89, Try.ntmps89
  go_wp2_with go_in
  go_quiet ((first
    | (go_at_call 123; with_reducible exact quiet_here (whole_is a b _ a1 a2 b1 b2))
    | (go_at_call 125; exact Calls.quiet_of (round_q (a * b) 16 _ (by omega) (by omega) (by omega) (by omega)))
    | (go_at_call 99; exact quiet_here (sat_is _ _))))
  go_wp2
  go_ret
  exact ⟨ret_int (by rw [E.out]; rfl), (((Below.refl _ _).alloc (Nat.le_refl _) _).trans (below_drewN (Below.refl _ _) _))⟩
theorem mulh_is (a b : Int) (w : World) (a1 : -2147483648 ≤ a) (a2 : a ≤ 2147483647) (b1 : -2147483648 ≤ b) (b2 : b ≤ 2147483647) :
    Calls Try.prog 87 #[.int .i32 a, .int .i32 b] w fun e w' => e = .returned (.int .i32 (wMulh a b)) ∧ Below w.heap.size w w' := by
  obtain ⟨p1, p2⟩ := prod_bd a1 a2 b1 b2
  go_enter Try.func87, Try.ntmps87
  go_wp2_with go_in
  go_quiet ((first
    | (go_at_call 123; with_reducible exact quiet_here (whole_is a b _ a1 a2 b1 b2))
    | (go_at_call 111; exact quiet_here (high_is (a * b) (wMulh a b) _ (by omega) (by omega) rfl))))
  go_wp2
  go_ret
  exact ⟨rfl, (((Below.refl _ _).alloc (Nat.le_refl _) _).trans (below_drewN (Below.refl _ _) _))⟩
theorem mull_is (a b : Int) (w : World) (a1 : -2147483648 ≤ a) (a2 : a ≤ 2147483647) (b1 : -2147483648 ≤ b) (b2 : b ≤ 2147483647) :
    Calls Try.prog 86 #[.int .i32 a, .int .i32 b] w fun e w' => e = .returned (.int .i32 (wMull a b)) ∧ Below w.heap.size w w' := by
  obtain ⟨p1, p2⟩ := prod_bd a1 a2 b1 b2
  go_enter Try.func86, Try.ntmps86
  go_wp2_with go_in
  go_quiet ((first
    | (go_at_call 123; with_reducible exact quiet_here (whole_is a b _ a1 a2 b1 b2))
    | (go_at_call 109; exact quiet_here (low_is (a * b) (wMull a b) _ rfl))))
  go_wp2
  go_ret
  exact ⟨rfl, (((Below.refl _ _).alloc (Nat.le_refl _) _).trans (below_drewN (Below.refl _ _) _))⟩
end Go.Proofs.Ytbcfmlcfkihenaa
