/- What package pick's functions answer. Conditions: the numbers are of the parameters' kinds. -/
import Derived.Test.YtbcfmlcfkihenaaProg
import Derived.Test.YtbcfmlcfkihenaaPickD
import Derived.Test.YtbcfmlcfkihenaaWordA
import Derived.Handy
import Derived.Lib.Hide
import Derived.Deep.QuietTactic
import Derived.BigQuiet
import Derived.WalkSmall
namespace Go.Proofs.Ytbcfmlcfkihenaa
open Go.RowKit

theorem sign_is (x : Int) (w : World) (h1 : -2147483648 ≤ x) (h2 : x ≤ 2147483647) :
    Calls Try.prog 117 #[.int .i32 x] w fun e w' => e = .returned (.int .i32 (wSign x)) ∧ w = w' := by
  have E := Lib.hid (sign_shr h1 h2)
  go_enter Try.func117, Try.ntmps117
  go_wp2
  go_ret
  exact ⟨ret_int E.out, rfl⟩
theorem mask_is (x : Int) (w : World) (h1 : -2147483648 ≤ x) (h2 : x ≤ 2147483647) :
    Calls Try.prog 116 #[.int .i32 x] w fun e w' => e = .returned (.int .i32 (wMask x)) ∧ w = w' := by
  have E := Lib.hid (mask_sign h1 h2)
  have B := Lib.hid (bits_i32_or x (wrap32 (-x)))
  go_enter Try.func116, Try.ntmps116
  go_wp2_with (go_at_call 117; refine (sign_is _ _ (by rw [B.out]; exact (sg_bd _).1) (by rw [B.out]; exact (sg_bd _).2)).mono ?_; rintro e w' ⟨rfl, rfl⟩)
  go_ret
  exact ⟨ret_int E.out, rfl⟩
theorem choose_is (m a b : Int) (w : World) :
    Calls Try.prog 108 #[.int .i32 m, .int .i32 a, .int .i32 b] w fun e w' => e = .returned (.int .i32 (wSel m a b)) ∧ w = w' := by
  have E := Lib.hid (sel_bits m a b)
  go_enter Try.func108, Try.ntmps108
  go_wp2
  go_ret
  exact ⟨ret_int E.out, rfl⟩
theorem below_is (a b : Int) (w : World) (h1 : -2147483648 ≤ a) (h2 : a ≤ 2147483647) (h3 : -2147483648 ≤ b) (h4 : b ≤ 2147483647) :
    Calls Try.prog 121 #[.int .i32 a, .int .i32 b] w fun e w' => e = .returned (.int .i32 (wBelow a b)) ∧ w = w' := by
  have E := below_shr (a := a) (b := b) (by omega) (by omega)
  have hb := wBelow_bd a b
  go_enter Try.func121, Try.ntmps121
  go_wp2
  go_ret
  exact ⟨rfl, rfl⟩
theorem belowU_is (a b : Int) (w : World) (h1 : 0 ≤ a) (h2 : a ≤ 4294967295) (h3 : 0 ≤ b) (h4 : b ≤ 4294967295) :
    Calls Try.prog 122 #[.int .u32 a, .int .u32 b] w fun e w' => e = .returned (.int .i32 (wBelow a b)) ∧ w = w' := by
  have E := below_shr (a := a) (b := b) (by omega) (by omega)
  have hb := wBelow_bd a b
  go_enter Try.func122, Try.ntmps122
  go_wp2
  go_ret
  exact ⟨rfl, rfl⟩
theorem less_m (a b : Int) (w : World) (h1 : -2147483648 ≤ a) (h2 : a ≤ 2147483647) (h3 : -2147483648 ≤ b) (h4 : b ≤ 2147483647) :
    Calls Try.prog 105 #[.agg #[.int .i32 a, .int .i32 b]] w fun e w' => e = .returned (.int .i32 (wBelow a b)) ∧ w.alloc (.cells #[.int .i32 a, .int .i32 b] 83) = w' := by
  go_enter Try.func105, Try.ntmps105
  go_wp2_with (go_at_call 121; refine (below_is _ _ _ h1 h2 h3 h4).mono ?_; rintro e w' ⟨rfl, rfl⟩)
  go_ret
  exact ⟨rfl, rfl⟩
theorem under_m (a b : Int) (w : World) :
    Calls Try.prog 106 #[.agg #[.int .i32 a, .int .i32 b]] w fun e w' => e = .returned (.int .i32 (wBelow (a % 4294967296) (b % 4294967296))) ∧ w.alloc (.cells #[.int .i32 a, .int .i32 b] 83) = w' := by
  go_enter Try.func106, Try.ntmps106
  go_wp2_with (go_at_call 122; refine (belowU_is _ _ _ (by omega) (by omega) (by omega) (by omega)).mono ?_; rintro e w' ⟨rfl, rfl⟩)
  go_ret
  exact ⟨rfl, rfl⟩
theorem same_m (a b : Int) (w : World) :
    Calls Try.prog 107 #[.agg #[.int .i32 a, .int .i32 b]] w fun e w' => e = .returned (.int .i32 (bits .xor .i32 (-1) (wMask (bits .xor .i32 a b)))) ∧ w.alloc (.cells #[.int .i32 a, .int .i32 b] 83) = w' := by
  have B := Lib.hid (bits_i32_xor a b)
  go_enter Try.func107, Try.ntmps107
  go_wp2_with (go_at_call 116; refine (mask_is _ _ (by rw [B.out]; exact (sg_bd _).1) (by rw [B.out]; exact (sg_bd _).2)).mono ?_; rintro e w' ⟨rfl, rfl⟩)
  go_ret
  exact ⟨rfl, rfl⟩
theorem less_is (a b : Int) (w : World) (h1 : -2147483648 ≤ a) (h2 : a ≤ 2147483647) (h3 : -2147483648 ≤ b) (h4 : b ≤ 2147483647) :
    Calls Try.prog 81 #[.int .i32 a, .int .i32 b] w fun e w' => e = .returned (.int .i32 (wLess a b)) ∧ w.alloc (.cells #[.int .i32 a, .int .i32 b] 83) = w' := by
  have E := Lib.hid (below_one a b)
  go_enter Try.func81, Try.ntmps81
  go_wp2_with (first
    | (go_at_call 105; refine (less_m _ _ _ h1 h2 h3 h4).mono ?_; rintro e w' ⟨rfl, rfl⟩)
    | go_in)
  go_ret
  exact ⟨ret_int E.out, rfl⟩
theorem under_is (a b : Int) (w : World) :
    Calls Try.prog 82 #[.int .i32 a, .int .i32 b] w fun e w' => e = .returned (.int .i32 (wUnder a b)) ∧ w.alloc (.cells #[.int .i32 a, .int .i32 b] 83) = w' := by
  have E := Lib.hid ((below_one (a % 4294967296) (b % 4294967296)).trans (under_one a b))
  go_enter Try.func82, Try.ntmps82
  go_wp2_with (first
    | (go_at_call 106; refine (under_m _ _ _).mono ?_; rintro e w' ⟨rfl, rfl⟩)
    | go_in)
  go_ret
  exact ⟨ret_int E.out, rfl⟩
theorem same_is (a b : Int) (w : World) (h1 : -2147483648 ≤ a) (h2 : a ≤ 2147483647) (h3 : -2147483648 ≤ b) (h4 : b ≤ 2147483647) :
    Calls Try.prog 83 #[.int .i32 a, .int .i32 b] w fun e w' => e = .returned (.int .i32 (wSame a b)) ∧ w.alloc (.cells #[.int .i32 a, .int .i32 b] 83) = w' := by
  have E := Lib.hid (same_mask h1 h2 h3 h4)
  go_enter Try.func83, Try.ntmps83
  go_wp2_with (first
    | (go_at_call 107; refine (same_m _ _ _).mono ?_; rintro e w' ⟨rfl, rfl⟩)
    | go_in)
  go_ret
  exact ⟨ret_int E.out, rfl⟩
theorem min_is (a b : Int) (w : World) (h1 : -2147483648 ≤ a) (h2 : a ≤ 2147483647) (h3 : -2147483648 ≤ b) (h4 : b ≤ 2147483647) :
    Calls Try.prog 84 #[.int .i32 a, .int .i32 b] w fun e w' => e = .returned (.int .i32 (wMin a b)) ∧ w.alloc (.cells #[.int .i32 a, .int .i32 b] 83) = w' := by
  have E := Lib.hid (below_min h1 h2 h3 h4)
  go_enter Try.func84, Try.ntmps84
  go_wp2_with (first
    | (go_at_call 105; refine (less_m _ _ _ h1 h2 h3 h4).mono ?_; rintro e w' ⟨rfl, rfl⟩)
    | (go_at_call 108; refine (choose_is _ _ _ _).mono ?_; rintro e w' ⟨rfl, rfl⟩))
  go_ret
  exact ⟨ret_int E.out, rfl⟩
theorem max_is (a b : Int) (w : World) (h1 : -2147483648 ≤ a) (h2 : a ≤ 2147483647) (h3 : -2147483648 ≤ b) (h4 : b ≤ 2147483647) :
    Calls Try.prog 85 #[.int .i32 a, .int .i32 b] w fun e w' => e = .returned (.int .i32 (wMax a b)) ∧ w.alloc (.cells #[.int .i32 a, .int .i32 b] 83) = w' := by
  have E := Lib.hid (below_max h1 h2 h3 h4)
  go_enter Try.func85, Try.ntmps85
  go_wp2_with (first
    | (go_at_call 105; refine (less_m _ _ _ h1 h2 h3 h4).mono ?_; rintro e w' ⟨rfl, rfl⟩)
    | (go_at_call 108; refine (choose_is _ _ _ _).mono ?_; rintro e w' ⟨rfl, rfl⟩))
  go_ret
  exact ⟨ret_int E.out, rfl⟩
end Go.Proofs.Ytbcfmlcfkihenaa
