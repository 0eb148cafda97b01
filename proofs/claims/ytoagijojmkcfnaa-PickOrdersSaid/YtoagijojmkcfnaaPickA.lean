/- What package pick's functions answer. Conditions: the numbers are of the parameters' kinds. -/
import Derived.Test.YtoagijojmkcfnaaProg
import Derived.Test.YtoagijojmkcfnaaPickD
import Derived.Test.YtoagijojmkcfnaaWordA
import Derived.Handy
import Derived.Lib.Hide
import Derived.Deep.QuietTactic
import Derived.BigQuiet
import Derived.WalkSmall
namespace Go.Proofs.Ytoagijojmkcfnaa
open Go.RowKit

theorem sign_is (x : Int) (w : World) (h1 : -2147483648 ≤ x) (h2 : x ≤ 2147483647) :
    Calls Try.prog 9 #[.int .i32 x] w fun e w' => e = .returned (.int .i32 (wSign x)) ∧ w = w' := by
  have E := Lib.hid (sign_shr h1 h2)
  go_enter Try.func9, Try.ntmps9
  go_wp2
  go_ret
  exact ⟨ret_int E.out, rfl⟩
theorem mask_is (x : Int) (w : World) (h1 : -2147483648 ≤ x) (h2 : x ≤ 2147483647) :
    Calls Try.prog 7 #[.int .i32 x] w fun e w' => e = .returned (.int .i32 (wMask x)) ∧ w = w' := by
  have E := Lib.hid (mask_sign h1 h2)
  have B := Lib.hid (bits_i32_or x (wrap32 (-x)))
  go_enter Try.func7, Try.ntmps7
  go_wp2_with (go_at_call 9; refine (sign_is _ _ (by rw [B.out]; exact (sg_bd _).1) (by rw [B.out]; exact (sg_bd _).2)).mono ?_; rintro e w' ⟨rfl, rfl⟩)
  go_ret
  exact ⟨ret_int E.out, rfl⟩
theorem choose_is (m a b : Int) (w : World) :
    Calls Try.prog 27 #[.int .i32 m, .int .i32 a, .int .i32 b] w fun e w' => e = .returned (.int .i32 (wSel m a b)) ∧ w = w' := by
  have E := Lib.hid (sel_bits m a b)
  go_enter Try.func27, Try.ntmps27
  go_wp2
  go_ret
  exact ⟨ret_int E.out, rfl⟩
theorem sel_is (m a b : Int) (w : World) :
    Calls Try.prog 11 #[.int .i32 m, .int .i32 a, .int .i32 b] w fun e w' => e = .returned (.int .i32 (wSel m a b)) ∧ w = w' := by
  go_enter Try.func11, Try.ntmps11
  go_wp2_with (go_at_call 27; refine (choose_is _ _ _ _).mono ?_; rintro e w' ⟨rfl, rfl⟩)
  go_ret
  exact ⟨rfl, rfl⟩
theorem flip_is (x m : Int) (w : World) :
    Calls Try.prog 13 #[.int .i32 x, .int .i32 m] w fun e w' => e = .returned (.int .i32 (wFlip x m)) ∧ w = w' := by
  have E := Lib.hid (flip_bits x m)
  go_enter Try.func13, Try.ntmps13
  go_wp2
  go_ret
  exact ⟨ret_int E.out, rfl⟩
theorem below_is (a b : Int) (w : World) (h1 : -2147483648 ≤ a) (h2 : a ≤ 2147483647) (h3 : -2147483648 ≤ b) (h4 : b ≤ 2147483647) :
    Calls Try.prog 37 #[.int .i32 a, .int .i32 b] w fun e w' => e = .returned (.int .i32 (wBelow a b)) ∧ w = w' := by
  have E := below_shr (a := a) (b := b) (by omega) (by omega)
  have hb := wBelow_bd a b
  go_enter Try.func37, Try.ntmps37
  go_wp2
  go_ret
  exact ⟨rfl, rfl⟩
theorem belowU_is (a b : Int) (w : World) (h1 : 0 ≤ a) (h2 : a ≤ 4294967295) (h3 : 0 ≤ b) (h4 : b ≤ 4294967295) :
    Calls Try.prog 38 #[.int .u32 a, .int .u32 b] w fun e w' => e = .returned (.int .i32 (wBelow a b)) ∧ w = w' := by
  have E := below_shr (a := a) (b := b) (by omega) (by omega)
  have hb := wBelow_bd a b
  go_enter Try.func38, Try.ntmps38
  go_wp2
  go_ret
  exact ⟨rfl, rfl⟩
theorem less_m (a b : Int) (w : World) (h1 : -2147483648 ≤ a) (h2 : a ≤ 2147483647) (h3 : -2147483648 ≤ b) (h4 : b ≤ 2147483647) :
    Calls Try.prog 32 #[.agg #[.int .i32 a, .int .i32 b]] w fun e w' => e = .returned (.int .i32 (wBelow a b)) ∧ w.alloc (.cells #[.int .i32 a, .int .i32 b] 38) = w' := by
  go_enter Try.func32, Try.ntmps32
  go_wp2_with (go_at_call 37; refine (below_is _ _ _ h1 h2 h3 h4).mono ?_; rintro e w' ⟨rfl, rfl⟩)
  go_ret
  exact ⟨rfl, rfl⟩
theorem under_m (a b : Int) (w : World) :
    Calls Try.prog 33 #[.agg #[.int .i32 a, .int .i32 b]] w fun e w' => e = .returned (.int .i32 (wBelow (a % 4294967296) (b % 4294967296))) ∧ w.alloc (.cells #[.int .i32 a, .int .i32 b] 38) = w' := by
  go_enter Try.func33, Try.ntmps33
  go_wp2_with (go_at_call 38; refine (belowU_is _ _ _ (by omega) (by omega) (by omega) (by omega)).mono ?_; rintro e w' ⟨rfl, rfl⟩)
  go_ret
  exact ⟨rfl, rfl⟩
theorem same_m (a b : Int) (w : World) :
    Calls Try.prog 35 #[.agg #[.int .i32 a, .int .i32 b]] w fun e w' => e = .returned (.int .i32 (bits .xor .i32 (-1) (wMask (bits .xor .i32 a b)))) ∧ w.alloc (.cells #[.int .i32 a, .int .i32 b] 38) = w' := by
  have B := Lib.hid (bits_i32_xor a b)
  go_enter Try.func35, Try.ntmps35
  go_wp2_with (go_at_call 7; refine (mask_is _ _ (by rw [B.out]; exact (sg_bd _).1) (by rw [B.out]; exact (sg_bd _).2)).mono ?_; rintro e w' ⟨rfl, rfl⟩)
  go_ret
  exact ⟨rfl, rfl⟩
theorem less_is (a b : Int) (w : World) (h1 : -2147483648 ≤ a) (h2 : a ≤ 2147483647) (h3 : -2147483648 ≤ b) (h4 : b ≤ 2147483647) :
    Calls Try.prog 15 #[.int .i32 a, .int .i32 b] w fun e w' => e = .returned (.int .i32 (wLess a b)) ∧ w.alloc (.cells #[.int .i32 a, .int .i32 b] 38) = w' := by
  have E := Lib.hid (below_one a b)
  go_enter Try.func15, Try.ntmps15
  go_wp2_with (first
    | (go_at_call 32; refine (less_m _ _ _ h1 h2 h3 h4).mono ?_; rintro e w' ⟨rfl, rfl⟩)
    | go_in)
  go_ret
  exact ⟨ret_int E.out, rfl⟩
theorem under_is (a b : Int) (w : World) :
    Calls Try.prog 17 #[.int .i32 a, .int .i32 b] w fun e w' => e = .returned (.int .i32 (wUnder a b)) ∧ w.alloc (.cells #[.int .i32 a, .int .i32 b] 38) = w' := by
  have E := Lib.hid ((below_one (a % 4294967296) (b % 4294967296)).trans (under_one a b))
  go_enter Try.func17, Try.ntmps17
  go_wp2_with (first
    | (go_at_call 33; refine (under_m _ _ _).mono ?_; rintro e w' ⟨rfl, rfl⟩)
    | go_in)
  go_ret
  exact ⟨ret_int E.out, rfl⟩
theorem same_is (a b : Int) (w : World) (h1 : -2147483648 ≤ a) (h2 : a ≤ 2147483647) (h3 : -2147483648 ≤ b) (h4 : b ≤ 2147483647) :
    Calls Try.prog 19 #[.int .i32 a, .int .i32 b] w fun e w' => e = .returned (.int .i32 (wSame a b)) ∧ w.alloc (.cells #[.int .i32 a, .int .i32 b] 38) = w' := by
  have E := Lib.hid (same_mask h1 h2 h3 h4)
  go_enter Try.func19, Try.ntmps19
  go_wp2_with (first
    | (go_at_call 35; refine (same_m _ _ _).mono ?_; rintro e w' ⟨rfl, rfl⟩)
    | go_in)
  go_ret
  exact ⟨ret_int E.out, rfl⟩
theorem min_is (a b : Int) (w : World) (h1 : -2147483648 ≤ a) (h2 : a ≤ 2147483647) (h3 : -2147483648 ≤ b) (h4 : b ≤ 2147483647) :
    Calls Try.prog 21 #[.int .i32 a, .int .i32 b] w fun e w' => e = .returned (.int .i32 (wMin a b)) ∧ w.alloc (.cells #[.int .i32 a, .int .i32 b] 38) = w' := by
  have E := Lib.hid (below_min h1 h2 h3 h4)
  go_enter Try.func21, Try.ntmps21
  go_wp2_with (first
    | (go_at_call 32; refine (less_m _ _ _ h1 h2 h3 h4).mono ?_; rintro e w' ⟨rfl, rfl⟩)
    | (go_at_call 27; refine (choose_is _ _ _ _).mono ?_; rintro e w' ⟨rfl, rfl⟩))
  go_ret
  exact ⟨ret_int E.out, rfl⟩
theorem max_is (a b : Int) (w : World) (h1 : -2147483648 ≤ a) (h2 : a ≤ 2147483647) (h3 : -2147483648 ≤ b) (h4 : b ≤ 2147483647) :
    Calls Try.prog 23 #[.int .i32 a, .int .i32 b] w fun e w' => e = .returned (.int .i32 (wMax a b)) ∧ w.alloc (.cells #[.int .i32 a, .int .i32 b] 38) = w' := by
  have E := Lib.hid (below_max h1 h2 h3 h4)
  go_enter Try.func23, Try.ntmps23
  go_wp2_with (first
    | (go_at_call 32; refine (less_m _ _ _ h1 h2 h3 h4).mono ?_; rintro e w' ⟨rfl, rfl⟩)
    | (go_at_call 27; refine (choose_is _ _ _ _).mono ?_; rintro e w' ⟨rfl, rfl⟩))
  go_ret
  exact ⟨ret_int E.out, rfl⟩
end Go.Proofs.Ytoagijojmkcfnaa
