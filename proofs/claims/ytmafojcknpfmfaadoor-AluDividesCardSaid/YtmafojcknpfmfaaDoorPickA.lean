/- What package pick's functions answer. Conditions: the numbers are of the parameters' kinds. -/
import Derived.Test.YtmafojcknpfmfaaDoorProg
import Derived.Test.YtmafojcknpfmfaaDoorPickD
import Derived.Test.YtmafojcknpfmfaaDoorWordA
import Derived.Handy
import Derived.Lib.Hide
import Derived.Deep.QuietTactic
import Derived.BigQuiet
import Derived.WalkSmall
namespace Go.Proofs.YtmafojcknpfmfaaDoor
open Go.RowKit

theorem sign_is (x : Int) (w : World) (h1 : -2147483648 ≤ x) (h2 : x ≤ 2147483647) :
    Calls Tryd.prog 65 #[.int .i32 x] w fun e w' => e = .returned (.int .i32 (wSign x)) ∧ w = w' := by
  have E := Lib.hid (sign_shr h1 h2)
  go_enter Tryd.func65, Tryd.ntmps65
  go_wp2
  go_ret
  exact ⟨ret_int E.out, rfl⟩
theorem mask_is (x : Int) (w : World) (h1 : -2147483648 ≤ x) (h2 : x ≤ 2147483647) :
    Calls Tryd.prog 64 #[.int .i32 x] w fun e w' => e = .returned (.int .i32 (wMask x)) ∧ w = w' := by
  have E := Lib.hid (mask_sign h1 h2)
  have B := Lib.hid (bits_i32_or x (wrap32 (-x)))
  go_enter Tryd.func64, Tryd.ntmps64
  go_wp2_with (go_at_call 65; refine (sign_is _ _ (by rw [B.out]; exact (sg_bd _).1) (by rw [B.out]; exact (sg_bd _).2)).mono ?_; rintro e w' ⟨rfl, rfl⟩)
  go_ret
  exact ⟨ret_int E.out, rfl⟩
theorem choose_is (m a b : Int) (w : World) :
    Calls Tryd.prog 57 #[.int .i32 m, .int .i32 a, .int .i32 b] w fun e w' => e = .returned (.int .i32 (wSel m a b)) ∧ w = w' := by
  have E := Lib.hid (sel_bits m a b)
  go_enter Tryd.func57, Tryd.ntmps57
  go_wp2
  go_ret
  exact ⟨ret_int E.out, rfl⟩
theorem flip_is (x m : Int) (w : World) :
    Calls Tryd.prog 46 #[.int .i32 x, .int .i32 m] w fun e w' => e = .returned (.int .i32 (wFlip x m)) ∧ w = w' := by
  have E := Lib.hid (flip_bits x m)
  go_enter Tryd.func46, Tryd.ntmps46
  go_wp2
  go_ret
  exact ⟨ret_int E.out, rfl⟩
theorem below_is (a b : Int) (w : World) (h1 : -2147483648 ≤ a) (h2 : a ≤ 2147483647) (h3 : -2147483648 ≤ b) (h4 : b ≤ 2147483647) :
    Calls Tryd.prog 70 #[.int .i32 a, .int .i32 b] w fun e w' => e = .returned (.int .i32 (wBelow a b)) ∧ w = w' := by
  have E := below_shr (a := a) (b := b) (by omega) (by omega)
  have hb := wBelow_bd a b
  go_enter Tryd.func70, Tryd.ntmps70
  go_wp2
  go_ret
  exact ⟨rfl, rfl⟩
theorem belowU_is (a b : Int) (w : World) (h1 : 0 ≤ a) (h2 : a ≤ 4294967295) (h3 : 0 ≤ b) (h4 : b ≤ 4294967295) :
    Calls Tryd.prog 71 #[.int .u32 a, .int .u32 b] w fun e w' => e = .returned (.int .i32 (wBelow a b)) ∧ w = w' := by
  have E := below_shr (a := a) (b := b) (by omega) (by omega)
  have hb := wBelow_bd a b
  go_enter Tryd.func71, Tryd.ntmps71
  go_wp2
  go_ret
  exact ⟨rfl, rfl⟩
theorem less_m (a b : Int) (w : World) (h1 : -2147483648 ≤ a) (h2 : a ≤ 2147483647) (h3 : -2147483648 ≤ b) (h4 : b ≤ 2147483647) :
    Calls Tryd.prog 54 #[.agg #[.int .i32 a, .int .i32 b]] w fun e w' => e = .returned (.int .i32 (wBelow a b)) ∧ w.alloc (.cells #[.int .i32 a, .int .i32 b] 50) = w' := by
  go_enter Tryd.func54, Tryd.ntmps54
  go_wp2_with (go_at_call 70; refine (below_is _ _ _ h1 h2 h3 h4).mono ?_; rintro e w' ⟨rfl, rfl⟩)
  go_ret
  exact ⟨rfl, rfl⟩
theorem under_m (a b : Int) (w : World) :
    Calls Tryd.prog 55 #[.agg #[.int .i32 a, .int .i32 b]] w fun e w' => e = .returned (.int .i32 (wBelow (a % 4294967296) (b % 4294967296))) ∧ w.alloc (.cells #[.int .i32 a, .int .i32 b] 50) = w' := by
  go_enter Tryd.func55, Tryd.ntmps55
  go_wp2_with (go_at_call 71; refine (belowU_is _ _ _ (by omega) (by omega) (by omega) (by omega)).mono ?_; rintro e w' ⟨rfl, rfl⟩)
  go_ret
  exact ⟨rfl, rfl⟩
theorem same_m (a b : Int) (w : World) :
    Calls Tryd.prog 56 #[.agg #[.int .i32 a, .int .i32 b]] w fun e w' => e = .returned (.int .i32 (bits .xor .i32 (-1) (wMask (bits .xor .i32 a b)))) ∧ w.alloc (.cells #[.int .i32 a, .int .i32 b] 50) = w' := by
  have B := Lib.hid (bits_i32_xor a b)
  go_enter Tryd.func56, Tryd.ntmps56
  go_wp2_with (go_at_call 64; refine (mask_is _ _ (by rw [B.out]; exact (sg_bd _).1) (by rw [B.out]; exact (sg_bd _).2)).mono ?_; rintro e w' ⟨rfl, rfl⟩)
  go_ret
  exact ⟨rfl, rfl⟩
theorem less_is (a b : Int) (w : World) (h1 : -2147483648 ≤ a) (h2 : a ≤ 2147483647) (h3 : -2147483648 ≤ b) (h4 : b ≤ 2147483647) :
    Calls Tryd.prog 28 #[.int .i32 a, .int .i32 b] w fun e w' => e = .returned (.int .i32 (wLess a b)) ∧ w.alloc (.cells #[.int .i32 a, .int .i32 b] 50) = w' := by
  have E := Lib.hid (below_one a b)
  go_enter Tryd.func28, Tryd.ntmps28
  go_wp2_with (first
    | (go_at_call 54; refine (less_m _ _ _ h1 h2 h3 h4).mono ?_; rintro e w' ⟨rfl, rfl⟩)
    | go_in)
  go_ret
  exact ⟨ret_int E.out, rfl⟩
theorem under_is (a b : Int) (w : World) :
    Calls Tryd.prog 29 #[.int .i32 a, .int .i32 b] w fun e w' => e = .returned (.int .i32 (wUnder a b)) ∧ w.alloc (.cells #[.int .i32 a, .int .i32 b] 50) = w' := by
  have E := Lib.hid ((below_one (a % 4294967296) (b % 4294967296)).trans (under_one a b))
  go_enter Tryd.func29, Tryd.ntmps29
  go_wp2_with (first
    | (go_at_call 55; refine (under_m _ _ _).mono ?_; rintro e w' ⟨rfl, rfl⟩)
    | go_in)
  go_ret
  exact ⟨ret_int E.out, rfl⟩
theorem same_is (a b : Int) (w : World) (h1 : -2147483648 ≤ a) (h2 : a ≤ 2147483647) (h3 : -2147483648 ≤ b) (h4 : b ≤ 2147483647) :
    Calls Tryd.prog 30 #[.int .i32 a, .int .i32 b] w fun e w' => e = .returned (.int .i32 (wSame a b)) ∧ w.alloc (.cells #[.int .i32 a, .int .i32 b] 50) = w' := by
  have E := Lib.hid (same_mask h1 h2 h3 h4)
  go_enter Tryd.func30, Tryd.ntmps30
  go_wp2_with (first
    | (go_at_call 56; refine (same_m _ _ _).mono ?_; rintro e w' ⟨rfl, rfl⟩)
    | go_in)
  go_ret
  exact ⟨ret_int E.out, rfl⟩
theorem min_is (a b : Int) (w : World) (h1 : -2147483648 ≤ a) (h2 : a ≤ 2147483647) (h3 : -2147483648 ≤ b) (h4 : b ≤ 2147483647) :
    Calls Tryd.prog 31 #[.int .i32 a, .int .i32 b] w fun e w' => e = .returned (.int .i32 (wMin a b)) ∧ w.alloc (.cells #[.int .i32 a, .int .i32 b] 50) = w' := by
  have E := Lib.hid (below_min h1 h2 h3 h4)
  go_enter Tryd.func31, Tryd.ntmps31
  go_wp2_with (first
    | (go_at_call 54; refine (less_m _ _ _ h1 h2 h3 h4).mono ?_; rintro e w' ⟨rfl, rfl⟩)
    | (go_at_call 57; refine (choose_is _ _ _ _).mono ?_; rintro e w' ⟨rfl, rfl⟩))
  go_ret
  exact ⟨ret_int E.out, rfl⟩
theorem max_is (a b : Int) (w : World) (h1 : -2147483648 ≤ a) (h2 : a ≤ 2147483647) (h3 : -2147483648 ≤ b) (h4 : b ≤ 2147483647) :
    Calls Tryd.prog 32 #[.int .i32 a, .int .i32 b] w fun e w' => e = .returned (.int .i32 (wMax a b)) ∧ w.alloc (.cells #[.int .i32 a, .int .i32 b] 50) = w' := by
  have E := Lib.hid (below_max h1 h2 h3 h4)
  go_enter Tryd.func32, Tryd.ntmps32
  go_wp2_with (first
    | (go_at_call 54; refine (less_m _ _ _ h1 h2 h3 h4).mono ?_; rintro e w' ⟨rfl, rfl⟩)
    | (go_at_call 57; refine (choose_is _ _ _ _).mono ?_; rintro e w' ⟨rfl, rfl⟩))
  go_ret
  exact ⟨ret_int E.out, rfl⟩
end Go.Proofs.YtmafojcknpfmfaaDoor
