/- What package pick's functions answer. Conditions: the numbers are of the parameters' kinds. -/
import Derived.Test.YtmafojcknpfmfaaGreatDoorProg
import Derived.Test.YtmafojcknpfmfaaGreatDoorPickD
import Derived.Test.YtmafojcknpfmfaaGreatDoorWordA
import Derived.Handy
import Derived.Lib.Hide
import Derived.Deep.QuietTactic
import Derived.BigQuiet
import Derived.WalkSmall
namespace Go.Proofs.YtmafojcknpfmfaaGreatDoor
open Go.RowKit

theorem sign_is (x : Int) (w : World) (h1 : -2147483648 ≤ x) (h2 : x ≤ 2147483647) :
    Calls Tryz.prog 95 #[.int .i32 x] w fun e w' => e = .returned (.int .i32 (wSign x)) ∧ w = w' := by
  have E := Lib.hid (sign_shr h1 h2)
  go_enter Tryz.func95, Tryz.ntmps95
  go_wp2
  go_ret
  exact ⟨ret_int E.out, rfl⟩
theorem mask_is (x : Int) (w : World) (h1 : -2147483648 ≤ x) (h2 : x ≤ 2147483647) :
    Calls Tryz.prog 94 #[.int .i32 x] w fun e w' => e = .returned (.int .i32 (wMask x)) ∧ w = w' := by
  have E := Lib.hid (mask_sign h1 h2)
  have B := Lib.hid (bits_i32_or x (wrap32 (-x)))
  go_enter Tryz.func94, Tryz.ntmps94
  go_wp2_with (go_at_call 95; refine (sign_is _ _ (by rw [B.out]; exact (sg_bd _).1) (by rw [B.out]; exact (sg_bd _).2)).mono ?_; rintro e w' ⟨rfl, rfl⟩)
  go_ret
  exact ⟨ret_int E.out, rfl⟩
theorem choose_is (m a b : Int) (w : World) :
    Calls Tryz.prog 87 #[.int .i32 m, .int .i32 a, .int .i32 b] w fun e w' => e = .returned (.int .i32 (wSel m a b)) ∧ w = w' := by
  have E := Lib.hid (sel_bits m a b)
  go_enter Tryz.func87, Tryz.ntmps87
  go_wp2
  go_ret
  exact ⟨ret_int E.out, rfl⟩
theorem flip_is (x m : Int) (w : World) :
    Calls Tryz.prog 74 #[.int .i32 x, .int .i32 m] w fun e w' => e = .returned (.int .i32 (wFlip x m)) ∧ w = w' := by
  have E := Lib.hid (flip_bits x m)
  go_enter Tryz.func74, Tryz.ntmps74
  go_wp2
  go_ret
  exact ⟨ret_int E.out, rfl⟩
theorem below_is (a b : Int) (w : World) (h1 : -2147483648 ≤ a) (h2 : a ≤ 2147483647) (h3 : -2147483648 ≤ b) (h4 : b ≤ 2147483647) :
    Calls Tryz.prog 111 #[.int .i32 a, .int .i32 b] w fun e w' => e = .returned (.int .i32 (wBelow a b)) ∧ w = w' := by
  have E := below_shr (a := a) (b := b) (by omega) (by omega)
  have hb := wBelow_bd a b
  go_enter Tryz.func111, Tryz.ntmps111
  go_wp2
  go_ret
  exact ⟨rfl, rfl⟩
theorem belowU_is (a b : Int) (w : World) (h1 : 0 ≤ a) (h2 : a ≤ 4294967295) (h3 : 0 ≤ b) (h4 : b ≤ 4294967295) :
    Calls Tryz.prog 112 #[.int .u32 a, .int .u32 b] w fun e w' => e = .returned (.int .i32 (wBelow a b)) ∧ w = w' := by
  have E := below_shr (a := a) (b := b) (by omega) (by omega)
  have hb := wBelow_bd a b
  go_enter Tryz.func112, Tryz.ntmps112
  go_wp2
  go_ret
  exact ⟨rfl, rfl⟩
theorem less_m (a b : Int) (w : World) (h1 : -2147483648 ≤ a) (h2 : a ≤ 2147483647) (h3 : -2147483648 ≤ b) (h4 : b ≤ 2147483647) :
    Calls Tryz.prog 84 #[.agg #[.int .i32 a, .int .i32 b]] w fun e w' => e = .returned (.int .i32 (wBelow a b)) ∧ w.alloc (.cells #[.int .i32 a, .int .i32 b] 55) = w' := by
  go_enter Tryz.func84, Tryz.ntmps84
  go_wp2_with (go_at_call 111; refine (below_is _ _ _ h1 h2 h3 h4).mono ?_; rintro e w' ⟨rfl, rfl⟩)
  go_ret
  exact ⟨rfl, rfl⟩
theorem under_m (a b : Int) (w : World) :
    Calls Tryz.prog 85 #[.agg #[.int .i32 a, .int .i32 b]] w fun e w' => e = .returned (.int .i32 (wBelow (a % 4294967296) (b % 4294967296))) ∧ w.alloc (.cells #[.int .i32 a, .int .i32 b] 55) = w' := by
  go_enter Tryz.func85, Tryz.ntmps85
  go_wp2_with (go_at_call 112; refine (belowU_is _ _ _ (by omega) (by omega) (by omega) (by omega)).mono ?_; rintro e w' ⟨rfl, rfl⟩)
  go_ret
  exact ⟨rfl, rfl⟩
theorem same_m (a b : Int) (w : World) :
    Calls Tryz.prog 86 #[.agg #[.int .i32 a, .int .i32 b]] w fun e w' => e = .returned (.int .i32 (bits .xor .i32 (-1) (wMask (bits .xor .i32 a b)))) ∧ w.alloc (.cells #[.int .i32 a, .int .i32 b] 55) = w' := by
  have B := Lib.hid (bits_i32_xor a b)
  go_enter Tryz.func86, Tryz.ntmps86
  go_wp2_with (go_at_call 94; refine (mask_is _ _ (by rw [B.out]; exact (sg_bd _).1) (by rw [B.out]; exact (sg_bd _).2)).mono ?_; rintro e w' ⟨rfl, rfl⟩)
  go_ret
  exact ⟨rfl, rfl⟩
theorem less_is (a b : Int) (w : World) (h1 : -2147483648 ≤ a) (h2 : a ≤ 2147483647) (h3 : -2147483648 ≤ b) (h4 : b ≤ 2147483647) :
    Calls Tryz.prog 32 #[.int .i32 a, .int .i32 b] w fun e w' => e = .returned (.int .i32 (wLess a b)) ∧ w.alloc (.cells #[.int .i32 a, .int .i32 b] 55) = w' := by
  have E := Lib.hid (below_one a b)
  go_enter Tryz.func32, Tryz.ntmps32
  go_wp2_with (first
    | (go_at_call 84; refine (less_m _ _ _ h1 h2 h3 h4).mono ?_; rintro e w' ⟨rfl, rfl⟩)
    | go_in)
  go_ret
  exact ⟨ret_int E.out, rfl⟩
theorem under_is (a b : Int) (w : World) :
    Calls Tryz.prog 33 #[.int .i32 a, .int .i32 b] w fun e w' => e = .returned (.int .i32 (wUnder a b)) ∧ w.alloc (.cells #[.int .i32 a, .int .i32 b] 55) = w' := by
  have E := Lib.hid ((below_one (a % 4294967296) (b % 4294967296)).trans (under_one a b))
  go_enter Tryz.func33, Tryz.ntmps33
  go_wp2_with (first
    | (go_at_call 85; refine (under_m _ _ _).mono ?_; rintro e w' ⟨rfl, rfl⟩)
    | go_in)
  go_ret
  exact ⟨ret_int E.out, rfl⟩
theorem same_is (a b : Int) (w : World) (h1 : -2147483648 ≤ a) (h2 : a ≤ 2147483647) (h3 : -2147483648 ≤ b) (h4 : b ≤ 2147483647) :
    Calls Tryz.prog 34 #[.int .i32 a, .int .i32 b] w fun e w' => e = .returned (.int .i32 (wSame a b)) ∧ w.alloc (.cells #[.int .i32 a, .int .i32 b] 55) = w' := by
  have E := Lib.hid (same_mask h1 h2 h3 h4)
  go_enter Tryz.func34, Tryz.ntmps34
  go_wp2_with (first
    | (go_at_call 86; refine (same_m _ _ _).mono ?_; rintro e w' ⟨rfl, rfl⟩)
    | go_in)
  go_ret
  exact ⟨ret_int E.out, rfl⟩
theorem min_is (a b : Int) (w : World) (h1 : -2147483648 ≤ a) (h2 : a ≤ 2147483647) (h3 : -2147483648 ≤ b) (h4 : b ≤ 2147483647) :
    Calls Tryz.prog 35 #[.int .i32 a, .int .i32 b] w fun e w' => e = .returned (.int .i32 (wMin a b)) ∧ w.alloc (.cells #[.int .i32 a, .int .i32 b] 55) = w' := by
  have E := Lib.hid (below_min h1 h2 h3 h4)
  go_enter Tryz.func35, Tryz.ntmps35
  go_wp2_with (first
    | (go_at_call 84; refine (less_m _ _ _ h1 h2 h3 h4).mono ?_; rintro e w' ⟨rfl, rfl⟩)
    | (go_at_call 87; refine (choose_is _ _ _ _).mono ?_; rintro e w' ⟨rfl, rfl⟩))
  go_ret
  exact ⟨ret_int E.out, rfl⟩
theorem max_is (a b : Int) (w : World) (h1 : -2147483648 ≤ a) (h2 : a ≤ 2147483647) (h3 : -2147483648 ≤ b) (h4 : b ≤ 2147483647) :
    Calls Tryz.prog 36 #[.int .i32 a, .int .i32 b] w fun e w' => e = .returned (.int .i32 (wMax a b)) ∧ w.alloc (.cells #[.int .i32 a, .int .i32 b] 55) = w' := by
  have E := Lib.hid (below_max h1 h2 h3 h4)
  go_enter Tryz.func36, Tryz.ntmps36
  go_wp2_with (first
    | (go_at_call 84; refine (less_m _ _ _ h1 h2 h3 h4).mono ?_; rintro e w' ⟨rfl, rfl⟩)
    | (go_at_call 87; refine (choose_is _ _ _ _).mono ?_; rintro e w' ⟨rfl, rfl⟩))
  go_ret
  exact ⟨ret_int E.out, rfl⟩
end Go.Proofs.YtmafojcknpfmfaaGreatDoor
