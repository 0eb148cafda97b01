/- What package shift's functions answer that shift by a number: Shl, Shr, Sar, Rol. Conditions: the numbers are of the parameters' kinds. -/
import Derived.Test.YtmafojcknpfmfaaGreatDoorProg
import Derived.Test.YtmafojcknpfmfaaGreatDoorBitsL
import Derived.Test.YtmafojcknpfmfaaGreatDoorBitsR
import Derived.Handy
import Derived.Lib.Hide
import Derived.Deep.QuietTactic
import Derived.BigQuiet
import Derived.WalkSmall
namespace Go.Proofs.YtmafojcknpfmfaaGreatDoor
open Go.RowKit

theorem shBy_is (n : Int) (w : World) :
    Calls Tryz.prog 80 #[.int .i32 n] w fun e w' => e = .returned (.int .u32 (sn n)) ∧ w = w' := by
  go_enter Tryz.func80, Tryz.ntmps80
  go_wp2
  go_ret
  exact ⟨ret_int (by rw [sn_cast]; omega), rfl⟩

theorem shl_is (x n : Int) (w : World) :
    Calls Tryz.prog 28 #[.int .i32 x, .int .i32 n] w fun e w' => e = .returned (.int .i32 (wShl x n)) ∧ w = w' := by
  have b := sn_lt n
  go_enter Tryz.func28, Tryz.ntmps28
  go_wp2_with (go_at_call 80; refine (shBy_is _ _).mono ?_; rintro e w' ⟨rfl, rfl⟩)
  go_ret
  refine ⟨ret_int ?_, rfl⟩
  rw [← us_wd, ← us_wd, wd_mul_pow, wd_us, ← sg_us]
  rfl
theorem shr_is (x n : Int) (w : World) :
    Calls Tryz.prog 29 #[.int .i32 x, .int .i32 n] w fun e w' => e = .returned (.int .i32 (wShr x n)) ∧ w = w' := by
  have b := sn_lt n
  go_enter Tryz.func29, Tryz.ntmps29
  go_wp2_with (go_at_call 80; refine (shBy_is _ _).mono ?_; rintro e w' ⟨rfl, rfl⟩)
  go_ret
  exact ⟨ret_int (by rw [← us_wd, us_shr, ← sg_us]; rfl), rfl⟩
theorem sar_is (x n : Int) (w : World) :
    Calls Tryz.prog 30 #[.int .i32 x, .int .i32 n] w fun e w' => e = .returned (.int .i32 (wSar x n)) ∧ w.alloc (.cells #[.int .i32 x] 21) = w' := by
  have b := sn_lt n
  go_enter Tryz.func30, Tryz.ntmps30
  go_wp2_with (first
    | (go_at_call 80; refine (shBy_is _ _).mono ?_; rintro e w' ⟨rfl, rfl⟩)
    | (go_at_call 29; refine (shr_is _ _ _).mono ?_; rintro e w' ⟨rfl, rfl⟩)
    | go_in)
  go_ret
  exact ⟨ret_int (sar_word x (sn n)), rfl⟩

theorem rol_is (x n : Int) (w : World) :
    Calls Tryz.prog 31 #[.int .i32 x, .int .i32 n] w fun e w' => e = .returned (.int .i32 (wRol x n)) ∧ w = w' := by
  have b := sn_lt n
  have e := us_wd x
  go_enter Tryz.func31, Tryz.ntmps31
  go_wp2_with (first
    | (go_at_call 80; refine (shBy_is _ _).mono ?_; rintro e w' ⟨rfl, rfl⟩)
    | (go_at_call 82; rw [← us_wd]; refine (rot32_is _ _ _ b).mono ?_; rintro e w' ⟨rfl, rfl⟩))
  go_ret
  exact ⟨ret_int (by rw [← sg_us]; rfl), rfl⟩

theorem clz_is (x : Int) (w : World) :
    Calls Tryz.prog 75 #[.int .i32 x] w fun e w' => e = .returned (.int .i32 (wClz x)) ∧ w = w' := by
  have b := wClz_bd x
  have e := Lib.hid (wd_mod x)
  go_enter Tryz.func75, Tryz.ntmps75
  go_wp2_with (go_at_call 107; refine (lead32_is _ _ (by omega) (by omega)).mono ?_; rw [e.out]; rintro e w' ⟨rfl, rfl⟩)
  go_ret
  exact ⟨ret_int (IntWalk.wrap32_in (wClz x) ⟨by omega, by omega⟩), rfl⟩

end Go.Proofs.YtmafojcknpfmfaaGreatDoor
