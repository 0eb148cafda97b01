/- What package shift's functions answer that shift by a number: Shl, Shr, Sar, Rol. Conditions: the numbers are of the parameters' kinds. -/
import Derived.Test.YtmafojcknpfmfaaDoorProg
import Derived.Test.YtmafojcknpfmfaaDoorBitsL
import Derived.Test.YtmafojcknpfmfaaDoorBitsR
import Derived.Handy
import Derived.Lib.Hide
import Derived.Deep.QuietTactic
import Derived.BigQuiet
import Derived.WalkSmall
namespace Go.Proofs.YtmafojcknpfmfaaDoor
open Go.RowKit

theorem shBy_is (n : Int) (w : World) :
    Calls Tryd.prog 50 #[.int .i32 n] w fun e w' => e = .returned (.int .u32 (sn n)) ∧ w = w' := by
  go_enter Tryd.func50, Tryd.ntmps50
  go_wp2
  go_ret
  exact ⟨ret_int (by rw [sn_cast]; omega), rfl⟩

theorem shl_is (x n : Int) (w : World) :
    Calls Tryd.prog 24 #[.int .i32 x, .int .i32 n] w fun e w' => e = .returned (.int .i32 (wShl x n)) ∧ w = w' := by
  have b := sn_lt n
  go_enter Tryd.func24, Tryd.ntmps24
  go_wp2_with (go_at_call 50; refine (shBy_is _ _).mono ?_; rintro e w' ⟨rfl, rfl⟩)
  go_ret
  refine ⟨ret_int ?_, rfl⟩
  rw [← us_wd, ← us_wd, wd_mul_pow, wd_us, ← sg_us]
  rfl
theorem shr_is (x n : Int) (w : World) :
    Calls Tryd.prog 25 #[.int .i32 x, .int .i32 n] w fun e w' => e = .returned (.int .i32 (wShr x n)) ∧ w = w' := by
  have b := sn_lt n
  go_enter Tryd.func25, Tryd.ntmps25
  go_wp2_with (go_at_call 50; refine (shBy_is _ _).mono ?_; rintro e w' ⟨rfl, rfl⟩)
  go_ret
  exact ⟨ret_int (by rw [← us_wd, us_shr, ← sg_us]; rfl), rfl⟩
theorem sar_is (x n : Int) (w : World) :
    Calls Tryd.prog 26 #[.int .i32 x, .int .i32 n] w fun e w' => e = .returned (.int .i32 (wSar x n)) ∧ w.alloc (.cells #[.int .i32 x] 21) = w' := by
  have b := sn_lt n
  go_enter Tryd.func26, Tryd.ntmps26
  go_wp2_with (first
    | (go_at_call 50; refine (shBy_is _ _).mono ?_; rintro e w' ⟨rfl, rfl⟩)
    | (go_at_call 25; refine (shr_is _ _ _).mono ?_; rintro e w' ⟨rfl, rfl⟩)
    | go_in)
  go_ret
  exact ⟨ret_int (sar_word x (sn n)), rfl⟩

theorem rol_is (x n : Int) (w : World) :
    Calls Tryd.prog 27 #[.int .i32 x, .int .i32 n] w fun e w' => e = .returned (.int .i32 (wRol x n)) ∧ w = w' := by
  have b := sn_lt n
  have e := us_wd x
  go_enter Tryd.func27, Tryd.ntmps27
  go_wp2_with (first
    | (go_at_call 50; refine (shBy_is _ _).mono ?_; rintro e w' ⟨rfl, rfl⟩)
    | (go_at_call 52; rw [← us_wd]; refine (rot32_is _ _ _ b).mono ?_; rintro e w' ⟨rfl, rfl⟩))
  go_ret
  exact ⟨ret_int (by rw [← sg_us]; rfl), rfl⟩

theorem clz_is (x : Int) (w : World) :
    Calls Tryd.prog 47 #[.int .i32 x] w fun e w' => e = .returned (.int .i32 (wClz x)) ∧ w = w' := by
  have b := wClz_bd x
  have e := Lib.hid (wd_mod x)
  go_enter Tryd.func47, Tryd.ntmps47
  go_wp2_with (go_at_call 67; refine (lead32_is _ _ (by omega) (by omega)).mono ?_; rw [e.out]; rintro e w' ⟨rfl, rfl⟩)
  go_ret
  exact ⟨ret_int (IntWalk.wrap32_in (wClz x) ⟨by omega, by omega⟩), rfl⟩

end Go.Proofs.YtmafojcknpfmfaaDoor
