/- What package shift's functions answer that shift by a number: Shl, Shr, Sar, Rol. Conditions: the numbers are of the parameters' kinds. -/
import Derived.Test.YtbcfmlcfkihenaaProg
import Derived.Test.YtbcfmlcfkihenaaBitsL
import Derived.Test.YtbcfmlcfkihenaaBitsR
import Derived.Handy
import Derived.Lib.Hide
import Derived.Deep.QuietTactic
import Derived.BigQuiet
import Derived.WalkSmall
namespace Go.Proofs.Ytbcfmlcfkihenaa
open Go.RowKit

theorem shBy_is (n : Int) (w : World) :
    Calls Try.prog 101 #[.int .i32 n] w fun e w' => e = .returned (.int .u32 (sn n)) ∧ w = w' := by
  go_enter Try.func101, Try.ntmps101
  go_wp2
  go_ret
  exact ⟨ret_int (by rw [sn_cast]; omega), rfl⟩

theorem shl_is (x n : Int) (w : World) :
    Calls Try.prog 77 #[.int .i32 x, .int .i32 n] w fun e w' => e = .returned (.int .i32 (wShl x n)) ∧ w = w' := by
  have b := sn_lt n
  go_enter Try.func77, Try.ntmps77
  go_wp2_with (go_at_call 101; refine (shBy_is _ _).mono ?_; rintro e w' ⟨rfl, rfl⟩)
  go_ret
  refine ⟨ret_int ?_, rfl⟩
  rw [← us_wd, ← us_wd, wd_mul_pow, wd_us, ← sg_us]
  rfl
theorem shr_is (x n : Int) (w : World) :
    Calls Try.prog 78 #[.int .i32 x, .int .i32 n] w fun e w' => e = .returned (.int .i32 (wShr x n)) ∧ w = w' := by
  have b := sn_lt n
  go_enter Try.func78, Try.ntmps78
  go_wp2_with (go_at_call 101; refine (shBy_is _ _).mono ?_; rintro e w' ⟨rfl, rfl⟩)
  go_ret
  exact ⟨ret_int (by rw [← us_wd, us_shr, ← sg_us]; rfl), rfl⟩
theorem sar_is (x n : Int) (w : World) :
    Calls Try.prog 79 #[.int .i32 x, .int .i32 n] w fun e w' => e = .returned (.int .i32 (wSar x n)) ∧ w.alloc (.cells #[.int .i32 x] 21) = w' := by
  have b := sn_lt n
  go_enter Try.func79, Try.ntmps79
  go_wp2_with (first
    | (go_at_call 101; refine (shBy_is _ _).mono ?_; rintro e w' ⟨rfl, rfl⟩)
    | (go_at_call 78; refine (shr_is _ _ _).mono ?_; rintro e w' ⟨rfl, rfl⟩)
    | go_in)
  go_ret
  exact ⟨ret_int (sar_word x (sn n)), rfl⟩

theorem rol_is (x n : Int) (w : World) :
    Calls Try.prog 80 #[.int .i32 x, .int .i32 n] w fun e w' => e = .returned (.int .i32 (wRol x n)) ∧ w = w' := by
  have b := sn_lt n
  have e := us_wd x
  go_enter Try.func80, Try.ntmps80
  go_wp2_with (first
    | (go_at_call 101; refine (shBy_is _ _).mono ?_; rintro e w' ⟨rfl, rfl⟩)
    | (go_at_call 103; rw [← us_wd]; refine (rot32_is _ _ _ b).mono ?_; rintro e w' ⟨rfl, rfl⟩))
  go_ret
  exact ⟨ret_int (by rw [← sg_us]; rfl), rfl⟩

theorem clz_is (x : Int) (w : World) :
    Calls Try.prog 113 #[.int .i32 x] w fun e w' => e = .returned (.int .i32 (wClz x)) ∧ w = w' := by
  have b := wClz_bd x
  have e := Lib.hid (wd_mod x)
  go_enter Try.func113, Try.ntmps113
  go_wp2_with (go_at_call 126; refine (lead32_is _ _ (by omega) (by omega)).mono ?_; rw [e.out]; rintro e w' ⟨rfl, rfl⟩)
  go_ret
  exact ⟨ret_int (IntWalk.wrap32_in (wClz x) ⟨by omega, by omega⟩), rfl⟩

end Go.Proofs.Ytbcfmlcfkihenaa
