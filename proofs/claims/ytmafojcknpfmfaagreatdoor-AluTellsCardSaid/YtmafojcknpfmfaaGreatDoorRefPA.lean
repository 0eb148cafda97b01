/- What the document's own plain answers for masks and which of two (package astrolaberef03) give. Conditions: the numbers are of the kind int32. -/
import Derived.Test.YtmafojcknpfmfaaGreatDoorRefShA
import Derived.Test.YtmafojcknpfmfaaGreatDoorPickD
import Derived.StillTailTactics
import Derived.Deep.RegionWith
namespace Go.Proofs.YtmafojcknpfmfaaGreatDoor
open Go.RowKit

theorem refMask_is (x : Int) (w : World) :
    Calls Tryz.prog 53 #[.int .i32 x] w fun e w' => e = .returned (.int .i32 (wMask x)) ∧ w = w' := by
  by_cases h : x = 0
  · have E := Lib.hid (show wMask x = 0 by unfold wMask; rw [if_pos h])
    go_enter Tryz.func53, Tryz.ntmps53
    go_wp2_with go_in
    go_ret
    exact ⟨ret_int E.out.symm, rfl⟩
  · have E := Lib.hid (show wMask x = -1 by unfold wMask; rw [if_neg h])
    go_enter Tryz.func53, Tryz.ntmps53
    go_wp2_with go_in
    go_ret
    exact ⟨ret_int E.out.symm, rfl⟩
theorem refSign_is (x : Int) (w : World) :
    Calls Tryz.prog 54 #[.int .i32 x] w fun e w' => e = .returned (.int .i32 (wSign x)) ∧ w = w' := by
  by_cases h : x < 0
  · have E := Lib.hid (show wSign x = -1 by unfold wSign; rw [if_pos h])
    go_enter Tryz.func54, Tryz.ntmps54
    go_wp2_with go_in
    go_ret
    exact ⟨ret_int E.out.symm, rfl⟩
  · have E := Lib.hid (show wSign x = 0 by unfold wSign; rw [if_neg h])
    go_enter Tryz.func54, Tryz.ntmps54
    go_wp2_with go_in
    go_ret
    exact ⟨ret_int E.out.symm, rfl⟩
theorem refLess_is (a b : Int) (w : World) :
    Calls Tryz.prog 64 #[.int .i32 a, .int .i32 b] w fun e w' => e = .returned (.int .i32 (wLess a b)) ∧ w = w' := by
  by_cases h : a < b
  · have E := Lib.hid (show wLess a b = 1 by unfold wLess; rw [if_pos h])
    go_enter Tryz.func64, Tryz.ntmps64
    go_wp2_with go_in
    go_ret
    exact ⟨ret_int E.out.symm, rfl⟩
  · have E := Lib.hid (show wLess a b = 0 by unfold wLess; rw [if_neg h])
    go_enter Tryz.func64, Tryz.ntmps64
    go_wp2_with go_in
    go_ret
    exact ⟨ret_int E.out.symm, rfl⟩
theorem refSame_is (a b : Int) (w : World) :
    Calls Tryz.prog 66 #[.int .i32 a, .int .i32 b] w fun e w' => e = .returned (.int .i32 (wSame a b)) ∧ w = w' := by
  by_cases h : a = b
  · have E := Lib.hid (show wSame a b = 1 by unfold wSame; rw [if_pos h])
    go_enter Tryz.func66, Tryz.ntmps66
    go_wp2_with go_in
    go_ret
    exact ⟨ret_int E.out.symm, rfl⟩
  · have E := Lib.hid (show wSame a b = 0 by unfold wSame; rw [if_neg h])
    go_enter Tryz.func66, Tryz.ntmps66
    go_wp2_with go_in
    go_ret
    exact ⟨ret_int E.out.symm, rfl⟩
theorem refUnder_is (a b : Int) (w : World) (h1 : -2147483648 ≤ a) (h2 : a ≤ 2147483647) (h3 : -2147483648 ≤ b) (h4 : b ≤ 2147483647) :
    Calls Tryz.prog 65 #[.int .i32 a, .int .i32 b] w fun e w' => e = .returned (.int .i32 (wUnder a b)) ∧ w = w' := by
  by_cases h : a % 4294967296 < b % 4294967296
  · have E := Lib.hid (show wUnder a b = 1 by unfold wUnder; rw [if_pos h])
    go_enter Tryz.func65, Tryz.ntmps65
    go_wp2_with (first
      | (go_at_call 104; refine (refPlain_is _ _ _ rfl (by omega) (by omega)).mono ?_; rintro e w' ⟨rfl, rfl⟩)
      | go_in)
    go_ret
    exact ⟨ret_int E.out.symm, rfl⟩
  · have E := Lib.hid (show wUnder a b = 0 by unfold wUnder; rw [if_neg h])
    go_enter Tryz.func65, Tryz.ntmps65
    go_wp2_with (first
      | (go_at_call 104; refine (refPlain_is _ _ _ rfl (by omega) (by omega)).mono ?_; rintro e w' ⟨rfl, rfl⟩)
      | go_in)
    go_ret
    exact ⟨ret_int E.out.symm, rfl⟩
theorem refMin_is (a b : Int) (w : World) :
    Calls Tryz.prog 67 #[.int .i32 a, .int .i32 b] w fun e w' => e = .returned (.int .i32 (wMin a b)) ∧ w = w' := by
  by_cases h : a < b
  · have E := Lib.hid (show wMin a b = a by unfold wMin; rw [if_pos h])
    go_enter Tryz.func67, Tryz.ntmps67
    go_wp2
    go_ret
    exact ⟨ret_int E.out.symm, rfl⟩
  · have E := Lib.hid (show wMin a b = b by unfold wMin; rw [if_neg h])
    go_enter Tryz.func67, Tryz.ntmps67
    go_wp2
    go_ret
    exact ⟨ret_int E.out.symm, rfl⟩
theorem refMax_is (a b : Int) (w : World) :
    Calls Tryz.prog 68 #[.int .i32 a, .int .i32 b] w fun e w' => e = .returned (.int .i32 (wMax a b)) ∧ w = w' := by
  by_cases h : a < b
  · have E := Lib.hid (show wMax a b = b by unfold wMax; rw [if_pos h])
    go_enter Tryz.func68, Tryz.ntmps68
    go_wp2
    go_ret
    exact ⟨ret_int E.out.symm, rfl⟩
  · have E := Lib.hid (show wMax a b = a by unfold wMax; rw [if_neg h])
    go_enter Tryz.func68, Tryz.ntmps68
    go_wp2
    go_ret
    exact ⟨ret_int E.out.symm, rfl⟩
end Go.Proofs.YtmafojcknpfmfaaGreatDoor
