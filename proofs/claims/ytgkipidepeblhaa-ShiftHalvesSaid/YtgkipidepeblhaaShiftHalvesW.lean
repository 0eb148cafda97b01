/- The walk of the law ShiftHalves: it returns true and writes nothing that was there. -/
import Derived.Test.YtgkipidepeblhaaShiftK
import Derived.Test.YtgkipidepeblhaaShiftL
namespace Go.Proofs.Ytgkipidepeblhaa.shiftHalves
open Go.RowKit Go.ChangeShapes Go.OpenShut

theorem walk (a0 a1 : Int) (w0 : (Lit.int .i32 a0).wf = true) (w1 : (Lit.int .i32 a1).wf = true) (w : World) :
    Calls Try.prog 7 #[.int .i32 a0, .int .i32 a1] w fun e w' => e = .returned (.bool true) ∧ Below w.heap.size w w' := by
  obtain ⟨b1, b2⟩ := bounds_i32 w0
  obtain ⟨b3, b4⟩ := bounds_i32 w1
  have hb := Below.refl w.heap.size w
  have hB := Nat.le_refl w.heap.size
  have k0 := sn_lt a1
  have ek := and_31 a1
  go_enter Try.func7, Try.ntmps7
  go_wp2_with fail
  go_loopw [6, 7, 8, 9] (fun a b c i wr => ∃ j : Nat, j ≤ sn a1 ∧ i = .int .i32 j ∧ a = .int .i32 (wSar a0 j) ∧ b = .int .i32 (wShr a0 j) ∧ c = .int .i32 (wShl a0 j) ∧ Below w.heap.size w wr ∧ w.heap.size ≤ wr.heap.size) (fun _ _ _ i _ => sn a1 - (intOf i).toNat)
  case atStart => exact ⟨0, by omega, rfl, by rw [sar_none _ b1 b2], by rw [shr_none _ b1 b2], by rw [shl_none _ b1 b2], hb, hB⟩
  case round =>
    obtain ⟨j, hj, rfl, rfl, rfl, rfl, hb, hB⟩ := hrel
    by_cases hlt : j < sn a1
    · have hlt' : (j : Int) < sn a1 := by omega
      have F1 := Lib.hid (sar_next a0 (show j + 1 < 32 by omega) b1 b2)
      have F2 := Lib.hid (shr_next a0 (show j + 1 < 32 by omega))
      have F3 := Lib.hid (shl_next a0 (show j + 1 < 32 by omega))
      go_wp2_with (first
        | (go_at_call 12; refine (keep (sar_b _ _ _) hb hB).mono ?_; rintro e w1 ⟨rfl, hb, hB⟩)
        | (go_at_call 18; refine (keep (ones_b _ _) hb hB).mono ?_; rintro e w1 ⟨rfl, hb, hB⟩)
        | (go_at_call 10; refine (shr_is _ _ _).mono ?_; rintro e w' ⟨rfl, rfl⟩)
        | (go_at_call 8; refine (shl_is _ _ _).mono ?_; rintro e w' ⟨rfl, rfl⟩)
        | (go_at_call 14; refine (rol_is _ _ _).mono ?_; rintro e w' ⟨rfl, rfl⟩)
        | (go_at_call 20; refine (turn_is _ _).mono ?_; rintro e w' ⟨rfl, rfl⟩)
        | (go_at_call 22; refine (keep (shiftAwake_is _) hb hB).mono ?_; rintro e w1 ⟨rfl, hb, hB⟩))
      go_roundw
      case rel => exact ⟨j + 1, by omega, by go_num, by rw [F1.out], by rw [F2.out], by rw [F3.out], hb, hB⟩
      case measure => simp [intOf]; omega
    · obtain rfl : j = sn a1 := by omega
      rw [sar_sn, shr_sn, shl_sn]
      go_wp2_with (first
        | (go_at_call 12; refine (keep (sar_b _ _ _) hb hB).mono ?_; rintro e w1 ⟨rfl, hb, hB⟩)
        | (go_at_call 18; refine (keep (ones_b _ _) hb hB).mono ?_; rintro e w1 ⟨rfl, hb, hB⟩)
        | (go_at_call 10; refine (shr_is _ _ _).mono ?_; rintro e w' ⟨rfl, rfl⟩)
        | (go_at_call 8; refine (shl_is _ _ _).mono ?_; rintro e w' ⟨rfl, rfl⟩)
        | (go_at_call 14; refine (rol_is _ _ _).mono ?_; rintro e w' ⟨rfl, rfl⟩)
        | (go_at_call 20; refine (turn_is _ _).mono ?_; rintro e w' ⟨rfl, rfl⟩)
        | (go_at_call 22; refine (keep (shiftAwake_is _) hb hB).mono ?_; rintro e w1 ⟨rfl, hb, hB⟩))
      go_ret
      exact ⟨rfl, hb⟩
end Go.Proofs.Ytgkipidepeblhaa.shiftHalves
