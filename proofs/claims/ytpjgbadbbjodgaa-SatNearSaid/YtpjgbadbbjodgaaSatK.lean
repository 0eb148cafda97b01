/- Package sat's examples on the page, within a law. -/
import Derived.Test.YtpjgbadbbjodgaaSatA
import Derived.Test.YtpjgbadbbjodgaaKeep
namespace Go.Proofs.Ytpjgbadbbjodgaa
open Go.RowKit

theorem satAwake_is (w : World) :
    Calls Try.prog 21 #[] w fun e w' => e = .returned (.bool true) ∧ Below w.heap.size w w' := by
  have hb := Below.refl w.heap.size w
  have hB := Nat.le_refl w.heap.size
  have e3 : wClamp 5 7 6 = 6 := by decide +kernel
  have e4 : wCut (-1099511627776) = -2147483648 := by decide +kernel
  have e5 : wCut 2147483648 = 2147483647 := by decide +kernel
  have e6 : wCut (-2147483648) = -2147483648 := by decide +kernel
  have e7 : wAbs (-4) = 4 := by decide +kernel
  go_enter Try.func21, Try.ntmps21
  go_wp2_with (first
    | (go_at_call 11; refine (keep (add_is _ _ _ (by omega) (by omega) (by omega) (by omega)) hb hB).mono ?_; rintro e w1 ⟨rfl, hb, hB⟩)
    | (go_at_call 15; refine (keep (neg_is _ _ (by omega) (by omega)) hb hB).mono ?_; rintro e w1 ⟨rfl, hb, hB⟩)
    | (go_at_call 17; refine (keep (abs_is _ _ (by omega) (by omega)) hb hB).mono ?_; rintro e w1 ⟨rfl, hb, hB⟩)
    | (go_at_call 7; refine (sat_is _ _).mono ?_; rintro e w' ⟨rfl, rfl⟩)
    | (go_at_call 9; refine (hits_is _ _).mono ?_; rintro e w' ⟨rfl, rfl⟩)
    | (go_at_call 19; refine (clamp_is _ _ _ _).mono ?_; rintro e w' ⟨rfl, rfl⟩))
  go_ret
  exact ⟨rfl, hb⟩
end Go.Proofs.Ytpjgbadbbjodgaa
