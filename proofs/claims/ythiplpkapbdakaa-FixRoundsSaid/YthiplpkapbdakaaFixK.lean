/- Package fix's examples on the page, within a law. -/
import Derived.Test.YthiplpkapbdakaaFixA
import Derived.Test.YthiplpkapbdakaaKeep
namespace Go.Proofs.Ythiplpkapbdakaa
open Go.RowKit

theorem fixAwake_is (w : World) :
    Calls Try.prog 18 #[] w fun e w' => e = .returned (.bool true) ∧ Below w.heap.size w w' := by
  have hb := Below.refl w.heap.size w
  have hB := Nat.le_refl w.heap.size
  have e1 : wMulq 1073741824 12345 = 12345 := by decide +kernel
  have e2 : wMulq (-2147483648) (-2147483648) = 2147483647 := by decide +kernel
  have e3 : wRnd (-3) 1 = -1 := by decide +kernel
  have e4 : wMulr 65536 7 = 7 := by decide +kernel
  have e5 : wMulh (-1) 1 = -1 := by decide +kernel
  have e6 : wMull 2147483647 2 = -2 := by unfold wMull; rw [show (2147483647 : Int) * 2 = 4294967294 by decide]; unfold wrap32; decide
  go_enter Try.func18, Try.ntmps18
  go_wp2_with (first
    | (go_at_call 10; refine (keep (mulq_is _ _ _ (by omega) (by omega) (by omega) (by omega)) hb hB).mono ?_; rintro e w1 ⟨rfl, hb, hB⟩)
    | (go_at_call 8; refine (keep (round_b _ _ _ (by omega) (by omega) (by omega) (by omega)) hb hB).mono ?_; rintro e w1 ⟨rfl, hb, hB⟩)
    | (go_at_call 12; refine (keep (mulr_is _ _ _ (by omega) (by omega) (by omega) (by omega)) hb hB).mono ?_; rintro e w1 ⟨rfl, hb, hB⟩)
    | (go_at_call 14; refine (keep (mulh_is _ _ _ (by omega) (by omega) (by omega) (by omega)) hb hB).mono ?_; rintro e w1 ⟨rfl, hb, hB⟩)
    | (go_at_call 16; refine (keep (mull_is _ _ _ (by omega) (by omega) (by omega) (by omega)) hb hB).mono ?_; rintro e w1 ⟨rfl, hb, hB⟩))
  go_ret
  exact ⟨rfl, hb⟩
end Go.Proofs.Ythiplpkapbdakaa
