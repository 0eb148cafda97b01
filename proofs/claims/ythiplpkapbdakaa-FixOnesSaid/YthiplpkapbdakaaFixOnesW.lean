/- The walk of the law FixOnes: it returns true and writes nothing that was there. -/
import Derived.Test.YthiplpkapbdakaaFixK
import Derived.Test.YthiplpkapbdakaaFixL
namespace Go.Proofs.Ythiplpkapbdakaa.fixOnes
open Go.RowKit Go.ChangeShapes Go.OpenShut

set_option maxHeartbeats 2000000 in
theorem walk (a0 a1 : Int) (w0 : (Lit.int .i32 a0).wf = true) (w1 : (Lit.int .i32 a1).wf = true) (w : World) :
    Calls Try.prog 6 #[.int .i32 a0, .int .i32 a1] w fun e w' => e = .returned (.bool true) ∧ Below w.heap.size w w' := by
  obtain ⟨b1, b2⟩ := bounds_i32 w0
  obtain ⟨b3, b4⟩ := bounds_i32 w1
  have hb := Below.refl w.heap.size w
  have hB := Nat.le_refl w.heap.size
  have c1 := mulq_comm a0 a1
  have c2 := mulr_comm a0 a1
  have c3 := mulq_one b1 b2
  have c4 := mulr_one b1 b2
  have c5 := mulq_zero a0
  rcases (show a0 = -2147483648 ∨ -2147483647 ≤ a0 by omega) with rfl | h
  · have c6 : wMulq (-2147483648) (-1073741824) = 2147483647 := by decide +kernel
    go_enter Try.func6, Try.ntmps6
    go_wp2_with (first
      | (go_at_call 8; refine (keep (round_b _ _ _ (by omega) (by omega) (by omega) (by omega)) hb hB).mono ?_; rintro e w1 ⟨rfl, hb, hB⟩)
      | (go_at_call 10; refine (keep (mulq_is _ _ _ (by omega) (by omega) (by omega) (by omega)) hb hB).mono ?_; rintro e w1 ⟨rfl, hb, hB⟩)
      | (go_at_call 12; refine (keep (mulr_is _ _ _ (by omega) (by omega) (by omega) (by omega)) hb hB).mono ?_; rintro e w1 ⟨rfl, hb, hB⟩)
      | (go_at_call 14; refine (keep (mulh_is _ _ _ (by omega) (by omega) (by omega) (by omega)) hb hB).mono ?_; rintro e w1 ⟨rfl, hb, hB⟩)
      | (go_at_call 16; refine (keep (mull_is _ _ _ (by omega) (by omega) (by omega) (by omega)) hb hB).mono ?_; rintro e w1 ⟨rfl, hb, hB⟩)
      | (go_at_call 18; refine (keep (fixAwake_is _) hb hB).mono ?_; rintro e w1 ⟨rfl, hb, hB⟩))
    go_ret
    exact ⟨rfl, hb⟩
  · have c6 := mulq_neg h b2
    have c7 : (a0 == -2147483648) = false := by simp; omega
    go_enter Try.func6, Try.ntmps6
    go_wp2_with (first
      | (go_at_call 8; refine (keep (round_b _ _ _ (by omega) (by omega) (by omega) (by omega)) hb hB).mono ?_; rintro e w1 ⟨rfl, hb, hB⟩)
      | (go_at_call 10; refine (keep (mulq_is _ _ _ (by omega) (by omega) (by omega) (by omega)) hb hB).mono ?_; rintro e w1 ⟨rfl, hb, hB⟩)
      | (go_at_call 12; refine (keep (mulr_is _ _ _ (by omega) (by omega) (by omega) (by omega)) hb hB).mono ?_; rintro e w1 ⟨rfl, hb, hB⟩)
      | (go_at_call 14; refine (keep (mulh_is _ _ _ (by omega) (by omega) (by omega) (by omega)) hb hB).mono ?_; rintro e w1 ⟨rfl, hb, hB⟩)
      | (go_at_call 16; refine (keep (mull_is _ _ _ (by omega) (by omega) (by omega) (by omega)) hb hB).mono ?_; rintro e w1 ⟨rfl, hb, hB⟩)
      | (go_at_call 18; refine (keep (fixAwake_is _) hb hB).mono ?_; rintro e w1 ⟨rfl, hb, hB⟩))
    go_ret
    exact ⟨rfl, hb⟩
end Go.Proofs.Ythiplpkapbdakaa.fixOnes
