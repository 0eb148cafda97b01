/- The walk of the law FixNear: it returns true and writes nothing that was there. -/
import Derived.Test.YthiplpkapbdakaaFixK
import Derived.Test.YthiplpkapbdakaaFixL
namespace Go.Proofs.Ythiplpkapbdakaa.fixNear
open Go.RowKit Go.ChangeShapes Go.OpenShut

set_option maxHeartbeats 2000000 in
theorem walk (a0 a1 : Int) (w0 : (Lit.int .i32 a0).wf = true) (w1 : (Lit.int .i32 a1).wf = true) (w : World) :
    Calls Try.prog 4 #[.int .i32 a0, .int .i32 a1] w fun e w' => e = .returned (.bool true) ∧ Below w.heap.size w w' := by
  obtain ⟨b1, b2⟩ := bounds_i32 w0
  obtain ⟨b3, b4⟩ := bounds_i32 w1
  have hb := Below.refl w.heap.size w
  have hB := Nat.le_refl w.heap.size
  obtain ⟨p1, p2⟩ := prod_bd b1 b2 b3 b4
  rcases mulq_near a0 a1 with ⟨q1, q2, q3, q4⟩ | ⟨q1, q2⟩ | ⟨q1, q2⟩ <;> rcases mulr_near a0 a1 with ⟨r1, r2, r3, r4⟩ | ⟨r1, r2⟩ | ⟨r1, r2⟩
  all_goals
    go_enter Try.func4, Try.ntmps4
    go_wp2_with (first
      | (go_at_call 8; refine (keep (round_b _ _ _ (by omega) (by omega) (by omega) (by omega)) hb hB).mono ?_; rintro e w1 ⟨rfl, hb, hB⟩)
      | (go_at_call 10; refine (keep (mulq_is _ _ _ (by omega) (by omega) (by omega) (by omega)) hb hB).mono ?_; rintro e w1 ⟨rfl, hb, hB⟩)
      | (go_at_call 12; refine (keep (mulr_is _ _ _ (by omega) (by omega) (by omega) (by omega)) hb hB).mono ?_; rintro e w1 ⟨rfl, hb, hB⟩)
      | (go_at_call 14; refine (keep (mulh_is _ _ _ (by omega) (by omega) (by omega) (by omega)) hb hB).mono ?_; rintro e w1 ⟨rfl, hb, hB⟩)
      | (go_at_call 16; refine (keep (mull_is _ _ _ (by omega) (by omega) (by omega) (by omega)) hb hB).mono ?_; rintro e w1 ⟨rfl, hb, hB⟩)
      | (go_at_call 18; refine (keep (fixAwake_is _) hb hB).mono ?_; rintro e w1 ⟨rfl, hb, hB⟩))
    all_goals
      go_ret
      exact ⟨rfl, hb⟩
end Go.Proofs.Ythiplpkapbdakaa.fixNear
