/- The walk of the law PickSels: it returns true and writes nothing that was there. -/
import Derived.Test.YtoagijojmkcfnaaPickK
import Derived.Test.YtoagijojmkcfnaaPickL
namespace Go.Proofs.Ytoagijojmkcfnaa.pickSels
open Go.RowKit Go.ChangeShapes Go.OpenShut

theorem walk (a0 a1 a2 : Int) (w0 : (Lit.int .i32 a0).wf = true) (w1 : (Lit.int .i32 a1).wf = true) (w2 : (Lit.int .i32 a2).wf = true) (w : World) :
    Calls Try.prog 4 #[.int .i32 a0, .int .i32 a1, .int .i32 a2] w fun e w' => e = .returned (.bool true) ∧ Below w.heap.size w w' := by
  obtain ⟨b1, b2⟩ := bounds_i32 w0
  obtain ⟨b3, b4⟩ := bounds_i32 w1
  obtain ⟨b5, b6⟩ := bounds_i32 w2
  have hb := Below.refl w.heap.size w
  have hB := Nat.le_refl w.heap.size
  have f1 := sel_mask a0 b3 b4 b5 b6
  have f2 := sel_nmask a0 b3 b4 b5 b6
  have f3 := sel_other a0 a1 a2
  have f4 := sel_less b3 b4 b5 b6
  have l := wLess_bd a1 a2
  by_cases h : a0 = 0
  · rw [if_pos h] at f1 f2
    have hd : (a0 == 0) = true := by simp [h]
    clear h
    go_enter Try.func4, Try.ntmps4
    go_wp2_with (first
      | (go_at_call 11; refine (sel_is _ _ _ _).mono ?_; rintro e w' ⟨rfl, rfl⟩)
      | (go_at_call 7; refine (mask_is _ _ b1 b2).mono ?_; rintro e w' ⟨rfl, rfl⟩)
      | (go_at_call 15; refine (keep (less_b _ _ _ b3 b4 b5 b6) hb hB).mono ?_; rintro e w1 ⟨rfl, hb, hB⟩)
      | (go_at_call 21; refine (keep (min_b _ _ _ b3 b4 b5 b6) hb hB).mono ?_; rintro e w1 ⟨rfl, hb, hB⟩)
      | (go_at_call 25; refine (keep (pickAwake_is _) hb hB).mono ?_; rintro e w1 ⟨rfl, hb, hB⟩))
    go_ret
    exact ⟨rfl, hb⟩
  · rw [if_neg h] at f1 f2
    have hd : (a0 == 0) = false := by simp [h]
    clear h
    go_enter Try.func4, Try.ntmps4
    go_wp2_with (first
      | (go_at_call 11; refine (sel_is _ _ _ _).mono ?_; rintro e w' ⟨rfl, rfl⟩)
      | (go_at_call 7; refine (mask_is _ _ b1 b2).mono ?_; rintro e w' ⟨rfl, rfl⟩)
      | (go_at_call 15; refine (keep (less_b _ _ _ b3 b4 b5 b6) hb hB).mono ?_; rintro e w1 ⟨rfl, hb, hB⟩)
      | (go_at_call 21; refine (keep (min_b _ _ _ b3 b4 b5 b6) hb hB).mono ?_; rintro e w1 ⟨rfl, hb, hB⟩)
      | (go_at_call 25; refine (keep (pickAwake_is _) hb hB).mono ?_; rintro e w1 ⟨rfl, hb, hB⟩))
    go_ret
    exact ⟨rfl, hb⟩
end Go.Proofs.Ytoagijojmkcfnaa.pickSels
