/- The walk of the law PickTells: it returns true and writes nothing that was there. -/
import Derived.Test.YtoagijojmkcfnaaPickK
import Derived.Test.YtoagijojmkcfnaaRefPB
namespace Go.Proofs.Ytoagijojmkcfnaa.pickTells
open Go.RowKit Go.ChangeShapes Go.OpenShut

theorem walk (a0 a1 a2 : Int) (w0 : (Lit.int .i32 a0).wf = true) (w1 : (Lit.int .i32 a1).wf = true) (w2 : (Lit.int .i32 a2).wf = true) (w : World) :
    Calls Try.prog 3 #[.int .i32 a0, .int .i32 a1, .int .i32 a2] w fun e w' => e = .returned (.bool true) ∧ Below w.heap.size w w' := by
  obtain ⟨b1, b2⟩ := bounds_i32 w0
  obtain ⟨b3, b4⟩ := bounds_i32 w1
  obtain ⟨b5, b6⟩ := bounds_i32 w2
  have hb := Below.refl w.heap.size w
  have hB := Nat.le_refl w.heap.size
  go_enter Try.func3, Try.ntmps3
  go_wp2_with (first
    | (go_at_call 11; refine (sel_is _ _ _ _).mono ?_; rintro e w' ⟨rfl, rfl⟩)
    | (go_at_call 13; refine (flip_is _ _ _).mono ?_; rintro e w' ⟨rfl, rfl⟩)
    | (go_at_call 7; refine (mask_is _ _ b3 b4).mono ?_; rintro e w' ⟨rfl, rfl⟩)
    | (go_at_call 9; refine (sign_is _ _ b3 b4).mono ?_; rintro e w' ⟨rfl, rfl⟩)
    | (go_at_call 15; refine (keep (less_b _ _ _ b3 b4 b5 b6) hb hB).mono ?_; rintro e w1 ⟨rfl, hb, hB⟩)
    | (go_at_call 17; refine (keep (under_b _ _ _) hb hB).mono ?_; rintro e w1 ⟨rfl, hb, hB⟩)
    | (go_at_call 19; refine (keep (same_b _ _ _ b3 b4 b5 b6) hb hB).mono ?_; rintro e w1 ⟨rfl, hb, hB⟩)
    | (go_at_call 21; refine (keep (min_b _ _ _ b3 b4 b5 b6) hb hB).mono ?_; rintro e w1 ⟨rfl, hb, hB⟩)
    | (go_at_call 23; refine (keep (max_b _ _ _ b3 b4 b5 b6) hb hB).mono ?_; rintro e w1 ⟨rfl, hb, hB⟩)
    | (go_at_call 8; refine (refMask_is _ _).mono ?_; rintro e w' ⟨rfl, rfl⟩)
    | (go_at_call 10; refine (refSign_is _ _).mono ?_; rintro e w' ⟨rfl, rfl⟩)
    | (go_at_call 16; refine (refLess_is _ _ _).mono ?_; rintro e w' ⟨rfl, rfl⟩)
    | (go_at_call 18; refine (refUnder_is _ _ _ b3 b4 b5 b6).mono ?_; rintro e w' ⟨rfl, rfl⟩)
    | (go_at_call 20; refine (refSame_is _ _ _).mono ?_; rintro e w' ⟨rfl, rfl⟩)
    | (go_at_call 22; refine (refMin_is _ _ _).mono ?_; rintro e w' ⟨rfl, rfl⟩)
    | (go_at_call 24; refine (refMax_is _ _ _).mono ?_; rintro e w' ⟨rfl, rfl⟩)
    | (go_at_call 12; refine (keep (refSel_is _ _ _ _ b1 b2 b3 b4 b5 b6) hb hB).mono ?_; rintro e w1 ⟨rfl, hb, hB⟩)
    | (go_at_call 14; refine (keep (refFlip_is _ _ _ b3 b4 b1 b2) hb hB).mono ?_; rintro e w1 ⟨rfl, hb, hB⟩)
    | (go_at_call 25; refine (keep (pickAwake_is _) hb hB).mono ?_; rintro e w1 ⟨rfl, hb, hB⟩))
  go_ret
  exact ⟨rfl, hb⟩
end Go.Proofs.Ytoagijojmkcfnaa.pickTells
