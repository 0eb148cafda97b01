/- The walk of the law OpsTell: it returns true and writes nothing that was there. Condition: the tables lie as the program's text has them. -/
import Derived.Test.YtnnekaechojcgaaDoorOpsK
import Derived.Test.YtnnekaechojcgaaDoorOpsR2
namespace Go.Proofs.YtnnekaechojcgaaDoor.opsTell
open Go.RowKit Go.ChangeShapes Go.OpenShut

set_option maxHeartbeats 1000000 in
theorem walk (n : Int) (s : ByteArray) (w0 : (Lit.int .i64 n).wf = true) (_w1 : s.size ≤ maxLen) (w : World) (hL : OpsLaid w) :
    Calls Tryd.prog 3 #[.int .i64 n, .string s] w fun e w' => e = .returned (.bool true) ∧ Below w.heap.size w w' := by
  obtain ⟨b1, b2⟩ := bounds_i64 w0
  have hb := Below.refl w.heap.size w
  have hB := Nat.le_refl w.heap.size
  have e1 := str_same (rfl : wName n = wName n)
  have e2 := str_same (rfl : wShape n = wShape n)
  by_cases hs : (100 : Int) < s.size
  · go_enter Tryd.func3, Tryd.ntmps3
    go_wp2_with (go_at_call 5; refine (keep (opsAwake_is _ (hL.below hb)) hb hB).mono ?_; rintro e w1 ⟨rfl, hb, hB⟩)
    go_ret
    exact ⟨rfl, hb⟩
  · go_enter Tryd.func3, Tryd.ntmps3
    go_wp2_with (first
      | (go_at_call 6; refine (keep (name_is _ _) hb hB).mono ?_; rintro e w1 ⟨rfl, hb, hB⟩)
      | (go_at_call 10; refine (keep (shape_L _ _ (hL.below hb)) hb hB).mono ?_; rintro e w1 ⟨rfl, hb, hB⟩)
      | (go_at_call 8; refine (keep (find_is _ _) hb hB).mono ?_; rintro e w1 ⟨rfl, hb, hB⟩)
      | (go_at_call 12; refine (cost_L _ _ (hL.below hb)).mono ?_; rintro e w1 ⟨rfl, rfl⟩)
      | (go_at_call 16; refine (leaks_is _ _).mono ?_; rintro e w1 ⟨rfl, rfl⟩)
      | (go_at_call 14; refine (reckons_is _ _).mono ?_; rintro e w1 ⟨rfl, rfl⟩)
      | (go_at_call 7; refine (keep (refName_is _ _ b1 b2) hb hB).mono ?_; rintro e w1 ⟨rfl, hb, hB⟩)
      | (go_at_call 11; refine (refShape_is _ _).mono ?_; rintro e w1 ⟨rfl, rfl⟩)
      | (go_at_call 9; refine (keep (refFind_is _ _) hb hB).mono ?_; rintro e w1 ⟨rfl, hb, hB⟩)
      | (go_at_call 13; refine (keep (refCost_is _ _ b1 b2) hb hB).mono ?_; rintro e w1 ⟨rfl, hb, hB⟩)
      | (go_at_call 17; refine (keep (refLeaks_is _ _) hb hB).mono ?_; rintro e w1 ⟨rfl, hb, hB⟩)
      | (go_at_call 15; refine (refReckons_is _ _).mono ?_; rintro e w1 ⟨rfl, rfl⟩)
      | (go_at_call 5; refine (keep (opsAwake_is _ (hL.below hb)) hb hB).mono ?_; rintro e w1 ⟨rfl, hb, hB⟩))
    go_ret
    exact ⟨rfl, hb⟩
end Go.Proofs.YtnnekaechojcgaaDoor.opsTell
