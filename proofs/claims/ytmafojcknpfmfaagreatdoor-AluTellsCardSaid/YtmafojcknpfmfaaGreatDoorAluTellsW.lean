/- The walk of the law AluTells: it returns true and writes nothing that was there. Condition: the table of costs lies as the program's text has it. -/
import Derived.Test.YtmafojcknpfmfaaGreatDoorAluK
import Derived.Test.YtmafojcknpfmfaaGreatDoorAluS
namespace Go.Proofs.YtmafojcknpfmfaaGreatDoor.aluTells
open Go.RowKit Go.ChangeShapes Go.OpenShut

set_option maxHeartbeats 1000000 in
theorem walk (n a b : Int) (w0 : (Lit.int .i64 n).wf = true) (w1 : (Lit.int .i32 a).wf = true) (w2 : (Lit.int .i32 b).wf = true) (w : World) (hL : CostsLaid w) :
    Calls Tryz.prog 3 #[.int .i64 n, .int .i32 a, .int .i32 b] w fun e w' => e = .returned (.bool true) ∧ Below w.heap.size w w' := by
  obtain ⟨n1, n2⟩ := bounds_i64 w0
  obtain ⟨a1, a2⟩ := bounds_i32 w1
  obtain ⟨b1, b2⟩ := bounds_i32 w2
  have hb := Below.refl w.heap.size w
  have hB := Nat.le_refl w.heap.size
  go_enter Tryz.func3, Tryz.ntmps3
  go_wp2_with (first
    | (go_at_call 4; refine (keep (do_is _ _ _ _ a1 a2 b1 b2) hb hB).mono ?_; rintro e w1 ⟨rfl, hb, hB⟩)
    | (go_at_call 5; refine (keep (refDo_is _ _ _ _ a1 a2 b1 b2) hb hB).mono ?_; rintro e w1 ⟨rfl, hb, hB⟩)
    | (go_at_call 6; refine (acost_C _ _ _ a1 a2 (hL.below hb)).mono ?_; rintro e w1 ⟨rfl, rfl⟩)
    | (go_at_call 7; refine (keep (refCostA_is _ _ _ n1 n2 a1 a2) hb hB).mono ?_; rintro e w1 ⟨rfl, hb, hB⟩)
    | (go_at_call 8; refine (keep (aluAwake_is _ (hL.below hb)) hb hB).mono ?_; rintro e w1 ⟨rfl, hb, hB⟩))
  go_ret
  exact ⟨rfl, hb⟩
end Go.Proofs.YtmafojcknpfmfaaGreatDoor.aluTells
