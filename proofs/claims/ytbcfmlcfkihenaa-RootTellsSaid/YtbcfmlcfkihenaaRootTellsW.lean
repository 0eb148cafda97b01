/- The walk of the law RootTells: it returns true and writes nothing that was there. -/
import Derived.Test.YtbcfmlcfkihenaaRootK
import Derived.Test.YtbcfmlcfkihenaaRootR
namespace Go.Proofs.Ytbcfmlcfkihenaa.rootTells
open Go.RowKit Go.ChangeShapes Go.OpenShut

set_option maxHeartbeats 1000000 in
theorem walk (x v h : Int) (w0 : (Lit.int .i32 x).wf = true) (w1 : (Lit.int .i32 v).wf = true) (w2 : (Lit.int .i32 h).wf = true) (w : World) :
    Calls Try.prog 3 #[.int .i32 x, .int .i32 v, .int .i32 h] w fun e w' => e = .returned (.bool true) ∧ Below w.heap.size w w' := by
  obtain ⟨x1, x2⟩ := bounds_i32 w0
  obtain ⟨v1, v2⟩ := bounds_i32 w1
  obtain ⟨h1, h2⟩ := bounds_i32 w2
  have hb := Below.refl w.heap.size w
  have hB := Nat.le_refl w.heap.size
  go_enter Try.func3, Try.ntmps3
  go_wp2_with (first
    | (go_at_call 9; refine (keep (level_is _ _ x1 x2) hb hB).mono ?_; rintro e w1 ⟨rfl, hb, hB⟩)
    | (go_at_call 11; refine (keep (rsqrt_is _ _ x1 x2) hb hB).mono ?_; rintro e w1 ⟨rfl, hb, hB⟩)
    | (go_at_call 13; refine (keep (scale_is _ _ _ _ v1 v2 x1 x2 h1 h2) hb hB).mono ?_; rintro e w1 ⟨rfl, hb, hB⟩)
    | (go_at_call 15; refine (keep (sqrt_is _ _ x1 x2) hb hB).mono ?_; rintro e w1 ⟨rfl, hb, hB⟩)
    | (go_at_call 10; refine (keep (refLevel_is _ _ x1 x2) hb hB).mono ?_; rintro e w1 ⟨rfl, hb, hB⟩)
    | (go_at_call 12; refine (keep (refRsqrt_is _ _ x1 x2) hb hB).mono ?_; rintro e w1 ⟨rfl, hb, hB⟩)
    | (go_at_call 14; refine (keep (refScale_is _ _ _ _ v1 v2 x1 x2 h1 h2) hb hB).mono ?_; rintro e w1 ⟨rfl, hb, hB⟩)
    | (go_at_call 16; refine (keep (refSqrt_is _ _ x1 x2) hb hB).mono ?_; rintro e w1 ⟨rfl, hb, hB⟩)
    | (go_at_call 17; refine (keep (rootAwake_is _) hb hB).mono ?_; rintro e w1 ⟨rfl, hb, hB⟩))
  go_ret
  exact ⟨rfl, hb⟩
end Go.Proofs.Ytbcfmlcfkihenaa.rootTells
