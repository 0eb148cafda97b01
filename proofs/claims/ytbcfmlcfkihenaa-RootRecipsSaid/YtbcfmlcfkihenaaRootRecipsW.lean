/- The walk of the law RootRecips: it returns true and writes nothing that was there. -/
import Derived.Test.YtbcfmlcfkihenaaRootK
import Derived.Test.YtbcfmlcfkihenaaRootR
namespace Go.Proofs.Ytbcfmlcfkihenaa.rootRecips
open Go.RowKit Go.ChangeShapes Go.OpenShut

theorem walk (x : Int) (w0 : (Lit.int .i32 x).wf = true) (w : World) :
    Calls Try.prog 7 #[.int .i32 x] w fun e w' => e = .returned (.bool true) ∧ Below w.heap.size w w' := by
  obtain ⟨x1, x2⟩ := bounds_i32 w0
  have hb := Below.refl w.heap.size w
  have hB := Nat.le_refl w.heap.size
  go_enter Try.func7, Try.ntmps7
  go_wp2_with (first
    | (go_at_call 19; refine (keep (recip_is _ _ x1 x2) hb hB).mono ?_; rintro e w1 ⟨rfl, hb, hB⟩)
    | (go_at_call 20; refine (keep (refRecip_is _ _ x1 x2) hb hB).mono ?_; rintro e w1 ⟨rfl, hb, hB⟩)
    | (go_at_call 17; refine (keep (rootAwake_is _) hb hB).mono ?_; rintro e w1 ⟨rfl, hb, hB⟩))
  go_ret
  exact ⟨rfl, hb⟩
end Go.Proofs.Ytbcfmlcfkihenaa.rootRecips
