/- The walk of the law RootSqrt: it returns true and writes nothing that was there. -/
import Derived.Test.YtbcfmlcfkihenaaRootK
namespace Go.Proofs.Ytbcfmlcfkihenaa.rootSqrt
open Go.RowKit Go.ChangeShapes Go.OpenShut

set_option maxHeartbeats 1000000 in
theorem walk (x : Int) (w0 : (Lit.int .i32 x).wf = true) (w : World) :
    Calls Try.prog 5 #[.int .i32 x] w fun e w' => e = .returned (.bool true) ∧ Below w.heap.size w w' := by
  obtain ⟨x1, x2⟩ := bounds_i32 w0
  have hb := Below.refl w.heap.size w
  have hB := Nat.le_refl w.heap.size
  by_cases h : x < 1
  · go_enter Try.func5, Try.ntmps5
    go_wp2_with (go_at_call 17; refine (keep (rootAwake_is _) hb hB).mono ?_; rintro e w1 ⟨rfl, hb, hB⟩)
    go_ret
    exact ⟨rfl, hb⟩
  · obtain ⟨t0, t1, t2⟩ := sqrt_true (show 1 ≤ x by omega) x2
    have s2 := (wSqrt_bd x).2
    obtain ⟨s, hs⟩ : ∃ s, wSqrt x = s := ⟨_, rfl⟩
    rw [hs] at t0 t1 t2 s2
    have HS := Lib.hid hs
    clear hs
    by_cases hf : s * s - x * 1073741824 < 0
    all_goals
      go_enter Try.func5, Try.ntmps5
      go_wp2_with (first
        | (go_at_call 15; refine (keep (sqrt_v x s _ x1 x2 HS.out) hb hB).mono ?_; rintro e w1 ⟨rfl, hb, hB⟩)
        | (go_at_call 17; refine (keep (rootAwake_is _) hb hB).mono ?_; rintro e w1 ⟨rfl, hb, hB⟩))
      go_ret
      exact ⟨rfl, hb⟩
end Go.Proofs.Ytbcfmlcfkihenaa.rootSqrt
