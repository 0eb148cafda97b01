/- The walk of the law RootOnes: it returns true and writes nothing that was there. -/
import Derived.Test.YtbcfmlcfkihenaaRootK
namespace Go.Proofs.Ytbcfmlcfkihenaa.rootOnes
open Go.RowKit Go.ChangeShapes Go.OpenShut

set_option maxHeartbeats 1000000 in
theorem walk (x : Int) (w0 : (Lit.int .i32 x).wf = true) (w : World) :
    Calls Try.prog 8 #[.int .i32 x] w fun e w' => e = .returned (.bool true) ∧ Below w.heap.size w w' := by
  obtain ⟨x1, x2⟩ := bounds_i32 w0
  have hb := Below.refl w.heap.size w
  have hB := Nat.le_refl w.heap.size
  by_cases h : x < 1
  · go_enter Try.func8, Try.ntmps8
    go_wp2_with (go_at_call 17; refine (keep (rootAwake_is _) hb hB).mono ?_; rintro e w1 ⟨rfl, hb, hB⟩)
    go_ret
    exact ⟨rfl, hb⟩
  · obtain ⟨n, hh, n30, z1, z2, g1, g2, A1, A2⟩ := rc_true (show 1 ≤ x by omega) x2
    obtain ⟨z, hz⟩ : ∃ z, wRc (wRcV x) = z := ⟨_, rfl⟩
    rw [hz] at z1 z2 A1 A2
    have HZ := Lib.hid hz
    have HH := Lib.hid hh
    clear hz hh
    have e : ((n : Int)).toNat = n := by omega
    go_enter Try.func8, Try.ntmps8
    go_wp2_with (first
      | (go_at_call 19; refine (keep (recip_v x z n _ x1 x2 HZ.out HH.out) hb hB).mono ?_; rintro e w1 ⟨rfl, hb, hB⟩)
      | (go_at_call 17; refine (keep (rootAwake_is _) hb hB).mono ?_; rintro e w1 ⟨rfl, hb, hB⟩))
    go_ret
    exact ⟨rfl, hb⟩
end Go.Proofs.Ytbcfmlcfkihenaa.rootOnes
