/- The walk of the law RootLevels: it returns true and writes nothing that was there. -/
import Derived.Test.YtbcfmlcfkihenaaRootK
namespace Go.Proofs.Ytbcfmlcfkihenaa.rootLevels
open Go.RowKit Go.ChangeShapes Go.OpenShut

set_option maxHeartbeats 1000000 in
theorem walk (x : Int) (w0 : (Lit.int .i32 x).wf = true) (w : World) :
    Calls Try.prog 6 #[.int .i32 x] w fun e w' => e = .returned (.bool true) ∧ Below w.heap.size w w' := by
  obtain ⟨x1, x2⟩ := bounds_i32 w0
  have hb := Below.refl w.heap.size w
  have hB := Nat.le_refl w.heap.size
  by_cases h : x < 1
  · have q := wLvH_bd x
    go_enter Try.func6, Try.ntmps6
    go_wp2_with (first
      | (go_at_call 9; refine (keep (level_is x _ x1 x2) hb hB).mono ?_; rintro e w1 ⟨rfl, hb, hB⟩)
      | (go_at_call 17; refine (keep (rootAwake_is _) hb hB).mono ?_; rintro e w1 ⟨rfl, hb, hB⟩))
    go_ret
    exact ⟨rfl, hb⟩
  · obtain ⟨n, hh, n15, g1, g2, hu⟩ := lv_rng (show 1 ≤ x by omega) x2
    obtain ⟨u, hv⟩ : ∃ u, wLvU x = u := ⟨_, rfl⟩
    rw [hv] at hu
    have HU := Lib.hid hv
    have HH := Lib.hid hh
    clear hv hh
    have u1 : 268435456 ≤ u := by omega
    have u2 : u < 1073741824 := by omega
    have f : (u == x * 2 ^ (2 * n) / 4) = true := by rw [hu]; simp
    clear hu
    go_enter Try.func6, Try.ntmps6
    go_wp2_with (first
      | (go_at_call 9; refine (keep (level_v x u n _ x1 x2 HU.out HH.out) hb hB).mono ?_; rintro e w1 ⟨rfl, hb, hB⟩)
      | (go_at_call 17; refine (keep (rootAwake_is _) hb hB).mono ?_; rintro e w1 ⟨rfl, hb, hB⟩))
    go_ret
    exact ⟨rfl, hb⟩
end Go.Proofs.Ytbcfmlcfkihenaa.rootLevels
