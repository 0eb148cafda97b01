/- The walk of the law SatClamps: it returns true and writes nothing that was there. -/
import Derived.Test.YtpjgbadbbjodgaaSatK
import Derived.Test.YtpjgbadbbjodgaaSatL
namespace Go.Proofs.Ytpjgbadbbjodgaa.satClamps
open Go.RowKit Go.ChangeShapes Go.OpenShut

set_option maxHeartbeats 1000000 in
theorem walk (a0 : Int) (a1 : Int) (a2 : Int) (w0 : (Lit.int .i32 a0).wf = true) (w1 : (Lit.int .i32 a1).wf = true) (w2 : (Lit.int .i32 a2).wf = true) (w : World) :
    Calls Try.prog 6 #[.int .i32 a0, .int .i32 a1, .int .i32 a2] w fun e w' => e = .returned (.bool true) ∧ Below w.heap.size w w' := by
  obtain ⟨b1, b2⟩ := bounds_i32 w0
  obtain ⟨b3, b4⟩ := bounds_i32 w1
  obtain ⟨b5, b6⟩ := bounds_i32 w2
  have hb := Below.refl w.heap.size w
  have hB := Nat.le_refl w.heap.size
  by_cases c : a1 > a2
  · have f1 := clamp_cross (x := a0) c
    go_enter Try.func6, Try.ntmps6
    go_wp2_with (first
        | (go_at_call 19; refine (clamp_is _ _ _ _).mono ?_; rintro e w' ⟨rfl, rfl⟩)
        | (go_at_call 21; refine (keep (satAwake_is _) hb hB).mono ?_; rintro e w1 ⟨rfl, hb, hB⟩))
    go_ret
    exact ⟨rfl, hb⟩
  · have c : a1 ≤ a2 := by omega
    obtain ⟨f1, f2⟩ := clamp_in (x := a0) c
    have f3 := clamp_twice a0 a1 a2
    by_cases d : a0 < a1
    · go_enter Try.func6, Try.ntmps6
      go_wp2_with (first
          | (go_at_call 19; refine (clamp_is _ _ _ _).mono ?_; rintro e w' ⟨rfl, rfl⟩)
          | (go_at_call 21; refine (keep (satAwake_is _) hb hB).mono ?_; rintro e w1 ⟨rfl, hb, hB⟩))
      go_ret
      exact ⟨rfl, hb⟩
    · by_cases e : a0 > a2
      · go_enter Try.func6, Try.ntmps6
        go_wp2_with (first
            | (go_at_call 19; refine (clamp_is _ _ _ _).mono ?_; rintro e w' ⟨rfl, rfl⟩)
            | (go_at_call 21; refine (keep (satAwake_is _) hb hB).mono ?_; rintro e w1 ⟨rfl, hb, hB⟩))
        go_ret
        exact ⟨rfl, hb⟩
      · have f4 := clamp_same (x := a0) (l := a1) (h := a2) (by omega) (by omega)
        have f4 : (wClamp a0 a1 a2 == a0) = true := by simp [f4]
        go_enter Try.func6, Try.ntmps6
        go_wp2_with (first
            | (go_at_call 19; refine (clamp_is _ _ _ _).mono ?_; rintro e w' ⟨rfl, rfl⟩)
            | (go_at_call 21; refine (keep (satAwake_is _) hb hB).mono ?_; rintro e w1 ⟨rfl, hb, hB⟩))
        go_ret
        exact ⟨rfl, hb⟩
end Go.Proofs.Ytpjgbadbbjodgaa.satClamps
