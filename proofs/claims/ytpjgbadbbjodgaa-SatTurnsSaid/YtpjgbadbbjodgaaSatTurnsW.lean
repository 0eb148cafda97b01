/- The walk of the law SatTurns: it returns true and writes nothing that was there. -/
import Derived.Test.YtpjgbadbbjodgaaSatK
import Derived.Test.YtpjgbadbbjodgaaSatL
namespace Go.Proofs.Ytpjgbadbbjodgaa.satTurns
open Go.RowKit Go.ChangeShapes Go.OpenShut

set_option maxHeartbeats 1000000 in
theorem walk (a0 : Int) (a1 : Int) (a2 : Int) (w0 : (Lit.int .i32 a0).wf = true) (w1 : (Lit.int .i32 a1).wf = true) (w2 : (Lit.int .i32 a2).wf = true) (w : World) :
    Calls Try.prog 5 #[.int .i32 a0, .int .i32 a1, .int .i32 a2] w fun e w' => e = .returned (.bool true) ∧ Below w.heap.size w w' := by
  obtain ⟨b1, b2⟩ := bounds_i32 w0
  obtain ⟨b3, b4⟩ := bounds_i32 w1
  obtain ⟨b5, b6⟩ := bounds_i32 w2
  have hb := Below.refl w.heap.size w
  have hB := Nat.le_refl w.heap.size
  have c1 := wCut_bd (-a0)
  have c2 := wCut_bd (-a1)
  have c3 := wCut_bd (a0 + a1)
  have c4 := wCut_bd (a0 + a2)
  have f1 := neg_neg b1 b2
  have f0 : (wCut (a0 + a1) != wCut (a1 + a0)) = false := by rw [Int.add_comm]; simp
  have f2 : a1 ≠ -2147483648 → (wCut (a0 - a1) != wCut (a0 + wCut (-a1))) = false := fun h => by rw [sub_neg a0 b3 b4 h]; simp
  have f2 : (a1 != -2147483648) = false ∨ ((a1 != -2147483648) = true ∧ (wCut (a0 - a1) != wCut (a0 + wCut (-a1))) = false) := by
    by_cases h : a1 = -2147483648
    · exact .inl (by simp [h])
    · exact .inr ⟨by simp [h], f2 h⟩
  have f3 : a2 < a1 ∨ (a1 ≤ a2 ∧ wCut (a0 + a1) ≤ wCut (a0 + a2)) := by
    by_cases h : a2 < a1
    · exact .inl h
    · exact .inr ⟨by omega, cut_le (by omega)⟩
  have f4 : wCut (a0 - a0) = 0 := by rw [Int.sub_self]; decide +kernel
  have f5 : wCut a0 = a0 := wCut_in b1 b2
  have f6 := abs_nonneg a0
  have f7 : (wAbs a0 == a0) = true ∨ ((wAbs a0 == a0) = false ∧ (wAbs a0 == wCut (-a0)) = true) := by
    by_cases h : wAbs a0 = a0
    · exact .inl (by simp [h])
    · exact .inr ⟨by simp [h], by simpa [h] using abs_or a0⟩
  rcases f2 with f2 | ⟨f2, f8⟩ <;> rcases f3 with f3 | ⟨f3, f9⟩ <;> rcases f7 with f7 | ⟨f7, f10⟩
  all_goals
    go_enter Try.func5, Try.ntmps5
    go_wp2_with (first
        | (go_at_call 11; refine (keep (add_is _ _ _ (by omega) (by omega) (by omega) (by omega)) hb hB).mono ?_; rintro e w1 ⟨rfl, hb, hB⟩)
        | (go_at_call 13; refine (keep (sub_is _ _ _ (by omega) (by omega) (by omega) (by omega)) hb hB).mono ?_; rintro e w1 ⟨rfl, hb, hB⟩)
        | (go_at_call 15; refine (keep (neg_is _ _ (by omega) (by omega)) hb hB).mono ?_; rintro e w1 ⟨rfl, hb, hB⟩)
        | (go_at_call 17; refine (keep (abs_is _ _ (by omega) (by omega)) hb hB).mono ?_; rintro e w1 ⟨rfl, hb, hB⟩)
        | (go_at_call 21; refine (keep (satAwake_is _) hb hB).mono ?_; rintro e w1 ⟨rfl, hb, hB⟩))
    all_goals
      go_ret
      exact ⟨rfl, hb⟩
end Go.Proofs.Ytpjgbadbbjodgaa.satTurns
