/- The walk of the law AluDivides: it returns true and writes nothing that was there. Condition: the table of costs lies as the program's text has it. -/
import Derived.Test.YtmafojcknpfmfaaDoorAluK
import Derived.Test.YtmafojcknpfmfaaDoorAluL
namespace Go.Proofs.YtmafojcknpfmfaaDoor.aluDivides
open Go.RowKit Go.ChangeShapes Go.OpenShut

set_option maxHeartbeats 1000000 in
theorem walk0 (a : Int) (a1 : -2147483648 ≤ a) (a2 : a ≤ 2147483647) (w : World) (hL : CostsLaid w) :
    Calls Tryd.prog 4 #[.int .i32 a, .int .i32 0] w fun e w' => e = .returned (.bool true) ∧ Below w.heap.size w w' := by
  have hb := Below.refl w.heap.size w
  have hB := Nat.le_refl w.heap.size
  have d1 : wDoes 22 0 = false := by decide +kernel
  have d2 : wDoes 23 0 = false := by decide +kernel
  go_enter Tryd.func4, Tryd.ntmps4
  go_wp2_with (first
    | (go_at_call 9; with_reducible refine (keep (do_v 22 a 0 0 false _ a1 a2 (by omega) (by omega) (wDo_none d1) d1) hb hB).mono ?_; rintro e w1 ⟨rfl, hb, hB⟩)
    | (go_at_call 9; with_reducible refine (keep (do_v 23 a 0 0 false _ a1 a2 (by omega) (by omega) (wDo_none d2) d2) hb hB).mono ?_; rintro e w1 ⟨rfl, hb, hB⟩)
    | (go_at_call 8; with_reducible refine (keep (aluAwake_is _ (hL.below hb)) hb hB).mono ?_; rintro e w1 ⟨rfl, hb, hB⟩))
  go_ret
  exact ⟨rfl, hb⟩

set_option maxHeartbeats 1000000 in
theorem walk (a b : Int) (w0 : (Lit.int .i32 a).wf = true) (w1 : (Lit.int .i32 b).wf = true) (w : World) (hL : CostsLaid w) :
    Calls Tryd.prog 4 #[.int .i32 a, .int .i32 b] w fun e w' => e = .returned (.bool true) ∧ Below w.heap.size w w' := by
  obtain ⟨a1, a2⟩ := bounds_i32 w0
  obtain ⟨b1, b2⟩ := bounds_i32 w1
  by_cases hz : b = 0
  · subst hz; exact walk0 a a1 a2 w hL
  have hb := Below.refl w.heap.size w
  have hB := Nat.le_refl w.heap.size
  have d1 := Lib.hid (wDoes_div (op := 22) (b := b) (.inl rfl) hz)
  have d2 := Lib.hid (wDoes_div (op := 23) (b := b) (.inr rfl) hz)
  have V1 := Lib.hid (show wDo 22 a b = wQuo a b from wDo_two d1.out (by omega))
  have V2 := Lib.hid (show wDo 23 a b = wRest a b from wDo_two d2.out (by omega))
  have F := Lib.hid (quo_back (b := b) a1 a2)
  have r1 := rest_lt a hz
  have r2 := fun h => rest_pos (a := a) (b := b) h
  have r3 := fun h => rest_neg (a := a) (b := b) h
  have z : (b == 0) = false := by simpa using hz
  generalize wQuo a b = Q at *
  generalize wRest a b = R at *
  have f1 : (wrap32 (wrap32 (Q * b) + R) == a) = true := by rw [F.out]; simp
  rcases (show R < 0 ∨ R = 0 ∨ 0 < R by omega) with h | h | h
  · have s : a < 0 := by
      have := fun h => r2 h
      omega
    have s0 : (R == 0) = false := by simp; omega
    clear r2 r3
    by_cases hb0 : b < 0
    all_goals
      go_enter Tryd.func4, Tryd.ntmps4
      go_wp2_with (first
        | (go_at_call 9; with_reducible refine (keep (do_v 22 a b Q true _ a1 a2 b1 b2 V1.out d1.out) hb hB).mono ?_; rintro e w1 ⟨rfl, hb, hB⟩)
        | (go_at_call 9; with_reducible refine (keep (do_v 23 a b R true _ a1 a2 b1 b2 V2.out d2.out) hb hB).mono ?_; rintro e w1 ⟨rfl, hb, hB⟩)
        | (go_at_call 8; with_reducible refine (keep (aluAwake_is _ (hL.below hb)) hb hB).mono ?_; rintro e w1 ⟨rfl, hb, hB⟩))
      go_ret
      exact ⟨rfl, hb⟩
  · subst h
    rw [Int.add_zero] at f1
    clear r2 r3
    by_cases hb0 : b < 0
    all_goals
      go_enter Tryd.func4, Tryd.ntmps4
      go_wp2_with (first
        | (go_at_call 9; with_reducible refine (keep (do_v 22 a b Q true _ a1 a2 b1 b2 V1.out d1.out) hb hB).mono ?_; rintro e w1 ⟨rfl, hb, hB⟩)
        | (go_at_call 9; with_reducible refine (keep (do_v 23 a b 0 true _ a1 a2 b1 b2 V2.out d2.out) hb hB).mono ?_; rintro e w1 ⟨rfl, hb, hB⟩)
        | (go_at_call 8; with_reducible refine (keep (aluAwake_is _ (hL.below hb)) hb hB).mono ?_; rintro e w1 ⟨rfl, hb, hB⟩))
      go_ret
      exact ⟨rfl, hb⟩
  · have s : ¬ a < 0 := by
      have := fun h => r3 h
      omega
    have s0 : (R == 0) = false := by simp; omega
    clear r2 r3
    by_cases hb0 : b < 0
    all_goals
      go_enter Tryd.func4, Tryd.ntmps4
      go_wp2_with (first
        | (go_at_call 9; with_reducible refine (keep (do_v 22 a b Q true _ a1 a2 b1 b2 V1.out d1.out) hb hB).mono ?_; rintro e w1 ⟨rfl, hb, hB⟩)
        | (go_at_call 9; with_reducible refine (keep (do_v 23 a b R true _ a1 a2 b1 b2 V2.out d2.out) hb hB).mono ?_; rintro e w1 ⟨rfl, hb, hB⟩)
        | (go_at_call 8; with_reducible refine (keep (aluAwake_is _ (hL.below hb)) hb hB).mono ?_; rintro e w1 ⟨rfl, hb, hB⟩))
      go_ret
      exact ⟨rfl, hb⟩
end Go.Proofs.YtmafojcknpfmfaaDoor.aluDivides
