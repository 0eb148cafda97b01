/- The walk of the law AluCosts: it returns true and writes nothing that was there. Condition: the table of costs lies as the program's text has it. -/
import Derived.Test.YtmafojcknpfmfaaDoorAluK
import Derived.Test.YtmafojcknpfmfaaDoorAluL
namespace Go.Proofs.YtmafojcknpfmfaaDoor.aluCosts
open Go.RowKit Go.ChangeShapes Go.OpenShut

theorem acost_v (op a v : Int) (w : World) (h1 : -2147483648 ≤ a) (h2 : a ≤ 2147483647) (h : CostsLaid w) (hv : wCostA op a = v) :
    Calls Tryd.prog 10 #[.int .i64 op, .int .i32 a] w fun e w' => e = .returned (.int .i64 v) ∧ w = w' := by
  subst hv; exact acost_C op a w h1 h2 h

set_option maxHeartbeats 1000000 in
theorem walk (n a b : Int) (_w0 : (Lit.int .i64 n).wf = true) (w1 : (Lit.int .i32 a).wf = true) (w2 : (Lit.int .i32 b).wf = true) (w : World) (hL : CostsLaid w) :
    Calls Tryd.prog 6 #[.int .i64 n, .int .i32 a, .int .i32 b] w fun e w' => e = .returned (.bool true) ∧ Below w.heap.size w w' := by
  obtain ⟨a1, a2⟩ := bounds_i32 w1
  obtain ⟨b1, b2⟩ := bounds_i32 w2
  have hb := Below.refl w.heap.size w
  have hB := Nat.le_refl w.heap.size
  by_cases h : n = 22 ∨ n = 23
  · have hl := wLen_bd a1 a2
    have V := Lib.hid (fun a => wCostA_div (a := a) h)
    have Z := Lib.hid (show wCostA n 0 = 2 by rw [wCostA_div h, wLen_0]; rfl)
    by_cases h0 : 0 < a
    · have H := Lib.hid (show wCostA n (a / 2) = 1 + wLen a by rw [wCostA_div h, wLen_half h0 a2]; omega)
      have e1 : (1 + wLen a == 2 + wLen a - 1) = true := by simp; omega
      rcases h with rfl | rfl
      all_goals
        go_enter Tryd.func6, Tryd.ntmps6
        go_wp2_with (first
          | (go_at_call 10; with_reducible refine (acost_v _ a _ _ a1 a2 (hL.below hb) (V.out a)).mono ?_; rintro e w1 ⟨rfl, rfl⟩)
          | (go_at_call 10; with_reducible refine (acost_v _ 0 2 _ (by omega) (by omega) (hL.below hb) Z.out).mono ?_; rintro e w1 ⟨rfl, rfl⟩)
          | (go_at_call 10; with_reducible refine (acost_v _ (a / 2) _ _ (by omega) (by omega) (hL.below hb) H.out).mono ?_; rintro e w1 ⟨rfl, rfl⟩)
          | (go_at_call 8; refine (keep (aluAwake_is _ (hL.below hb)) hb hB).mono ?_; rintro e w1 ⟨rfl, hb, hB⟩))
        go_ret
        exact ⟨rfl, hb⟩
    · rcases h with rfl | rfl
      all_goals
        go_enter Tryd.func6, Tryd.ntmps6
        go_wp2_with (first
          | (go_at_call 10; with_reducible refine (acost_v _ a _ _ a1 a2 (hL.below hb) (V.out a)).mono ?_; rintro e w1 ⟨rfl, rfl⟩)
          | (go_at_call 10; with_reducible refine (acost_v _ 0 2 _ (by omega) (by omega) (hL.below hb) Z.out).mono ?_; rintro e w1 ⟨rfl, rfl⟩)
          | (go_at_call 8; refine (keep (aluAwake_is _ (hL.below hb)) hb hB).mono ?_; rintro e w1 ⟨rfl, hb, hB⟩))
        go_ret
        exact ⟨rfl, hb⟩
  · have e1 : (n != 22) = true := by simp; omega
    have e2 : (n != 23) = true := by simp; omega
    have V := Lib.hid (fun a => wCostA_rest (a := a) h)
    clear h
    go_enter Tryd.func6, Tryd.ntmps6
    go_wp2_with (first
      | (go_at_call 10; with_reducible refine (acost_v _ a _ _ a1 a2 (hL.below hb) (V.out a)).mono ?_; rintro e w1 ⟨rfl, rfl⟩)
      | (go_at_call 10; with_reducible refine (acost_v _ b _ _ b1 b2 (hL.below hb) (V.out b)).mono ?_; rintro e w1 ⟨rfl, rfl⟩)
      | (go_at_call 8; refine (keep (aluAwake_is _ (hL.below hb)) hb hB).mono ?_; rintro e w1 ⟨rfl, hb, hB⟩))
    go_ret
    exact ⟨rfl, hb⟩
end Go.Proofs.YtmafojcknpfmfaaDoor.aluCosts
