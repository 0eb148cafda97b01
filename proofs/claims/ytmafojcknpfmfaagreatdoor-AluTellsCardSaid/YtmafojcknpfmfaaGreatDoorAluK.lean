/- Package alu within a law's walk, and the page's examples. Conditions: the numbers are of the parameters' kinds; the table of costs lies as the program's text has it. -/
import Derived.Test.YtmafojcknpfmfaaGreatDoorAluO
import Derived.Test.YtmafojcknpfmfaaGreatDoorCostK
namespace Go.Proofs.YtmafojcknpfmfaaGreatDoor
open Go.RowKit

theorem acost_C (op a : Int) (w : World) (h1 : -2147483648 ≤ a) (h2 : a ≤ 2147483647) (h : CostsLaid w) :
    Calls Tryz.prog 6 #[.int .i64 op, .int .i32 a] w fun e w' => e = .returned (.int .i64 (wCostA op a)) ∧ w = w' :=
  acost_is op a w h1 h2 h.cell
theorem do_v (op a b v : Int) (t : Bool) (w : World) (a1 : -2147483648 ≤ a) (a2 : a ≤ 2147483647) (b1 : -2147483648 ≤ b) (b2 : b ≤ 2147483647) (hv : wDo op a b = v) (ht : wDoes op b = t) :
    Calls Tryz.prog 4 #[.int .i64 op, .int .i32 a, .int .i32 b] w fun e w' => e = .returned (.tuple #[.int .i32 v, .bool t]) ∧ Below w.heap.size w w' := by
  subst hv ht; exact do_is op a b w a1 a2 b1 b2
theorem aluAwake_is (w : World) (hL : CostsLaid w) :
    Calls Tryz.prog 8 #[] w fun e w' => e = .returned (.bool true) ∧ Below w.heap.size w w' := by
  have hb := Below.refl w.heap.size w
  have hB := Nat.le_refl w.heap.size
  have e1 : wDo 22 (-7) 2 = -3 := by decide +kernel
  have e2 : wDo 23 (-7) 2 = -1 := by decide +kernel
  have e3 : wDo 22 1 0 = 0 := by decide +kernel
  have e4 : (wCostA 22 (-7) == 5) = true := by decide +kernel
  have d1 : wDoes 22 2 = true := by decide +kernel
  have d2 : wDoes 23 2 = true := by decide +kernel
  have d3 : wDoes 22 0 = false := by decide +kernel
  go_enter Tryz.func8, Tryz.ntmps8
  go_wp2_with (first
    | (go_at_call 4; with_reducible refine (keep (do_v 22 (-7) 2 (-3) true _ (by omega) (by omega) (by omega) (by omega) e1 d1) hb hB).mono ?_; rintro e w1 ⟨rfl, hb, hB⟩)
    | (go_at_call 4; with_reducible refine (keep (do_v 23 (-7) 2 (-1) true _ (by omega) (by omega) (by omega) (by omega) e2 d2) hb hB).mono ?_; rintro e w1 ⟨rfl, hb, hB⟩)
    | (go_at_call 4; with_reducible refine (keep (do_v 22 1 0 0 false _ (by omega) (by omega) (by omega) (by omega) e3 d3) hb hB).mono ?_; rintro e w1 ⟨rfl, hb, hB⟩)
    | (go_at_call 6; refine (acost_C _ _ _ (by omega) (by omega) (hL.below hb)).mono ?_; rintro e w1 ⟨rfl, rfl⟩))
  go_ret
  exact ⟨rfl, hb⟩
end Go.Proofs.YtmafojcknpfmfaaGreatDoor
