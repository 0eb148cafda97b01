/- The walk of the law OpsBack: it returns true and writes nothing that was there. Condition: the tables lie as the program's text has them. -/
import Derived.Test.YtnnekaechojcgaaDoorOpsK
namespace Go.Proofs.YtnnekaechojcgaaDoor.opsBack
open Go.RowKit Go.ChangeShapes Go.OpenShut

theorem shape_v (n : Int) (v : ByteArray) (w : World) (hv : wShape n = v) (h : OpsLaid w) :
    Calls Tryd.prog 10 #[.int .i64 n] w fun e w' => e = .returned (.string v) ∧ Below w.heap.size w w' := by
  subst hv; exact shape_L n w h
theorem wCost_bd {n : Int} (h1 : 1 ≤ n) (h2 : n ≤ 43) : 1 ≤ wCost n ∧ wCost n ≤ 3 := by
  unfold wCost
  rw [if_neg (by omega)]
  split
  · decide
  · split <;> decide
theorem wShape_size {n : Int} (h1 : 1 ≤ n) (h2 : n ≤ 43) : (wShape n).size = 4 := by
  unfold wShape
  rw [if_neg (by omega)]
  (repeat' split) <;> rfl

set_option maxHeartbeats 1000000 in
theorem walk (n : Int) (w0 : (Lit.int .i64 n).wf = true) (w : World) (hL : OpsLaid w) :
    Calls Tryd.prog 4 #[.int .i64 n] w fun e w' => e = .returned (.bool true) ∧ Below w.heap.size w w' := by
  obtain ⟨b1, b2⟩ := bounds_i64 w0
  have hb := Below.refl w.heap.size w
  have hB := Nat.le_refl w.heap.size
  by_cases h0 : n < 1 ∨ 43 < n
  · have e1 := str_none (wName_out h0)
    have EV := Lib.hid (wShape_out h0)
    have e3 : (wCost n == 0) = true := by rw [wCost_out h0]; rfl
    have e4 : wReck n = false := decide_eq_false (by omega)
    have e5 : wLeak n = false := decide_eq_false (by omega)
    rcases h0 with h0 | h0
    all_goals
      go_enter Tryd.func4, Tryd.ntmps4
      go_wp2_with (first
        | (go_at_call 6; refine (keep (name_is _ _) hb hB).mono ?_; rintro e w1 ⟨rfl, hb, hB⟩)
        | (go_at_call 10; refine (keep (shape_v _ _ _ EV.out (hL.below hb)) hb hB).mono ?_; rintro e w1 ⟨rfl, hb, hB⟩)
        | (go_at_call 8; refine (keep (find_is _ _) hb hB).mono ?_; rintro e w1 ⟨rfl, hb, hB⟩)
        | (go_at_call 12; refine (cost_L _ _ (hL.below hb)).mono ?_; rintro e w1 ⟨rfl, rfl⟩)
        | (go_at_call 16; refine (leaks_is _ _).mono ?_; rintro e w1 ⟨rfl, rfl⟩)
        | (go_at_call 14; refine (reckons_is _ _).mono ?_; rintro e w1 ⟨rfl, rfl⟩)
        | (go_at_call 5; refine (keep (opsAwake_is _ (hL.below hb)) hb hB).mono ?_; rintro e w1 ⟨rfl, hb, hB⟩))
      go_ret
      exact ⟨rfl, hb⟩
  have c1 : 1 ≤ n := by omega
  have c2 : n ≤ 43 := by omega
  clear h0
  have e1 := str_some (wName_some c1 c2)
  have e2 : (wFind (wName n) != n) = false := by
    have : wFind (wName n) = n := by rw [wName_in c1 c2, find_nm (by omega)]; omega
    rw [this]; simp
  have e3 := wCost_bd c1 c2
  by_cases h1 : n ≤ 23
  · have EV := Lib.hid (wShape_at (n := n) (k := 0) (by decide) c1 h1)
    have e4 : wReck n = true := decide_eq_true (by omega)
    all_goals
      go_enter Tryd.func4, Tryd.ntmps4
      go_wp2_with (first
        | (go_at_call 6; refine (keep (name_is _ _) hb hB).mono ?_; rintro e w1 ⟨rfl, hb, hB⟩)
        | (go_at_call 10; refine (keep (shape_v _ _ _ EV.out (hL.below hb)) hb hB).mono ?_; rintro e w1 ⟨rfl, hb, hB⟩)
        | (go_at_call 8; refine (keep (find_is _ _) hb hB).mono ?_; rintro e w1 ⟨rfl, hb, hB⟩)
        | (go_at_call 12; refine (cost_L _ _ (hL.below hb)).mono ?_; rintro e w1 ⟨rfl, rfl⟩)
        | (go_at_call 16; refine (leaks_is _ _).mono ?_; rintro e w1 ⟨rfl, rfl⟩)
        | (go_at_call 14; refine (reckons_is _ _).mono ?_; rintro e w1 ⟨rfl, rfl⟩)
        | (go_at_call 5; refine (keep (opsAwake_is _ (hL.below hb)) hb hB).mono ?_; rintro e w1 ⟨rfl, hb, hB⟩))
      go_ret
      exact ⟨rfl, hb⟩
  by_cases h2 : n ≤ 30
  · have EV := Lib.hid (wShape_at (n := n) (k := 1) (by decide) (by show (24 : Int) ≤ n; omega) h2)
    have e4 : wReck n = true := decide_eq_true (by omega)
    all_goals
      go_enter Tryd.func4, Tryd.ntmps4
      go_wp2_with (first
        | (go_at_call 6; refine (keep (name_is _ _) hb hB).mono ?_; rintro e w1 ⟨rfl, hb, hB⟩)
        | (go_at_call 10; refine (keep (shape_v _ _ _ EV.out (hL.below hb)) hb hB).mono ?_; rintro e w1 ⟨rfl, hb, hB⟩)
        | (go_at_call 8; refine (keep (find_is _ _) hb hB).mono ?_; rintro e w1 ⟨rfl, hb, hB⟩)
        | (go_at_call 12; refine (cost_L _ _ (hL.below hb)).mono ?_; rintro e w1 ⟨rfl, rfl⟩)
        | (go_at_call 16; refine (leaks_is _ _).mono ?_; rintro e w1 ⟨rfl, rfl⟩)
        | (go_at_call 14; refine (reckons_is _ _).mono ?_; rintro e w1 ⟨rfl, rfl⟩)
        | (go_at_call 5; refine (keep (opsAwake_is _ (hL.below hb)) hb hB).mono ?_; rintro e w1 ⟨rfl, hb, hB⟩))
      go_ret
      exact ⟨rfl, hb⟩
  · have e4 : wReck n = false := decide_eq_false (by omega)
    have e5 : (((wShape n).size : Int) != 4) = false := by rw [wShape_size c1 c2]; rfl
    all_goals
      go_enter Tryd.func4, Tryd.ntmps4
      go_wp2_with (first
        | (go_at_call 6; refine (keep (name_is _ _) hb hB).mono ?_; rintro e w1 ⟨rfl, hb, hB⟩)
        | (go_at_call 10; refine (keep (shape_L _ _ (hL.below hb)) hb hB).mono ?_; rintro e w1 ⟨rfl, hb, hB⟩)
        | (go_at_call 8; refine (keep (find_is _ _) hb hB).mono ?_; rintro e w1 ⟨rfl, hb, hB⟩)
        | (go_at_call 12; refine (cost_L _ _ (hL.below hb)).mono ?_; rintro e w1 ⟨rfl, rfl⟩)
        | (go_at_call 16; refine (leaks_is _ _).mono ?_; rintro e w1 ⟨rfl, rfl⟩)
        | (go_at_call 14; refine (reckons_is _ _).mono ?_; rintro e w1 ⟨rfl, rfl⟩)
        | (go_at_call 5; refine (keep (opsAwake_is _ (hL.below hb)) hb hB).mono ?_; rintro e w1 ⟨rfl, hb, hB⟩))
      go_ret
      exact ⟨rfl, hb⟩
end Go.Proofs.YtnnekaechojcgaaDoor.opsBack
