/- The walk of the law TurnRound: it returns true and writes nothing that was there. -/
import Derived.Test.YtmlofggohkcjnaaTurnK
namespace Go.Proofs.Ytmlofggohkcjnaa.turnRound
open Go.RowKit Go.ChangeShapes Go.OpenShut

set_option maxHeartbeats 2000000 in
theorem walk (a : Int) (w0 : (Lit.int .i32 a).wf = true) (w : World) :
    Calls Try.prog 6 #[.int .i32 a] w fun e w' => e = .returned (.bool true) ∧ Below w.heap.size w w' := by
  obtain ⟨a1, a2⟩ := bounds_i32 w0
  have hb := Below.refl w.heap.size w
  have hB := Nat.le_refl w.heap.size
  rcases (show 1686629713 < a ∨ (a ≤ 1686629713 ∧ a < -1686629713) ∨ (a ≤ 1686629713 ∧ -1686629713 ≤ a) by omega) with h | ⟨h, h'⟩ | ⟨h, h'⟩
  rotate_left 2
  · obtain ⟨⟨n1, n2⟩, xb, yb, d⟩ := round_true h' h
    have ab := wAng_bd (wWvY a) (wWvX a)
    obtain ⟨y, hy⟩ : ∃ y, wWvY a = y := ⟨_, rfl⟩
    obtain ⟨x, hx⟩ : ∃ x, wWvX a = x := ⟨_, rfl⟩
    rw [hy, hx] at n1 n2 ab d
    rw [hy] at yb
    rw [hx] at xb
    obtain ⟨t, ht⟩ : ∃ t, wAng y x = t := ⟨_, rfl⟩
    rw [ht] at ab d
    have HY := Lib.hid hy
    have HX := Lib.hid hx
    have HT := Lib.hid ht
    have N1 := Lib.hid n1
    have N2 := Lib.hid n2
    clear hy hx ht n1 n2
    rcases d with ⟨d1, d2⟩ | ⟨d1, d2⟩ | ⟨d1, d2⟩
    all_goals
      go_enter Try.func6, Try.ntmps6
      go_wp2_with (first
        | (go_at_call 10; refine (keep (wave_v _ y x _ a1 a2 HY.out HX.out) hb hB).mono ?_; rintro e w1 ⟨rfl, hb, hB⟩)
        | (go_at_call 11; refine (refRound_true _ _ _ xb yb N1.out N2.out).mono ?_; rintro e w1 ⟨rfl, rfl⟩)
        | (go_at_call 9; refine (keep (angle_v y x t _ (by omega) (by omega) (by omega) (by omega) HT.out) hb hB).mono ?_; rintro e w1 ⟨rfl, hb, hB⟩)
        | (go_at_call 7; refine (keep (turnAwake_is _) hb hB).mono ?_; rintro e w1 ⟨rfl, hb, hB⟩))
      go_ret
      exact ⟨rfl, hb⟩
  all_goals
    go_enter Try.func6, Try.ntmps6
    go_wp2_with (go_at_call 7; refine (keep (turnAwake_is _) hb hB).mono ?_; rintro e w1 ⟨rfl, hb, hB⟩)
    go_ret
    exact ⟨rfl, hb⟩
end Go.Proofs.Ytmlofggohkcjnaa.turnRound
