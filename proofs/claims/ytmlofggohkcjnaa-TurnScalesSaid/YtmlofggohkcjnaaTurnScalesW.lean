/- The walk of the law TurnScales: it returns true and writes nothing that was there. -/
import Derived.Test.YtmlofggohkcjnaaTurnK
namespace Go.Proofs.Ytmlofggohkcjnaa.turnScales
open Go.RowKit Go.ChangeShapes Go.OpenShut

set_option maxHeartbeats 2000000 in
theorem walk (y x n : Int) (w0 : (Lit.int .i32 y).wf = true) (w1 : (Lit.int .i32 x).wf = true) (w2 : (Lit.int .u8 n).wf = true) (w : World) :
    Calls Try.prog 5 #[.int .i32 y, .int .i32 x, .int .u8 n] w fun e w' => e = .returned (.bool true) ∧ Below w.heap.size w w' := by
  obtain ⟨y1, y2⟩ := bounds_i32 w0
  obtain ⟨x1, x2⟩ := bounds_i32 w1
  obtain ⟨n1, n2⟩ := bounds_u8 w2
  have hb := Below.refl w.heap.size w
  have hB := Nat.le_refl w.heap.size
  rcases (show y < -268435456 ∨ (-268435456 ≤ y ∧ 268435456 < y) ∨ (-268435456 ≤ y ∧ y ≤ 268435456 ∧ x < -268435456) ∨ (-268435456 ≤ y ∧ y ≤ 268435456 ∧ -268435456 ≤ x ∧ 268435456 < x)
    ∨ (-268435456 ≤ y ∧ y ≤ 268435456 ∧ -268435456 ≤ x ∧ x ≤ 268435456) by omega) with h | ⟨h, h'⟩ | ⟨h, h', g⟩ | ⟨h, h', g, g'⟩ | ⟨h, h', g, g'⟩
  rotate_left 4
  · obtain ⟨a, ha⟩ : ∃ a, wAng y x = a := ⟨_, rfl⟩
    have HA := Lib.hid ha
    go_enter Try.func5, Try.ntmps5
    go_wp2_with (go_at_call 9; refine (keep (angle_v y x a _ y1 y2 x1 x2 HA.out) hb hB).mono ?_; rintro e w1 ⟨rfl, hb, hB⟩)
    go_loop [0, 1, 9] (fun sy sx i => ∃ j : Nat, ∃ Y X : Int, (j : Int) ≤ n % 20 ∧ i = .int .u64 j ∧ sy = .int .i32 Y ∧ sx = .int .i32 X ∧ wAng Y X = a ∧ (-268435456 ≤ Y ∧ Y ≤ 268435456) ∧ (-268435456 ≤ X ∧ X ≤ 268435456)) (fun _ _ i => 20 - (intOf i).toNat)
    case atStart => exact ⟨0, y, x, by omega, rfl, rfl, rfl, ha, ⟨h, h'⟩, ⟨g, g'⟩⟩
    case round =>
      obtain ⟨j, Y, X, hj, rfl, rfl, rfl, hA, hY, hX⟩ := hrel
      have HYX := Lib.hid hA
      clear hA ha
      by_cases hlt : (j : Int) < n % 20
      · rcases (show Y < -134217728 ∨ (-134217728 ≤ Y ∧ 134217728 < Y) ∨ (-134217728 ≤ Y ∧ Y ≤ 134217728 ∧ X < -134217728) ∨ (-134217728 ≤ Y ∧ Y ≤ 134217728 ∧ -134217728 ≤ X ∧ 134217728 < X)
          ∨ (-134217728 ≤ Y ∧ Y ≤ 134217728 ∧ -134217728 ≤ X ∧ X ≤ 134217728) by omega) with k | ⟨k, k'⟩ | ⟨k, k', l⟩ | ⟨k, k', l, l'⟩ | ⟨k, k', l, l'⟩
        rotate_left 4
        · have T := Lib.hid (ang_twice (y := Y) (x := X) (by omega) (by omega) (by omega) (by omega))
          go_wp2
          go_round
          case rel => exact ⟨j + 1, 2 * Y, 2 * X, by omega, by go_num, rfl, rfl, T.out.trans HYX.out, by omega, by omega⟩
          case measure => simp [intOf]; omega
        all_goals
          go_wp2_with (first
            | (go_at_call 9; refine (keep (angle_v Y X a _ (by omega) (by omega) (by omega) (by omega) HYX.out) hb hB).mono ?_; rintro e w1 ⟨rfl, hb, hB⟩)
            | (go_at_call 7; refine (keep (turnAwake_is _) hb hB).mono ?_; rintro e w1 ⟨rfl, hb, hB⟩))
          go_ret
          exact ⟨rfl, hb⟩
      · go_wp2_with (first
          | (go_at_call 9; refine (keep (angle_v Y X a _ (by omega) (by omega) (by omega) (by omega) HYX.out) hb hB).mono ?_; rintro e w1 ⟨rfl, hb, hB⟩)
          | (go_at_call 7; refine (keep (turnAwake_is _) hb hB).mono ?_; rintro e w1 ⟨rfl, hb, hB⟩))
        go_ret
        exact ⟨rfl, hb⟩
  all_goals
    go_enter Try.func5, Try.ntmps5
    go_wp2_with (go_at_call 7; refine (keep (turnAwake_is _) hb hB).mono ?_; rintro e w1 ⟨rfl, hb, hB⟩)
    go_ret
    exact ⟨rfl, hb⟩
end Go.Proofs.Ytmlofggohkcjnaa.turnScales
