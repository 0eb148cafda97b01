/- Package turn within a law's walk, and the page's examples. Conditions: the numbers are of the kind int32. -/
import Derived.Test.YtmlofggohkcjnaaTurnA
import Derived.Test.YtmlofggohkcjnaaTurnS
namespace Go.Proofs.Ytmlofggohkcjnaa
open Go.RowKit

theorem wrap_rng (x : Int) : -2147483648 ≤ wrap32 x ∧ wrap32 x ≤ 2147483647 := by unfold wrap32; omega
theorem wAng_bd (y x : Int) : -2147483648 ≤ wAng y x ∧ wAng y x ≤ 2147483647 := by
  have v : -2147483648 ≤ (vN (wNorm (wLs y x) (wGr y x)) (wNorm (wGr y x) (wGr y x)) 28).2.2 ∧ (vN (wNorm (wLs y x) (wGr y x)) (wNorm (wGr y x) (wGr y x)) 28).2.2 ≤ 2147483647 :=
    (vN_bd _ _ (wShr_bd _ _) (wShr_bd _ _) 28).2.2
  unfold wAng
  generalize (vN (wNorm (wLs y x) (wGr y x)) (wNorm (wGr y x) (wGr y x)) 28).2.2 = a at *
  have r1 := wrap_rng (843314857 - a)
  obtain ⟨b, hb, hb1⟩ : ∃ b, (if wAbs x < wAbs y then wrap32 (843314857 - a) else a) = b ∧ -2147483648 ≤ b ∧ b ≤ 2147483647 := ⟨_, rfl, by split <;> omega⟩
  have r2 := wrap_rng (1686629713 - b)
  simp only [hb]
  obtain ⟨c, hc, hc1⟩ : ∃ c, (if x < 0 then wrap32 (1686629713 - b) else b) = c ∧ -2147483648 ≤ c ∧ c ≤ 2147483647 := ⟨_, rfl, by split <;> omega⟩
  rw [hc]
  have r3 := wrap_rng (0 - c)
  split <;> omega
theorem angle_v (y x a : Int) (w : World) (y1 : -2147483648 ≤ y) (y2 : y ≤ 2147483647) (x1 : -2147483648 ≤ x) (x2 : x ≤ 2147483647) (ha : wAng y x = a) :
    Calls Try.prog 9 #[.int .i32 y, .int .i32 x] w fun e w' => e = .returned (.int .i32 a) ∧ Below w.heap.size w w' := by
  subst ha; exact angle_is y x w y1 y2 x1 x2
theorem wave_v (a s c : Int) (w : World) (a1 : -2147483648 ≤ a) (a2 : a ≤ 2147483647) (hs : wWvY a = s) (hc : wWvX a = c) :
    Calls Try.prog 10 #[.int .i32 a] w fun e w' => e = .returned (.tuple #[.int .i32 s, .int .i32 c]) ∧ Below w.heap.size w w' := by
  subst hs hc; exact wave_is a w a1 a2
theorem near_is (a b : Int) (w : World) (a1 : -2147483648 ≤ a) (a2 : a ≤ 2147483647) (b1 : -2147483648 ≤ b) (b2 : b ≤ 2147483647) (h1 : a - b ≤ 2048) (h2 : b - a ≤ 2048) :
    Calls Try.prog 12 #[.int .i32 a, .int .i32 b] w fun e w' => e = .returned (.bool true) ∧ w = w' := by
  go_enter Try.func12, Try.ntmps12
  go_wp2
  go_ret
  exact ⟨by first | rfl | (simp; omega), rfl⟩
theorem awake_angles : (decide (421655380 ≤ wAng 1 1 ∧ wAng 1 1 ≤ 421659476) && decide (1686627665 ≤ wAng 0 (-1) ∧ wAng 0 (-1) ≤ 1686631761) && decide (-2048 ≤ wAng 0 5 ∧ wAng 0 5 ≤ 2048) && decide (-843316905 ≤ wAng (-3) 0 ∧ wAng (-3) 0 ≤ -843312809)) = true := by decide +kernel
theorem turnAwake_is (w : World) :
    Calls Try.prog 7 #[] w fun e w' => e = .returned (.bool true) ∧ Below w.heap.size w w' := by
  have hb := Below.refl w.heap.size w
  have hB := Nat.le_refl w.heap.size
  have k := awake_angles
  simp only [Bool.and_eq_true, decide_eq_true_eq] at k
  obtain ⟨⟨⟨k1, k2⟩, k3⟩, k4⟩ := k
  obtain ⟨v1, h1⟩ : ∃ v, wAng 1 1 = v := ⟨_, rfl⟩
  obtain ⟨v2, h2⟩ : ∃ v, wAng 0 (-1) = v := ⟨_, rfl⟩
  obtain ⟨v3, h3⟩ : ∃ v, wAng 0 5 = v := ⟨_, rfl⟩
  obtain ⟨v4, h4⟩ : ∃ v, wAng (-3) 0 = v := ⟨_, rfl⟩
  rw [h1] at k1
  rw [h2] at k2
  rw [h3] at k3
  rw [h4] at k4
  have H1 := Lib.hid h1
  have H2 := Lib.hid h2
  have H3 := Lib.hid h3
  have H4 := Lib.hid h4
  clear h1 h2 h3 h4
  go_enter Try.func7, Try.ntmps7
  go_wp2_with (first
    | (go_at_call 9; with_reducible refine (keep (angle_v 1 1 v1 _ (by decide) (by decide) (by decide) (by decide) H1.out) hb hB).mono ?_; rintro e w1 ⟨rfl, hb, hB⟩)
    | (go_at_call 9; with_reducible refine (keep (angle_v 0 (-1) v2 _ (by decide) (by decide) (by decide) (by decide) H2.out) hb hB).mono ?_; rintro e w1 ⟨rfl, hb, hB⟩)
    | (go_at_call 9; with_reducible refine (keep (angle_v 0 5 v3 _ (by decide) (by decide) (by decide) (by decide) H3.out) hb hB).mono ?_; rintro e w1 ⟨rfl, hb, hB⟩)
    | (go_at_call 9; with_reducible refine (keep (angle_v (-3) 0 v4 _ (by decide) (by decide) (by decide) (by decide) H4.out) hb hB).mono ?_; rintro e w1 ⟨rfl, hb, hB⟩)
    | (go_at_call 12; refine (near_is _ _ _ (by omega) (by omega) (by omega) (by omega) (by omega) (by omega)).mono ?_; rintro e w1 ⟨rfl, rfl⟩))
  go_ret
  exact ⟨rfl, hb⟩
end Go.Proofs.Ytmlofggohkcjnaa
