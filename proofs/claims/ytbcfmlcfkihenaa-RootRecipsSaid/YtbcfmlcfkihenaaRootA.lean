/- What package root's functions answer. Conditions: the numbers are of the kind int32. -/
import Derived.Test.YtbcfmlcfkihenaaMillC
namespace Go.Proofs.Ytbcfmlcfkihenaa
open Go.RowKit

theorem roots_is (w : World) :
    Calls Try.prog 21 #[] w fun e w' => e = .returned (.agg #[.iface 41 (.agg #[])]) ∧ Below w.heap.size w w' := by
  have hb := fun o => ((Below.refl w.heap.size w).alloc (Nat.le_refl _) o)
  go_enter Try.func21, Try.ntmps21
  go_wp2
  go_returns
  refine ⟨rfl, ?_⟩
  first | exact hb _ | exact (hb _).setCell (Nat.le_refl _) _

theorem level_v (x u h : Int) (w : World) (x1 : -2147483648 ≤ x) (x2 : x ≤ 2147483647) (hu : wLvU x = u) (hh : wLvH x = h) :
    Calls Try.prog 9 #[.int .i32 x] w fun e w' => e = .returned (.tuple #[.int .i32 u, .int .i32 h]) ∧ Below w.heap.size w w' := by
  have hb := Below.refl w.heap.size w
  have hB := Nat.le_refl w.heap.size
  go_enter Try.func9, Try.ntmps9
  go_wp2_with (first
    | (go_at_call 21; refine (keep (roots_is _) hb hB).mono ?_; rintro e w1 ⟨rfl, hb, hB⟩)
    | (go_at_call 22; with_reducible refine (keep (mLevel_v x u h _ x1 x2 hu hh) hb hB).mono ?_; rintro e w1 ⟨rfl, hb, hB⟩))
  go_returns
  exact ⟨rfl, hb⟩
theorem level_is (x : Int) (w : World) (x1 : -2147483648 ≤ x) (x2 : x ≤ 2147483647) :
    Calls Try.prog 9 #[.int .i32 x] w fun e w' => e = .returned (.tuple #[.int .i32 (wLvU x), .int .i32 (wLvH x)]) ∧ Below w.heap.size w w' := level_v x _ _ w x1 x2 rfl rfl
theorem scale_v (v z h s : Int) (w : World) (v1 : -2147483648 ≤ v) (v2 : v ≤ 2147483647) (z1 : -2147483648 ≤ z) (z2 : z ≤ 2147483647) (h1 : -2147483648 ≤ h) (h2 : h ≤ 2147483647) (hs : wScale v z h = s) :
    Calls Try.prog 13 #[.int .i32 v, .int .i32 z, .int .i32 h] w fun e w' => e = .returned (.int .i32 s) ∧ Below w.heap.size w w' := by
  have hb := Below.refl w.heap.size w
  have hB := Nat.le_refl w.heap.size
  go_enter Try.func13, Try.ntmps13
  go_wp2_with (first
    | (go_at_call 21; refine (keep (roots_is _) hb hB).mono ?_; rintro e w1 ⟨rfl, hb, hB⟩)
    | (go_at_call 31; with_reducible refine (keep (mScale_v v z h s _ v1 v2 z1 z2 h1 h2 hs) hb hB).mono ?_; rintro e w1 ⟨rfl, hb, hB⟩))
  go_ret
  exact ⟨rfl, hb⟩
theorem scale_is (v z h : Int) (w : World) (v1 : -2147483648 ≤ v) (v2 : v ≤ 2147483647) (z1 : -2147483648 ≤ z) (z2 : z ≤ 2147483647) (h1 : -2147483648 ≤ h) (h2 : h ≤ 2147483647) :
    Calls Try.prog 13 #[.int .i32 v, .int .i32 z, .int .i32 h] w fun e w' => e = .returned (.int .i32 (wScale v z h)) ∧ Below w.heap.size w w' := scale_v v z h _ w v1 v2 z1 z2 h1 h2 rfl
theorem rsqrt_v (x z h : Int) (w : World) (x1 : -2147483648 ≤ x) (x2 : x ≤ 2147483647) (hz : wRs (wLvU x) = z) (hh : wLvH x = h) :
    Calls Try.prog 11 #[.int .i32 x] w fun e w' => e = .returned (.tuple #[.int .i32 z, .int .i32 h]) ∧ Below w.heap.size w w' := by
  have hb := Below.refl w.heap.size w
  have hB := Nat.le_refl w.heap.size
  go_enter Try.func11, Try.ntmps11
  go_wp2_with (first
    | (go_at_call 21; refine (keep (roots_is _) hb hB).mono ?_; rintro e w1 ⟨rfl, hb, hB⟩)
    | (go_at_call 26; with_reducible refine (keep (mRsqrt_v x z h _ x1 x2 hz hh) hb hB).mono ?_; rintro e w1 ⟨rfl, hb, hB⟩))
  go_returns
  exact ⟨rfl, hb⟩
theorem rsqrt_is (x : Int) (w : World) (x1 : -2147483648 ≤ x) (x2 : x ≤ 2147483647) :
    Calls Try.prog 11 #[.int .i32 x] w fun e w' => e = .returned (.tuple #[.int .i32 (wRs (wLvU x)), .int .i32 (wLvH x)]) ∧ Below w.heap.size w w' := rsqrt_v x _ _ w x1 x2 rfl rfl
theorem sqrt_w (x s : Int) (w : World) (x1 : -2147483648 ≤ x) (x2 : x ≤ 2147483647) (hs : wSqrt x = s) :
    Calls Try.prog 15 #[.int .i32 x] w fun e w' => e = .returned (.int .i32 s) ∧ Below w.heap.size w w' := by
  have hb := Below.refl w.heap.size w
  have hB := Nat.le_refl w.heap.size
  go_enter Try.func15, Try.ntmps15
  go_wp2_with (first
    | (go_at_call 21; refine (keep (roots_is _) hb hB).mono ?_; rintro e w1 ⟨rfl, hb, hB⟩)
    | (go_at_call 32; with_reducible refine (keep (mSqrt_v x s _ x1 x2 hs) hb hB).mono ?_; rintro e w1 ⟨rfl, hb, hB⟩))
  go_ret
  exact ⟨rfl, hb⟩
theorem sqrt_is (x : Int) (w : World) (x1 : -2147483648 ≤ x) (x2 : x ≤ 2147483647) :
    Calls Try.prog 15 #[.int .i32 x] w fun e w' => e = .returned (.int .i32 (wSqrt x)) ∧ Below w.heap.size w w' := sqrt_w x _ w x1 x2 rfl
theorem recip_w (x z h : Int) (w : World) (x1 : -2147483648 ≤ x) (x2 : x ≤ 2147483647) (hz : wRc (wRcV x) = z) (hh : wClz x - 1 = h) :
    Calls Try.prog 19 #[.int .i32 x] w fun e w' => e = .returned (.tuple #[.int .i32 z, .int .i32 h]) ∧ Below w.heap.size w w' := by
  have hb := Below.refl w.heap.size w
  have hB := Nat.le_refl w.heap.size
  go_enter Try.func19, Try.ntmps19
  go_wp2_with (first
    | (go_at_call 21; refine (keep (roots_is _) hb hB).mono ?_; rintro e w1 ⟨rfl, hb, hB⟩)
    | (go_at_call 33; with_reducible refine (keep (mRecip_v x z h _ x1 x2 hz hh) hb hB).mono ?_; rintro e w1 ⟨rfl, hb, hB⟩))
  go_returns
  exact ⟨rfl, hb⟩
theorem recip_is (x : Int) (w : World) (x1 : -2147483648 ≤ x) (x2 : x ≤ 2147483647) :
    Calls Try.prog 19 #[.int .i32 x] w fun e w' => e = .returned (.tuple #[.int .i32 (wRc (wRcV x)), .int .i32 (wClz x - 1)]) ∧ Below w.heap.size w w' := recip_w x _ _ w x1 x2 rfl rfl
end Go.Proofs.Ytbcfmlcfkihenaa
