/- What package turn's functions answer. Conditions: the numbers are of the kind int32. -/
import Derived.Test.YtmlofggohkcjnaaGreatTabA
import Derived.Test.YtmlofggohkcjnaaGreatMillX
import Derived.Test.YtmlofggohkcjnaaGreatMillY
import Derived.Test.YtmlofggohkcjnaaGreatMillW
namespace Go.Proofs.YtmlofggohkcjnaaGreat
open Go.RowKit

theorem turns_is (w : World) :
    Calls Tryz.prog 14 #[] w fun e w' => e = .returned (.agg #[.iface 40 (.agg #[])]) ∧ Below w.heap.size w w' := by
  have hb := fun o => ((Below.refl w.heap.size w).alloc (Nat.le_refl _) o)
  go_enter Tryz.func14, Tryz.ntmps14
  go_wp2
  go_returns
  refine ⟨rfl, ?_⟩
  first | exact hb _ | exact (hb _).setCell (Nat.le_refl _) _
theorem vector_is (y x : Int) (w : World) (y1 : -2147483648 ≤ y) (y2 : y ≤ 2147483647) (x1 : -2147483648 ≤ x) (x2 : x ≤ 2147483647) :
    Calls Tryz.prog 5 #[.int .i32 y, .int .i32 x] w fun e w' => e = .returned (.tuple #[.int .i32 (vN y x 28).1, .int .i32 (vN y x 28).2.1, .int .i32 (vN y x 28).2.2]) ∧ Below w.heap.size w w' := by
  have hb := Below.refl w.heap.size w
  have hB := Nat.le_refl w.heap.size
  obtain ⟨t, ht⟩ : ∃ t, vN y x 28 = t := ⟨_, rfl⟩
  rw [ht]
  obtain ⟨u, v, a⟩ := t
  have HT := Lib.hid ht
  clear ht
  go_enter Tryz.func5, Tryz.ntmps5
  go_wp2_with (first
    | (go_at_call 14; refine (keep (turns_is _) hb hB).mono ?_; rintro e w1 ⟨rfl, hb, hB⟩)
    | (go_at_call 15; with_reducible refine (keep (mVector_v y x u v a _ y1 y2 x1 x2 HT.out) hb hB).mono ?_; rintro e w1 ⟨rfl, hb, hB⟩))
  go_returns
  exact ⟨rfl, hb⟩
theorem angle_is (y x : Int) (w : World) (y1 : -2147483648 ≤ y) (y2 : y ≤ 2147483647) (x1 : -2147483648 ≤ x) (x2 : x ≤ 2147483647) :
    Calls Tryz.prog 9 #[.int .i32 y, .int .i32 x] w fun e w' => e = .returned (.int .i32 (wAng y x)) ∧ Below w.heap.size w w' := by
  have hb := Below.refl w.heap.size w
  have hB := Nat.le_refl w.heap.size
  obtain ⟨r, hr⟩ : ∃ r, wAng y x = r := ⟨_, rfl⟩
  rw [hr]
  have HR := Lib.hid hr
  clear hr
  go_enter Tryz.func9, Tryz.ntmps9
  go_wp2_with (first
    | (go_at_call 14; refine (keep (turns_is _) hb hB).mono ?_; rintro e w1 ⟨rfl, hb, hB⟩)
    | (go_at_call 21; with_reducible refine (keep (mAngle_v y x r _ y1 y2 x1 x2 HR.out) hb hB).mono ?_; rintro e w1 ⟨rfl, hb, hB⟩))
  go_ret
  exact ⟨rfl, hb⟩
theorem wave_is (a : Int) (w : World) (a1 : -2147483648 ≤ a) (a2 : a ≤ 2147483647) :
    Calls Tryz.prog 12 #[.int .i32 a] w fun e w' => e = .returned (.tuple #[.int .i32 (wWvY a), .int .i32 (wWvX a)]) ∧ Below w.heap.size w w' := by
  have hb := Below.refl w.heap.size w
  have hB := Nat.le_refl w.heap.size
  obtain ⟨r, hr⟩ : ∃ r, wWvY a = r := ⟨_, rfl⟩
  obtain ⟨q, hq⟩ : ∃ q, wWvX a = q := ⟨_, rfl⟩
  rw [hr, hq]
  have HR := Lib.hid hr
  have HQ := Lib.hid hq
  clear hr hq
  go_enter Tryz.func12, Tryz.ntmps12
  go_wp2_with (first
    | (go_at_call 14; refine (keep (turns_is _) hb hB).mono ?_; rintro e w1 ⟨rfl, hb, hB⟩)
    | (go_at_call 29; with_reducible refine (keep (mWave_v a r q _ a1 a2 HR.out HQ.out) hb hB).mono ?_; rintro e w1 ⟨rfl, hb, hB⟩))
  go_returns
  exact ⟨rfl, hb⟩
end Go.Proofs.YtmlofggohkcjnaaGreat
