/- What package turn's functions answer. Conditions: the numbers are of the kind int32. -/
import Derived.Test.YtmlofggohkcjnaaTabA
import Derived.Test.YtmlofggohkcjnaaMillX
import Derived.Test.YtmlofggohkcjnaaMillY
import Derived.Test.YtmlofggohkcjnaaMillW
namespace Go.Proofs.Ytmlofggohkcjnaa
open Go.RowKit

theorem turns_is (w : World) :
    Calls Try.prog 14 #[] w fun e w' => e = .returned (.agg #[.iface 39 (.agg #[])]) ∧ Below w.heap.size w w' := by
  have hb := fun o => ((Below.refl w.heap.size w).alloc (Nat.le_refl _) o)
  go_enter Try.func14, Try.ntmps14
  go_wp2
  go_returns
  refine ⟨rfl, ?_⟩
  first | exact hb _ | exact (hb _).setCell (Nat.le_refl _) _
theorem angle_is (y x : Int) (w : World) (y1 : -2147483648 ≤ y) (y2 : y ≤ 2147483647) (x1 : -2147483648 ≤ x) (x2 : x ≤ 2147483647) :
    Calls Try.prog 9 #[.int .i32 y, .int .i32 x] w fun e w' => e = .returned (.int .i32 (wAng y x)) ∧ Below w.heap.size w w' := by
  have hb := Below.refl w.heap.size w
  have hB := Nat.le_refl w.heap.size
  obtain ⟨r, hr⟩ : ∃ r, wAng y x = r := ⟨_, rfl⟩
  rw [hr]
  have HR := Lib.hid hr
  clear hr
  go_enter Try.func9, Try.ntmps9
  go_wp2_with (first
    | (go_at_call 14; refine (keep (turns_is _) hb hB).mono ?_; rintro e w1 ⟨rfl, hb, hB⟩)
    | (go_at_call 15; with_reducible refine (keep (mAngle_v y x r _ y1 y2 x1 x2 HR.out) hb hB).mono ?_; rintro e w1 ⟨rfl, hb, hB⟩))
  go_ret
  exact ⟨rfl, hb⟩
theorem wave_is (a : Int) (w : World) (a1 : -2147483648 ≤ a) (a2 : a ≤ 2147483647) :
    Calls Try.prog 10 #[.int .i32 a] w fun e w' => e = .returned (.tuple #[.int .i32 (wWvY a), .int .i32 (wWvX a)]) ∧ Below w.heap.size w w' := by
  have hb := Below.refl w.heap.size w
  have hB := Nat.le_refl w.heap.size
  obtain ⟨r, hr⟩ : ∃ r, wWvY a = r := ⟨_, rfl⟩
  obtain ⟨q, hq⟩ : ∃ q, wWvX a = q := ⟨_, rfl⟩
  rw [hr, hq]
  have HR := Lib.hid hr
  have HQ := Lib.hid hq
  clear hr hq
  go_enter Try.func10, Try.ntmps10
  go_wp2_with (first
    | (go_at_call 14; refine (keep (turns_is _) hb hB).mono ?_; rintro e w1 ⟨rfl, hb, hB⟩)
    | (go_at_call 16; with_reducible refine (keep (mWave_v a r q _ a1 a2 HR.out HQ.out) hb hB).mono ?_; rintro e w1 ⟨rfl, hb, hB⟩))
  go_returns
  exact ⟨rfl, hb⟩
end Go.Proofs.Ytmlofggohkcjnaa
