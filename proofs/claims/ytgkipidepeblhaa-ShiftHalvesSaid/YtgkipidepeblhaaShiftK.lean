/- Package shift's calls within a law: what they answer, and that they write nothing that was there; the page's examples. -/
import Derived.Test.YtgkipidepeblhaaShiftA
namespace Go.Proofs.Ytgkipidepeblhaa
open Go.RowKit

/-- A call that only makes new memory, in a walk that began at w0. -/
theorem keep {P : Program} {f : FuncId} {args : Array Value} {w w0 : World} {B : Nat} {v : Value}
    (hc : Calls P f args w fun e w' => e = .returned v ∧ Below w.heap.size w w') (hb : Below B w0 w) (hB : B ≤ w.heap.size) :
    Calls P f args w fun e w' => e = .returned v ∧ Below B w0 w' ∧ B ≤ w'.heap.size :=
  hc.mono fun _ _ ⟨he, h⟩ => ⟨he, hb.trans (h.mono hB), Nat.le_trans hB h.size⟩

theorem sar_b (x n : Int) (w : World) :
    Calls Try.prog 12 #[.int .i32 x, .int .i32 n] w fun e w' => e = .returned (.int .i32 (wSar x n)) ∧ Below w.heap.size w w' :=
  (sar_is x n w).mono fun _ _ ⟨he, h⟩ => ⟨he, h ▸ (Below.refl _ _).alloc (Nat.le_refl _) _⟩
theorem ones_b (x : Int) (w : World) :
    Calls Try.prog 18 #[.int .i32 x] w fun e w' => e = .returned (.int .i32 (wOnes x)) ∧ Below w.heap.size w w' :=
  (ones_is x w).mono fun _ _ ⟨he, h⟩ => ⟨he, h ▸ (Below.refl _ _).drew⟩

theorem shiftAwake_is (w : World) :
    Calls Try.prog 22 #[] w fun e w' => e = .returned (.bool true) ∧ Below w.heap.size w w' := by
  have hb := Below.refl w.heap.size w
  have hB := Nat.le_refl w.heap.size
  have e1 : wSar (-3) 1 = -2 := by decide +kernel
  have e2 : wShr (-1) 28 = 15 := by decide +kernel
  have e3 : wRol (-2147483648) 1 = 1 := by decide +kernel
  have e4 : wClz 1 = 31 := by decide +kernel
  have e5 : wShl 1 33 = 2 := by decide +kernel
  have e6 : wOnes 7 = 3 := by decide +kernel
  have e7 : wTurn 1 = -2147483648 := by decide +kernel
  go_enter Try.func22, Try.ntmps22
  go_wp2_with (first
    | (go_at_call 12; refine (keep (sar_b _ _ _) hb hB).mono ?_; rintro e w1 ⟨rfl, hb, hB⟩)
    | (go_at_call 18; refine (keep (ones_b _ _) hb hB).mono ?_; rintro e w1 ⟨rfl, hb, hB⟩)
    | (go_at_call 10; refine (shr_is _ _ _).mono ?_; rintro e w' ⟨rfl, rfl⟩)
    | (go_at_call 8; refine (shl_is _ _ _).mono ?_; rintro e w' ⟨rfl, rfl⟩)
    | (go_at_call 14; refine (rol_is _ _ _).mono ?_; rintro e w' ⟨rfl, rfl⟩)
    | (go_at_call 16; refine (clz_is _ _).mono ?_; rintro e w' ⟨rfl, rfl⟩)
    | (go_at_call 20; refine (turn_is _ _).mono ?_; rintro e w' ⟨rfl, rfl⟩))
  go_ret
  exact ⟨rfl, hb⟩
end Go.Proofs.Ytgkipidepeblhaa
