/- Package build: addi, isCounter; a loop's inside is called. -/
import Derived.Test.YtgmphfagflhglaaGreatDoorProg
import Derived.IntWalk
import Derived.Handy
import Derived.StillTailTactics
import Derived.Lib.Hide
import Derived.Defers
import Derived.Recover
namespace Go.Proofs.YtgmphfagflhglaaGreatDoor
open Go.RowKit Go.IntWalk

set_option maxHeartbeats 1000000 in
theorem bldAddi_is (d a n : Int) (w : World) : Calls Tryz.prog 17 #[.int .i64 d, .int .i64 a, .int .i64 n] w fun e w' => e = .returned (.agg #[.int .i64 31, .int .i64 d, .int .i64 a, .int .i64 0, .int .i64 n]) ∧ Below w.heap.size w w' := by
  go_enter Tryz.func17, Tryz.ntmps17
  go_wp2
  exact bodyPost_ret (v := .agg #[.int .i64 31, .int .i64 d, .int .i64 a, .int .i64 0, .int .i64 n]) (by simp [results, Tryz.results17, go_sem]) rfl ⟨rfl, (Below.refl _ _).alloc (Nat.le_refl _) _⟩
def cntB (r : Int) : Bool := decide (1 ≤ r) && decide (r < 32)
set_option maxHeartbeats 1000000 in
theorem bldCounter_is (r : Int) (w : World) : Calls Tryz.prog 19 #[.int .i64 r] w fun e w' => e = .returned (.bool (cntB r)) ∧ w = w' := by
  by_cases h1 : 1 ≤ r
  · have hE := Lib.hid (show decide (r < 32) = cntB r by unfold cntB; rw [decide_eq_true h1, Bool.true_and])
    go_enter Tryz.func19, Tryz.ntmps19
    go_wp2
    go_ret
    exact ⟨by rw [hE.out]; rfl, rfl⟩
  · have hE := Lib.hid (show false = cntB r by unfold cntB; rw [decide_eq_false h1, Bool.false_and])
    have h2 : r < 1 := by omega
    clear h1
    go_enter Tryz.func19, Tryz.ntmps19
    go_wp2
    go_ret
    exact ⟨by rw [hE.out]; rfl, rfl⟩

/-- Nothing is to be recovered. -/
theorem bldIdle (w : World) : CallsD Tryz.prog 37 #[] .returning w fun e u' w' => e = .returned (.tuple #[]) ∧ u' = .returning ∧ w' = w := by
  refine callsD_of_wpS Tryz.func37 rfl fun c₀ cs hu => ?_
  apply wpS_region
  simp [wpOpsS, go_sem, recoverD, hu, Tryz.ntmps37, bodyPostS, results, Tryz.results37]
  cases c₀
  simp_all
theorem funcSome (fn : Fn) (first cap : Array Value) (w : World) : Sem.run Tryz.prog (binOp .neq 1 (.func fn first cap) .nilFunc) w = .ok (.bool true) w := by kernel_rfl
set_option maxRecDepth 20000 in
set_option maxHeartbeats 1000000 in
theorem bldWithin_is {f : FuncId} {cap : Array Value} {w : World} {R : World → Prop} (hf : ∀ w, Sem.run Tryz.prog (callFunc f cap) w = .ok (.enter f cap) w) (hc : Calls Tryz.prog f cap w fun e w' => e = .returned (.tuple #[]) ∧ R w') :
    Calls Tryz.prog 21 #[.func (.func f) #[] cap] w fun e w' => e = .returned (.tuple #[]) ∧ R w' := by
  have HC := Lib.hid hc
  have hq := fun w => funcSome (.func f) #[] cap w
  clear hc
  go_enter_defers Tryz.func21, Tryz.ntmps21
  go_wp2
  refine (HC.out).mono ?_
  rintro e w1 ⟨rfl, h1⟩
  have H1 := Lib.hid h1
  clear h1
  go_wp2
  refine leaves_cons (f := 37) (args := #[]) (by simp) (by simp [go_sem]) ?_
  refine (bldIdle _).mono ?_
  rintro e u' w'' ⟨rfl, rfl, rfl⟩
  simp [Leaves, settle, results, Tryz.results21, go_sem]
  exact H1.out
end Go.Proofs.YtgmphfagflhglaaGreatDoor
