/- Package alu's Do, where what it answers is known. Conditions: the numbers are of the parameters' kinds. -/
import Derived.Test.YtcoicgkpikoibaaGreatDoorAluO
namespace Go.Proofs.YtcoicgkpikoibaaGreatDoor
open Go.RowKit

theorem do_v (op a b v : Int) (t : Bool) (w : World) (a1 : -2147483648 ≤ a) (a2 : a ≤ 2147483647) (b1 : -2147483648 ≤ b) (b2 : b ≤ 2147483647) (hv : wDo op a b = v) (ht : wDoes op b = t) :
    Calls Tryz.prog 104 #[.int .i64 op, .int .i32 a, .int .i32 b] w fun e w' => e = .returned (.tuple #[.int .i32 v, .bool t]) ∧ Below w.heap.size w w' := by
  subst hv ht; exact do_is op a b w a1 a2 b1 b2
theorem do_two {op a b : Int} (h1 : 1 ≤ op) (h2 : op ≤ 21) : wDo op a b = wTwo op a b := wDo_two (wDoes_in (by omega) (by omega) (by omega) (by omega)) (by omega)
theorem do_one {op a b : Int} (h1 : 24 ≤ op) (h2 : op ≤ 30) : wDo op a b = wOne op a := wDo_one (wDoes_in (by omega) (by omega) (by omega) (by omega)) (by omega)
theorem does_two {op b : Int} (h1 : 1 ≤ op) (h2 : op ≤ 21) : wDoes op b = true := wDoes_in (by omega) (by omega) (by omega) (by omega)
theorem does_one {op b : Int} (h1 : 24 ≤ op) (h2 : op ≤ 30) : wDoes op b = true := wDoes_in (by omega) (by omega) (by omega) (by omega)
/-- The masks of levels: 30 leaves out the lowest bit, and 32. -/
theorem and_30 {c : Int} (h1 : 0 ≤ c) (h2 : c ≤ 32) : wAnd c 30 = c % 32 / 2 * 2 := by
  obtain ⟨n, rfl⟩ : ∃ n : Nat, c = n := ⟨c.toNat, by omega⟩
  have : ((List.range 33).all fun i => decide (wAnd (i : Int) 30 = (i : Int) % 32 / 2 * 2)) = true := by decide +kernel
  simpa using List.all_eq_true.1 this n (List.mem_range.2 (by omega))
end Go.Proofs.YtcoicgkpikoibaaGreatDoor
