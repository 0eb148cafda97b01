/- What package ops' functions answer. Conditions: the numbers are of the parameters' kinds; where a function reads a table, that the table lies as its text has it. -/
import Derived.Test.YtnnekaechojcgaaDoorProg
import Derived.Test.YtnnekaechojcgaaDoorOpsD
import Derived.Test.YtnnekaechojcgaaDoorWordA
import Derived.Handy
import Derived.Lib.Hide
import Derived.Laws.Rows
import Derived.PlainAid
namespace Go.Proofs.YtnnekaechojcgaaDoor
open Go.RowKit

theorem reckons_is (n : Int) (w : World) :
    Calls Tryd.prog 14 #[.int .i64 n] w fun e w' => e = .returned (.bool (wReck n)) ∧ w = w' := by
  by_cases h1 : 1 ≤ n <;> by_cases h2 : n ≤ 30
  all_goals
    have E := Lib.hid (show wReck n = decide (1 ≤ n ∧ n ≤ 30) from rfl)
    go_enter Tryd.func14, Tryd.ntmps14
    go_wp2
    go_ret
    exact ⟨by rw [E.out]; simp [h1, h2], rfl⟩

theorem leaks_is (n : Int) (w : World) :
    Calls Tryd.prog 16 #[.int .i64 n] w fun e w' => e = .returned (.bool (wLeak n)) ∧ w = w' := by
  go_enter Tryd.func16, Tryd.ntmps16
  go_wp2
  all_goals go_ret
  all_goals refine ⟨?_, rfl⟩
  all_goals simp only [beq_iff_eq, beq_eq_false_iff_ne] at *
  all_goals unfold wLeak
  all_goals first
    | (rw [decide_eq_true (by omega)]; rfl)
    | (rw [decide_eq_false (by omega)]; rfl)

theorem cost_is (n : Int) (w : World) (hc : ∀ i : Nat, i < 44 → w.cell? ⟨1, i, none⟩ = some (.int .i64 (costZ i))) :
    Calls Tryd.prog 12 #[.int .i64 n] w fun e w' => e = .returned (.int .i64 (wCost n)) ∧ w = w' := by
  by_cases h1 : n < 1
  · have E := Lib.hid (wCost_out (Or.inl h1))
    go_enter Tryd.func12, Tryd.ntmps12
    go_wp2
    go_ret
    exact ⟨ret_int E.out.symm, rfl⟩
  by_cases h2 : 43 < n
  · have E := Lib.hid (wCost_out (Or.inr h2))
    go_enter Tryd.func12, Tryd.ntmps12
    go_wp2
    go_ret
    exact ⟨ret_int E.out.symm, rfl⟩
  obtain ⟨k, rfl⟩ : ∃ k : Nat, n = k := ⟨n.toNat, by omega⟩
  have E := Lib.hid (wCost_in k (by omega) (by omega))
  have h3 := hc k (by omega)
  clear hc
  go_enter Tryd.func12, Tryd.ntmps12
  go_wp2
  all_goals go_ret
  all_goals exact ⟨ret_int (by rw [E.out]; omega), rfl⟩

/-- The tables' cells lie in w as the program's text has them. -/
def shapesC : Array Value := #[.int .i64 1, .int .i64 23, .string ⟨#[100, 97, 98, 45]⟩, .int .i64 24, .int .i64 30, .string ⟨#[100, 97, 45, 45]⟩, .int .i64 31, .int .i64 31, .string ⟨#[100, 97, 45, 115]⟩, .int .i64 32, .int .i64 32, .string ⟨#[100, 97, 45, 117]⟩, .int .i64 33, .int .i64 33, .string ⟨#[100, 45, 45, 117]⟩, .int .i64 34, .int .i64 38, .string ⟨#[100, 97, 45, 117]⟩, .int .i64 39, .int .i64 39, .string ⟨#[45, 45, 45, 117]⟩, .int .i64 40, .int .i64 40, .string ⟨#[100, 45, 45, 117]⟩, .int .i64 41, .int .i64 41, .string ⟨#[45, 97, 45, 45]⟩, .int .i64 42, .int .i64 43, .string ⟨#[45, 45, 45, 45]⟩]
theorem infoShapes : (Tryd.prog.info? 33).map (·.size) = some 30 := by kernel_rfl

theorem shapes_at {k : Nat} (h : k < 10) (w : World) : (Instr.index 33 (.agg shapesC) (.int .i64 k)).run Tryd.prog w = .ok (.agg #[.int .i64 (loZ k), .int .i64 (hiZ k), .string (shZ k)]) w := by
  rcases (show k = 0 ∨ k = 1 ∨ k = 2 ∨ k = 3 ∨ k = 4 ∨ k = 5 ∨ k = 6 ∨ k = 7 ∨ k = 8 ∨ k = 9 by omega) with rfl | rfl | rfl | rfl | rfl | rfl | rfl | rfl | rfl | rfl
  all_goals kernel_rfl

theorem shape_is (n : Int) (w : World) {ty : TypeId} (hs : w.heap[0]? = some (.cells shapesC ty (0, 0))) :
    Calls Tryd.prog 10 #[.int .i64 n] w fun e w' => e = .returned (.string (wShape n)) ∧ Below w.heap.size w w' := by
  go_enter Tryd.func10, Tryd.ntmps10
  go_wp2_with (refine wpList_load_row rfl 33 _ rfl 0 rfl ty shapesC (0, 0) _ hs Tryd.underlying33 rfl infoShapes ?_)
  go_loopw [6] (fun i wr => ∃ k : Nat, k ≤ 10 ∧ i = .int .i64 k ∧ (n < 1 ∨ loZ k ≤ n) ∧ Below w.heap.size w wr) (fun i _ => 10 - (intOf i).toNat)
  case atStart => exact ⟨0, by omega, rfl, by simp [loZ]; omega, Below.refl _ _⟩
  case round =>
    obtain ⟨k, hk, rfl, hn, hb⟩ := hrel
    have hB := hb.size
    by_cases hlt : k < 10
    · have hx := fun w => shapes_at hlt w
      have L := lo_bd k
      have H := hi_bd hlt
      have E2 := Lib.hid (lo_next hlt)
      by_cases h1 : loZ k ≤ n
      · by_cases h2 : n ≤ hiZ k
        · have E := Lib.hid (wShape_at hlt h1 h2)
          go_wp2
          go_ret
          exact ⟨by rw [E.out]; rfl, hb.alloc hB _⟩
        · go_wp2
          go_roundw
          case rel => exact ⟨k + 1, by omega, by go_num, by rw [E2.out]; omega, hb.alloc hB _⟩
          case measure => simp [intOf]; omega
      · go_wp2
        go_roundw
        case rel => exact ⟨k + 1, by omega, by go_num, by left; omega, hb.alloc hB _⟩
        case measure => simp [intOf]; omega
    · have e : loZ k = 44 := by obtain rfl : k = 10 := by omega
                                rfl
      have E := Lib.hid (wShape_out (n := n) (by omega))
      clear e
      go_wp2
      go_ret
      exact ⟨by rw [E.out]; rfl, hb⟩
end Go.Proofs.YtnnekaechojcgaaDoor
