/- What package ops' functions answer. Conditions: the numbers are of the parameters' kinds; where a function reads a table, that the table lies as its text has it. -/
import Derived.Test.YtmafojcknpfmfaaGreatDoorProg
import Derived.Test.YtmafojcknpfmfaaGreatDoorOpsD
import Derived.Test.YtmafojcknpfmfaaGreatDoorWordA
import Derived.Handy
import Derived.Lib.Hide
import Derived.Laws.Rows
import Derived.PlainAid
namespace Go.Proofs.YtmafojcknpfmfaaGreatDoor
open Go.RowKit

theorem cost_is (n : Int) (w : World) (hc : ∀ i : Nat, i < 44 → w.cell? ⟨0, i, none⟩ = some (.int .i64 (costZ i))) :
    Calls Tryz.prog 15 #[.int .i64 n] w fun e w' => e = .returned (.int .i64 (wCost n)) ∧ w = w' := by
  by_cases h1 : n < 1
  · have E := Lib.hid (wCost_out (Or.inl h1))
    go_enter Tryz.func15, Tryz.ntmps15
    go_wp2
    go_ret
    exact ⟨ret_int E.out.symm, rfl⟩
  by_cases h2 : 43 < n
  · have E := Lib.hid (wCost_out (Or.inr h2))
    go_enter Tryz.func15, Tryz.ntmps15
    go_wp2
    go_ret
    exact ⟨ret_int E.out.symm, rfl⟩
  obtain ⟨k, rfl⟩ : ∃ k : Nat, n = k := ⟨n.toNat, by omega⟩
  have E := Lib.hid (wCost_in k (by omega) (by omega))
  have h3 := hc k (by omega)
  clear hc
  go_enter Tryz.func15, Tryz.ntmps15
  go_wp2
  all_goals go_ret
  all_goals exact ⟨ret_int (by rw [E.out]; omega), rfl⟩

/-- The tables' cells lie in w as the program's text has them. -/
def shapesC : Array Value := #[.int .i64 1, .int .i64 23, .string ⟨#[100, 97, 98, 45]⟩, .int .i64 24, .int .i64 30, .string ⟨#[100, 97, 45, 45]⟩, .int .i64 31, .int .i64 31, .string ⟨#[100, 97, 45, 115]⟩, .int .i64 32, .int .i64 32, .string ⟨#[100, 97, 45, 117]⟩, .int .i64 33, .int .i64 33, .string ⟨#[100, 45, 45, 117]⟩, .int .i64 34, .int .i64 38, .string ⟨#[100, 97, 45, 117]⟩, .int .i64 39, .int .i64 39, .string ⟨#[45, 45, 45, 117]⟩, .int .i64 40, .int .i64 40, .string ⟨#[100, 45, 45, 117]⟩, .int .i64 41, .int .i64 41, .string ⟨#[45, 97, 45, 45]⟩, .int .i64 42, .int .i64 43, .string ⟨#[45, 45, 45, 45]⟩]
end Go.Proofs.YtmafojcknpfmfaaGreatDoor
