/- errors.errorType holds what start-up lays, wherever a row's condition is met; a world that meets it. -/
import Derived.Test.YtgmphfagflhglaaGreatDoorRows
import Derived.Test.YtgmphfagflhglaaGreatDoorLabE
import Derived.LaidLaws
import Derived.LaidHandle
import Derived.Stop.Joined
namespace Go.Proofs.YtgmphfagflhglaaGreatDoor
open Go.ChangeShapes Go.WideShapes Go.RowKit

theorem errNamed : Tryz.prog.globalNamed "errors.errorType" = some 0 := by kernel_rfl
theorem errRtype : (Tryz.prog.cutTypes.find? (·.1 == "internal/reflectlite.rtype")).map (·.2) = some 148 := by kernel_rfl
theorem errOne : ((List.range Tryz.prog.types.size).filter fun t => Tryz.prog.rowNamed t [101, 114, 114, 111, 114]) = [88] := by kernel_rfl
theorem errHandle : typeHandle Tryz.prog 88 = .pointer (some ⟨3, 88, none⟩) := by kernel_rfl
theorem err_laid {W : World} {l : List (String × DataW Unit)} (h : laidMetH Tryz.prog l W) (m1 : ("errors.errorType", (Rows.laid_errors_errorType : DataW Unit)) ∈ l) : ErrLaid W := by
  have hm : ("errors.errorType", (Rows.laid_errors_errorType : DataW Unit)) ∈ l.filter fun x => x.2.handleName?.isSome := List.mem_filter.2 ⟨m1, rfl⟩
  have hh : handlesMet Tryz.prog (l.filter fun x => x.2.handleName?.isSome) W := by
    unfold laidMetH at h
    cases q : l.filter fun x => x.2.handleName?.isSome with
    | nil => rw [q] at hm; cases hm
    | cons a r => rw [q] at h; exact h.2
  obtain ⟨name, u, ty, e1, e2, e3, e4, e5⟩ := hh _ hm
  have en : name = [101, 114, 114, 111, 114] := (Option.some.inj e1).symm
  subst en
  obtain rfl := Option.some.inj (errRtype.symm.trans e2)
  have hm2 : ty ∈ (List.range Tryz.prog.types.size).filter fun t => Tryz.prog.rowNamed t [101, 114, 114, 111, 114] := List.mem_filter.2 ⟨List.mem_range.2 e3, e4⟩
  rw [errOne] at hm2
  obtain rfl := List.mem_singleton.1 hm2
  rw [errHandle] at e5
  unfold ErrLaid
  simpa using World.var?_cell errNamed e5 0
/-- A world that meets the condition: the settled one, the variable's cell laid. -/
noncomputable def errWorld (os : Os) : World :=
  let w0 := World.holding Tryz.prog os ⟨#[], #[], []⟩
  { w0 with heap := w0.heap.modify 0 fun
      | .cells _ t frozen => .cells #[.iface 148 (.agg #[.pointer (some ⟨3, 88, none⟩)])] t frozen
      | o => o }
theorem errWorld_met (os : Os) (args : Array Value) : laidMetH Tryz.prog [("errors.errorType", (Rows.laid_errors_errorType : DataW Unit))] ((errWorld os).forCall (fun _ _ => 0) ⟨#[], args, []⟩).memory :=
  laidMetH_of_parts (laidMet_nil _ _) (by kernel_rfl)
end Go.Proofs.YtgmphfagflhglaaGreatDoor
