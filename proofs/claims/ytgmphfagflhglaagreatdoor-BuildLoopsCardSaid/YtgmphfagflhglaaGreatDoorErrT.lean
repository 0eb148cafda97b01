/- A row that lists the tables and errors.errorType: what each holds wherever the row's condition is met; a world that meets it. -/
import Derived.Test.YtgmphfagflhglaaGreatDoorErrG
import Derived.Test.YtgmphfagflhglaaGreatDoorCodG
import Derived.Lay
import Derived.Deep.DeepLaidRun
namespace Go.Proofs.YtgmphfagflhglaaGreatDoor
open Go.ChangeShapes Go.WideShapes Go.RowKit

/-- The settled world with the plain tables laid, the handle's cell laid. -/
noncomputable def bothWorld (os : Os) (l : List (String × DataW Unit)) : World :=
  let w0 := World.laidAll Tryz.prog os l
  { w0 with heap := w0.heap.modify 0 fun
      | .cells _ t frozen => .cells #[.iface 148 (.agg #[.pointer (some ⟨3, 88, none⟩)])] t frozen
      | o => o }
theorem bothWorld_os (os : Os) (l : List (String × DataW Unit)) : (bothWorld os l).os = os := World.laidAll_os _ _ _
theorem plain_of {P : Program} {W : World} {l : List (String × DataW Unit)} (h : laidMetH P l W) : laidMet P (l.filter fun x => x.2.handleName?.isNone) W := by
  unfold laidMetH at h
  cases q : l.filter fun x => x.2.handleName?.isSome with
  | nil =>
    rw [q] at h
    have e : (l.filter fun x => x.2.handleName?.isNone) = l := by
      rw [List.filter_eq_self]
      intro x hx
      have := (List.filter_eq_nil_iff.1 q) x hx
      cases hn : x.2.handleName? with
      | none => rfl
      | some s => rw [hn] at this; exact absurd rfl this
    rw [e]; exact h
  | cons a r => rw [q] at h; exact h.1
theorem shapes_laid2 {W : World} {l : List (String × DataW Unit)} (h : laidMetH Tryz.prog l W) (m1 : ("astrolabe/ops.shapes", Rows.laid_astrolabe_ops_shapes) ∈ l) : ShapesLaid W := by
  have hf : flat Tryz.prog 5 142 (Rows.laid_astrolabe_ops_shapes : DataW Unit) = some shapesC.toList := by kernel_rfl
  exact laid_block (plain_of h) (List.mem_filter.2 ⟨m1, rfl⟩) 5 (by kernel_rfl) (by kernel_rfl) hf
end Go.Proofs.YtgmphfagflhglaaGreatDoor
