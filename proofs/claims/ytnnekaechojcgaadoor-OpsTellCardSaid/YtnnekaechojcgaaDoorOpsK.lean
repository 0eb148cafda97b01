/- Package ops' tables within a law's walk, and the page's examples. Condition: the tables lie as the program's text has them. -/
import Derived.Test.YtnnekaechojcgaaDoorOpsA
import Derived.Test.YtnnekaechojcgaaDoorOpsN
import Derived.Test.YtnnekaechojcgaaDoorKeep
namespace Go.Proofs.YtnnekaechojcgaaDoor
open Go.RowKit

def costsC : Array Value := ((List.range 44).map fun i => Value.int .i64 (costZ i)).toArray
/-- The two tables lie in w as the program's text has them. -/
def OpsLaid (w : World) : Prop := (∃ ty, w.heap[0]? = some (.cells shapesC ty (0, 0))) ∧ ∃ ty, w.heap[1]? = some (.cells costsC ty (0, 0))
theorem OpsLaid.below {w0 w : World} (h : OpsLaid w0) (hb : Below w0.heap.size w0 w) : OpsLaid w := by
  obtain ⟨⟨t1, h1⟩, t2, h2⟩ := h
  exact ⟨⟨t1, by rw [hb.block _ (Array.getElem?_eq_some_iff.1 h1).1]; exact h1⟩, t2, by rw [hb.block _ (Array.getElem?_eq_some_iff.1 h2).1]; exact h2⟩
theorem shape_L (n : Int) (w : World) (h : OpsLaid w) :
    Calls Tryd.prog 10 #[.int .i64 n] w fun e w' => e = .returned (.string (wShape n)) ∧ Below w.heap.size w w' := by
  obtain ⟨⟨t1, h1⟩, _⟩ := h
  exact shape_is n w h1
theorem cost_L (n : Int) (w : World) (h : OpsLaid w) :
    Calls Tryd.prog 12 #[.int .i64 n] w fun e w' => e = .returned (.int .i64 (wCost n)) ∧ w = w' := by
  obtain ⟨_, t2, h2⟩ := h
  refine cost_is n w fun i hi => ?_
  rw [cell_of_row _ _ _ _ _ _ h2]
  simp [costsC, hi]

theorem opsAwake_is (w : World) (hL : OpsLaid w) :
    Calls Tryd.prog 5 #[] w fun e w' => e = .returned (.bool true) ∧ Below w.heap.size w w' := by
  have hb := Below.refl w.heap.size w
  have hB := Nat.le_refl w.heap.size
  have e1 : ((wName 20).toList == [109, 117, 108, 113]) = true := str_is (by decide +kernel)
  have e2 : ((wShape 35).toList == [100, 97, 45, 117]) = true := str_is (by decide +kernel)
  have e3 : (wFind ⟨#[104, 97, 108, 116]⟩ == 43) = true := by rw [show wFind ⟨#[104, 97, 108, 116]⟩ = 43 by decide +kernel]; rfl
  have e4 : (wCost 20 == 3) = true := by decide +kernel
  have e5 : wLeak 34 = true := by decide +kernel
  have e6 : wReck 30 = true := by decide +kernel
  have e7 : wReck 31 = false := by decide +kernel
  go_enter Tryd.func5, Tryd.ntmps5
  go_wp2_with (first
    | (go_at_call 6; refine (keep (name_is _ _) hb hB).mono ?_; rintro e w1 ⟨rfl, hb, hB⟩)
    | (go_at_call 10; refine (keep (shape_L _ _ (hL.below hb)) hb hB).mono ?_; rintro e w1 ⟨rfl, hb, hB⟩)
    | (go_at_call 8; refine (keep (find_is _ _) hb hB).mono ?_; rintro e w1 ⟨rfl, hb, hB⟩)
    | (go_at_call 12; refine (cost_L _ _ (hL.below hb)).mono ?_; rintro e w1 ⟨rfl, rfl⟩)
    | (go_at_call 16; refine (leaks_is _ _).mono ?_; rintro e w1 ⟨rfl, rfl⟩)
    | (go_at_call 14; refine (reckons_is _ _).mono ?_; rintro e w1 ⟨rfl, rfl⟩))
  go_ret
  exact ⟨rfl, hb⟩
end Go.Proofs.YtnnekaechojcgaaDoor
