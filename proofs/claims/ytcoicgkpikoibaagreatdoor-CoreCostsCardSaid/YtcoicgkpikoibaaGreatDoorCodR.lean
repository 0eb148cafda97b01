/- What the document says of layer 13, as its plainest functions answer it: Check, Encode. No conditions but that letters are a shape's. -/
import Derived.Test.YtcoicgkpikoibaaGreatDoorCodC
import Derived.Test.YtcoicgkpikoibaaGreatDoorOpsR
namespace Go.Proofs.YtcoicgkpikoibaaGreatDoor
open Go.RowKit

def Letter (l : Int) : Prop := l = 100 ∨ l = 97 ∨ l = 98 ∨ l = 115 ∨ l = 117 ∨ l = 45
theorem shaped_letters {o l0 l1 l2 l3 : Int} (h : Shaped o l0 l1 l2 l3) : Letter l0 ∧ Letter l1 ∧ Letter l2 ∧ Letter l3 := by
  unfold Shaped at h
  unfold Letter
  omega
end Go.Proofs.YtcoicgkpikoibaaGreatDoor
