/- What the document's own plain answers for quaternions (package astrolaberef10) give: norms, units, and what is told of them. Conditions: the numbers are of the kind int32. -/
import Derived.Test.YtdphiobmjdiefaaQuatR
import Derived.Test.YtdphiobmjdiefaaStr
import Derived.Deep.AppendLies
import Derived.OwnWalk
import Derived.Laws.AppendOwn
import Derived.Laws.OwnMore
namespace Go.Proofs.Ytdphiobmjdiefaa
open Go.RowKit

/-- The parts of a quaternion, by their number. -/
def pt (p0 p1 p2 p3 : Int) (k : Nat) : Int := if k = 0 then p0 else if k = 1 then p1 else if k = 2 then p2 else p3
theorem pt_bd {p0 p1 p2 p3 : Int} (h : Wd4 p0 p1 p2 p3) (k : Nat) : -2147483648 ≤ pt p0 p1 p2 p3 k ∧ pt p0 p1 p2 p3 k ≤ 2147483647 := by
  unfold pt; split
  · exact h.h0
  · split
    · exact h.h1
    · split
      · exact h.h2
      · exact h.h3
/-- Four words in a row, added from the left on. -/
def sm (f : Nat → Int) : Nat → Int
  | 0 => f 0
  | k + 1 => wCut (sm f k + f (k + 1))
theorem sm_bd {f : Nat → Int} (h : ∀ k, -2147483648 ≤ f k ∧ f k ≤ 2147483647) : ∀ k, -2147483648 ≤ sm f k ∧ sm f k ≤ 2147483647
  | 0 => h 0
  | _ + 1 => wCut_bd _
theorem infoI32q : (Try.prog.info? 21).map (fun i => (i.zero, i.size, i.bytes)) = some (some (.int .i32 0), 1, 4) := by kernel_rfl
theorem nrm_sm (p0 p1 p2 p3 : Int) : sm (fun k => wMulq (pt p0 p1 p2 p3 k) (pt p0 p1 p2 p3 k)) 3 = wNrm p0 p1 p2 p3 := rfl
/-- The squares ahead of part k. -/
def sqs (f : Nat → Int) (k : Nat) : List Value := (List.range k).map fun j => .int .i32 (wMulq (f j) (f j))
theorem sqs_succ (f : Nat → Int) (k : Nat) : sqs f k ++ [.int .i32 (wMulq (f k) (f k))] = sqs f (k + 1) := by
  unfold sqs; rw [List.range_succ, List.map_append]; rfl

end Go.Proofs.Ytdphiobmjdiefaa
