/- What the functions of package sat mean: numbers cut to a word, a number within bounds. Nothing of any program. -/
import Derived.WalkKit
import Derived.PlainAid
namespace Go.Proofs.Ytbcfmlcfkihenaa
open Go.RowKit

/-- A number, cut to a word. -/
def wCut (x : Int) : Int := if x < -2147483648 then -2147483648 else if 2147483647 < x then 2147483647 else x
/-- A number within bounds; the high one counts before the low one. -/
def wClamp (x l h : Int) : Int := if h < x ∨ h < l then h else if x < l then l else x
/-- How far a number is from another. -/
def wFar (x y : Int) : Int := if x < y then y - x else x - y
/-- The amount of a word, cut. -/
def wAbs (x : Int) : Int := if x < 0 then wCut (-x) else x

theorem wCut_bd (x : Int) : -2147483648 ≤ wCut x ∧ wCut x ≤ 2147483647 := by
  unfold wCut; split <;> (try split) <;> omega
theorem wCut_in {x : Int} (h1 : -2147483648 ≤ x) (h2 : x ≤ 2147483647) : wCut x = x := by
  unfold wCut; split <;> (try split) <;> omega
theorem wClamp_eq (x l h : Int) : wClamp x l h = min (max x l) h := by
  unfold wClamp; omega
theorem wCut_clamp (x : Int) : wCut x = wClamp x (-2147483648) 2147483647 := by
  unfold wCut wClamp; split <;> split <;> (try split) <;> omega
theorem wClamp_bd {x l h : Int} {a b : Int} (x1 : a ≤ x) (x2 : x ≤ b) (l1 : a ≤ l) (l2 : l ≤ b) (h1 : a ≤ h) (h2 : h ≤ b) : a ≤ wClamp x l h ∧ wClamp x l h ≤ b := by
  unfold wClamp; split <;> (try split) <;> omega
theorem wFar_bd {x y : Int} (x1 : -9223372036854775808 ≤ x) (x2 : x ≤ 9223372036854775807) (y1 : -2147483648 ≤ y) (y2 : y ≤ 2147483647) : 0 ≤ wFar x y ∧ wFar x y < 18446744073709551616 := by
  unfold wFar; split <;> omega
end Go.Proofs.Ytbcfmlcfkihenaa
