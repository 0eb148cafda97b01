/- Roots, and 1 by roots, by a fixed number of steps: what package root's functions mean. Nothing of any program. -/
import Derived.Test.YtbcfmlcfkihenaaAluD
namespace Go.Proofs.Ytbcfmlcfkihenaa
open Go.RowKit

/-- The level of a number: how far it is shifted (an even number), the shifted number by 4, and half of how far. -/
def wLvT (x : Int) : Int := wClz x % 32 / 2 * 2
def wLvU (x : Int) : Int := wShr (wShl x (wLvT x)) 2
def wLvH (x : Int) : Int := wLvT x / 2
/-- 1 by the root: the beginning, what is left, and a step. -/
def wRs0 (u : Int) : Int := wCut (1184766729 - wMulq 715827883 u)
def wRsE (u z : Int) : Int := wCut (1073741824 - wShl (wMulq u (wMulq z z)) 2)
def wRsZ (u z : Int) : Int := wCut (z + wSar (wMulq z (wRsE u z)) 1)
def wRs (u : Int) : Int := wRsZ u (wRsZ u (wRsZ u (wRsZ u (wRs0 u))))
def wScale (v z h : Int) : Int := wShl (wMulq v z) h
def wSqrt (x : Int) : Int := wScale x (wRs (wLvU x)) (wLvH x)
/-- 1 by a number: the shifted number by 4, the beginning, what is left, and a step. -/
def wRcV (x : Int) : Int := wShr (wShl x (wClz x)) 2
def wRc0 (v : Int) : Int := wCut (1564549212 - v)
def wRcE (v z : Int) : Int := wCut (1073741824 - wShl (wMulq v z) 1)
def wRcZ (v z : Int) : Int := wCut (z + wMulq z (wRcE v z))
def wRc (v : Int) : Int := wRcZ v (wRcZ v (wRcZ v (wRcZ v (wRc0 v))))

theorem wRsE_bd (u z : Int) : -2147483648 ≤ wRsE u z ∧ wRsE u z ≤ 2147483647 := wCut_bd _
theorem wRsZ_bd (u z : Int) : -2147483648 ≤ wRsZ u z ∧ wRsZ u z ≤ 2147483647 := wCut_bd _
theorem wRs0_bd (u : Int) : -2147483648 ≤ wRs0 u ∧ wRs0 u ≤ 2147483647 := wCut_bd _
theorem wRs_bd (u : Int) : -2147483648 ≤ wRs u ∧ wRs u ≤ 2147483647 := wCut_bd _
theorem wRcE_bd (v z : Int) : -2147483648 ≤ wRcE v z ∧ wRcE v z ≤ 2147483647 := wCut_bd _
theorem wRcZ_bd (v z : Int) : -2147483648 ≤ wRcZ v z ∧ wRcZ v z ≤ 2147483647 := wCut_bd _
theorem wRc0_bd (v : Int) : -2147483648 ≤ wRc0 v ∧ wRc0 v ≤ 2147483647 := wCut_bd _
theorem wRc_bd (v : Int) : -2147483648 ≤ wRc v ∧ wRc v ≤ 2147483647 := wCut_bd _
theorem wLvT_bd (x : Int) : 0 ≤ wLvT x ∧ wLvT x ≤ 30 := by unfold wLvT; omega
theorem wLvH_bd (x : Int) : 0 ≤ wLvH x ∧ wLvH x ≤ 15 := by have := wLvT_bd x; unfold wLvH; omega
theorem wLvU_bd (x : Int) : -2147483648 ≤ wLvU x ∧ wLvU x ≤ 2147483647 := wShr_bd _ _
theorem wRcV_bd (x : Int) : -2147483648 ≤ wRcV x ∧ wRcV x ≤ 2147483647 := wShr_bd _ _
theorem wSqrt_bd (x : Int) : -2147483648 ≤ wSqrt x ∧ wSqrt x ≤ 2147483647 := wShl_bd _ _

theorem shl_wrap (x n : Int) : wShl x n = wrap32 (x * 2 ^ sn n) := by unfold wShl; rw [← wd_mul_pow, sg_wd]
theorem shr_div (x n : Int) : wShr x n = wrap32 (x % 4294967296 / 2 ^ sn n) := by unfold wShr; rw [sg_us, ← us_shr, us_wd]
end Go.Proofs.Ytbcfmlcfkihenaa
