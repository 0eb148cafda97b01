/- Quaternions of fixed point: what package quat's functions mean, and the laws' plain facts. Nothing of any program. -/
import Derived.Test.YtdphiobmjdiefaaQuatM
namespace Go.Proofs.Ytdphiobmjdiefaa
open Go.RowKit

/-- The parts of a product. -/
def wQ0 (p0 p1 p2 p3 q0 q1 q2 q3 : Int) : Int := wCut (wCut (wCut (wMulq p0 q0 - wMulq p1 q1) - wMulq p2 q2) - wMulq p3 q3)
def wQ1 (p0 p1 p2 p3 q0 q1 q2 q3 : Int) : Int := wCut (wCut (wCut (wMulq p0 q1 + wMulq p1 q0) + wMulq p2 q3) - wMulq p3 q2)
def wQ2 (p0 p1 p2 p3 q0 q1 q2 q3 : Int) : Int := wCut (wCut (wCut (wMulq p0 q2 - wMulq p1 q3) + wMulq p2 q0) + wMulq p3 q1)
def wQ3 (p0 p1 p2 p3 q0 q1 q2 q3 : Int) : Int := wCut (wCut (wCut (wMulq p0 q3 + wMulq p1 q2) - wMulq p2 q1) + wMulq p3 q0)
/-- The parts of a rate. -/
def wR0 (_q0 q1 q2 q3 w0 w1 w2 : Int) : Int := wCut (wCut (wCut (0 - wMulq q1 w0) - wMulq q2 w1) - wMulq q3 w2)
def wR1 (q0 _q1 q2 q3 w0 w1 w2 : Int) : Int := wCut (wCut (wMulq q0 w0 + wMulq q2 w2) - wMulq q3 w1)
def wR2 (q0 q1 _q2 q3 w0 w1 w2 : Int) : Int := wCut (wCut (wMulq q0 w1 - wMulq q1 w2) + wMulq q3 w0)
def wR3 (q0 q1 q2 _q3 w0 w1 w2 : Int) : Int := wCut (wCut (wMulq q0 w2 + wMulq q1 w1) - wMulq q2 w0)

theorem mulq_comm (a b : Int) : wMulq a b = wMulq b a := by unfold wMulq; rw [Int.mul_comm]
theorem mulq_one {a : Int} (h1 : -2147483648 ≤ a) (h2 : a ≤ 2147483647) : wMulq 1073741824 a = a := by unfold wMulq wCut; omega
theorem mulq_one' {a : Int} (h1 : -2147483648 ≤ a) (h2 : a ≤ 2147483647) : wMulq a 1073741824 = a := by rw [mulq_comm]; exact mulq_one h1 h2
theorem mulq_0 (a : Int) : wMulq 0 a = 0 := by unfold wMulq wCut; omega
theorem mulq_0' (a : Int) : wMulq a 0 = 0 := by rw [mulq_comm]; exact mulq_0 a
/-- P10.5: 1 changes nothing. -/
theorem ones_left {q0 q1 q2 q3 : Int} (a0 : -2147483648 ≤ q0 ∧ q0 ≤ 2147483647) (a1 : -2147483648 ≤ q1 ∧ q1 ≤ 2147483647) (a2 : -2147483648 ≤ q2 ∧ q2 ≤ 2147483647) (a3 : -2147483648 ≤ q3 ∧ q3 ≤ 2147483647) :
    wQ0 1073741824 0 0 0 q0 q1 q2 q3 = q0 ∧ wQ1 1073741824 0 0 0 q0 q1 q2 q3 = q1 ∧ wQ2 1073741824 0 0 0 q0 q1 q2 q3 = q2 ∧ wQ3 1073741824 0 0 0 q0 q1 q2 q3 = q3 := by
  unfold wQ0 wQ1 wQ2 wQ3
  simp only [mulq_0, mulq_one a0.1 a0.2, mulq_one a1.1 a1.2, mulq_one a2.1 a2.2, mulq_one a3.1 a3.2]
  unfold wCut
  omega
theorem ones_right {q0 q1 q2 q3 : Int} (a0 : -2147483648 ≤ q0 ∧ q0 ≤ 2147483647) (a1 : -2147483648 ≤ q1 ∧ q1 ≤ 2147483647) (a2 : -2147483648 ≤ q2 ∧ q2 ≤ 2147483647) (a3 : -2147483648 ≤ q3 ∧ q3 ≤ 2147483647) :
    wQ0 q0 q1 q2 q3 1073741824 0 0 0 = q0 ∧ wQ1 q0 q1 q2 q3 1073741824 0 0 0 = q1 ∧ wQ2 q0 q1 q2 q3 1073741824 0 0 0 = q2 ∧ wQ3 q0 q1 q2 q3 1073741824 0 0 0 = q3 := by
  unfold wQ0 wQ1 wQ2 wQ3
  simp only [mulq_0', mulq_one' a0.1 a0.2, mulq_one' a1.1 a1.2, mulq_one' a2.1 a2.2, mulq_one' a3.1 a3.2]
  unfold wCut
  omega
theorem ones_rate {w0 w1 w2 : Int} (a0 : -2147483648 ≤ w0 ∧ w0 ≤ 2147483647) (a1 : -2147483648 ≤ w1 ∧ w1 ≤ 2147483647) (a2 : -2147483648 ≤ w2 ∧ w2 ≤ 2147483647) :
    wR0 1073741824 0 0 0 w0 w1 w2 = 0 ∧ wR1 1073741824 0 0 0 w0 w1 w2 = w0 ∧ wR2 1073741824 0 0 0 w0 w1 w2 = w1 ∧ wR3 1073741824 0 0 0 w0 w1 w2 = w2 := by
  unfold wR0 wR1 wR2 wR3
  simp only [mulq_0, mulq_one a0.1 a0.2, mulq_one a1.1 a1.2, mulq_one a2.1 a2.2]
  unfold wCut
  omega

/-- A small product: no cut; turned, it is turned, but for a unit. -/
theorem mulq_small {a b : Int} (a1 : -536870912 ≤ a) (a2 : a ≤ 536870912) (b1 : -536870912 ≤ b) (b2 : b ≤ 536870912) :
    (-268435457 ≤ wMulq a b ∧ wMulq a b ≤ 268435457) ∧ (0 ≤ wMulq (-a) b + wMulq a b ∧ wMulq (-a) b + wMulq a b ≤ 1) ∧ (0 ≤ wMulq a (-b) + wMulq a b ∧ wMulq a (-b) + wMulq a b ≤ 1) ∧ wMulq (-a) (-b) = wMulq a b := by
  have p := abs_mul a1 a2 b1 b2
  have e1 : -a * b = -(a * b) := by grind
  have e2 : a * -b = -(a * b) := by grind
  have e3 : -a * -b = a * b := by grind
  unfold wMulq wCut
  rw [e1, e2, e3]
  omega
/-- A product the other way round is that of both, changed round, but for what is rounded. -/
theorem turns_true {p0 p1 p2 p3 q0 q1 q2 q3 : Int} (a0 : -536870912 ≤ p0 ∧ p0 ≤ 536870912) (a1 : -536870912 ≤ p1 ∧ p1 ≤ 536870912) (a2 : -536870912 ≤ p2 ∧ p2 ≤ 536870912) (a3 : -536870912 ≤ p3 ∧ p3 ≤ 536870912)
    (b0 : -536870912 ≤ q0 ∧ q0 ≤ 536870912) (b1 : -536870912 ≤ q1 ∧ q1 ≤ 536870912) (b2 : -536870912 ≤ q2 ∧ q2 ≤ 536870912) (b3 : -536870912 ≤ q3 ∧ q3 ≤ 536870912) :
    wQ0 p0 p1 p2 p3 q0 q1 q2 q3 - wQ0 q0 (-q1) (-q2) (-q3) p0 (-p1) (-p2) (-p3) = 0
    ∧ (-4 ≤ -wQ1 p0 p1 p2 p3 q0 q1 q2 q3 - wQ1 q0 (-q1) (-q2) (-q3) p0 (-p1) (-p2) (-p3) ∧ -wQ1 p0 p1 p2 p3 q0 q1 q2 q3 - wQ1 q0 (-q1) (-q2) (-q3) p0 (-p1) (-p2) (-p3) ≤ 4)
    ∧ (-4 ≤ -wQ2 p0 p1 p2 p3 q0 q1 q2 q3 - wQ2 q0 (-q1) (-q2) (-q3) p0 (-p1) (-p2) (-p3) ∧ -wQ2 p0 p1 p2 p3 q0 q1 q2 q3 - wQ2 q0 (-q1) (-q2) (-q3) p0 (-p1) (-p2) (-p3) ≤ 4)
    ∧ (-4 ≤ -wQ3 p0 p1 p2 p3 q0 q1 q2 q3 - wQ3 q0 (-q1) (-q2) (-q3) p0 (-p1) (-p2) (-p3) ∧ -wQ3 p0 p1 p2 p3 q0 q1 q2 q3 - wQ3 q0 (-q1) (-q2) (-q3) p0 (-p1) (-p2) (-p3) ≤ 4) := by
  have s := fun {a b : Int} (x : -536870912 ≤ a ∧ a ≤ 536870912) (y : -536870912 ≤ b ∧ b ≤ 536870912) => mulq_small x.1 x.2 y.1 y.2
  unfold wQ0 wQ1 wQ2 wQ3
  rw [mulq_comm q0 p0, mulq_comm (-q1) (-p1), mulq_comm (-q2) (-p2), mulq_comm (-q3) (-p3), mulq_comm q0 (-p1), mulq_comm (-q1) p0, mulq_comm (-q2) (-p3), mulq_comm (-q3) (-p2), mulq_comm q0 (-p2), mulq_comm (-q1) (-p3),
    mulq_comm (-q2) p0, mulq_comm (-q3) (-p1), mulq_comm q0 (-p3), mulq_comm (-q1) (-p2), mulq_comm (-q2) (-p1), mulq_comm (-q3) p0]
  obtain ⟨c00, _, _, _⟩ := s a0 b0
  obtain ⟨c11, _, _, d11⟩ := s a1 b1
  obtain ⟨c22, _, _, d22⟩ := s a2 b2
  obtain ⟨c33, _, _, d33⟩ := s a3 b3
  obtain ⟨c01, _, d01, _⟩ := s a0 b1
  obtain ⟨c10, d10, _, _⟩ := s a1 b0
  obtain ⟨c23, _, _, d23⟩ := s a2 b3
  obtain ⟨c32, _, _, d32⟩ := s a3 b2
  obtain ⟨c02, _, d02, _⟩ := s a0 b2
  obtain ⟨c20, d20, _, _⟩ := s a2 b0
  obtain ⟨c13, _, _, d13⟩ := s a1 b3
  obtain ⟨c31, _, _, d31⟩ := s a3 b1
  obtain ⟨c03, _, d03, _⟩ := s a0 b3
  obtain ⟨c30, d30, _, _⟩ := s a3 b0
  obtain ⟨c12, _, _, d12⟩ := s a1 b2
  obtain ⟨c21, _, _, d21⟩ := s a2 b1
  rw [d11, d22, d33, d23, d32, d13, d31, d12, d21]
  clear s
  refine ⟨by omega, ?_, ?_, ?_⟩
  · rw [cut_in (x := wMulq p0 q1 + wMulq p1 q0) (by omega) (by omega), cut_in (x := wMulq p0 q1 + wMulq p1 q0 + wMulq p2 q3) (by omega) (by omega), cut_in (x := wMulq p0 q1 + wMulq p1 q0 + wMulq p2 q3 - wMulq p3 q2) (by omega) (by omega),
      cut_in (x := wMulq (-p1) q0 + wMulq p0 (-q1)) (by omega) (by omega), cut_in (x := wMulq (-p1) q0 + wMulq p0 (-q1) + wMulq p3 q2) (by omega) (by omega), cut_in (by omega) (by omega)]
    omega
  · rw [cut_in (x := wMulq p0 q2 - wMulq p1 q3) (by omega) (by omega), cut_in (x := wMulq p0 q2 - wMulq p1 q3 + wMulq p2 q0) (by omega) (by omega), cut_in (x := wMulq p0 q2 - wMulq p1 q3 + wMulq p2 q0 + wMulq p3 q1) (by omega) (by omega),
      cut_in (x := wMulq (-p2) q0 - wMulq p3 q1) (by omega) (by omega), cut_in (x := wMulq (-p2) q0 - wMulq p3 q1 + wMulq p0 (-q2)) (by omega) (by omega), cut_in (by omega) (by omega)]
    omega
  · rw [cut_in (x := wMulq p0 q3 + wMulq p1 q2) (by omega) (by omega), cut_in (x := wMulq p0 q3 + wMulq p1 q2 - wMulq p2 q1) (by omega) (by omega), cut_in (x := wMulq p0 q3 + wMulq p1 q2 - wMulq p2 q1 + wMulq p3 q0) (by omega) (by omega),
      cut_in (x := wMulq (-p3) q0 + wMulq p2 q1) (by omega) (by omega), cut_in (x := wMulq (-p3) q0 + wMulq p2 q1 - wMulq p1 q2) (by omega) (by omega), cut_in (by omega) (by omega)]
    omega
theorem nrm_conj (p0 p1 p2 p3 : Int) : wNrm p0 (-p1) (-p2) (-p3) = wNrm p0 p1 p2 p3 := by
  have e : ∀ a : Int, wMulq (-a) (-a) = wMulq a a := fun a => by
    have : -a * -a = a * a := by grind
    unfold wMulq; rw [this]
  unfold wNrm
  rw [e, e, e]
theorem cut_neg {a : Int} (h1 : -2147483647 ≤ a) (h2 : a ≤ 2147483647) : wCut (-a) = -a := by unfold wCut; omega
end Go.Proofs.Ytdphiobmjdiefaa
