/- What the document's own plain answers for products of fixed point (package astrolaberef05) give. Conditions: the numbers are of the parameters' kinds. -/
import Derived.Test.YtdphiobmjdiefaaRefs
import Derived.Test.YtdphiobmjdiefaaNum
import Derived.Handy
import Derived.Lib.Hide
namespace Go.Proofs.Ytdphiobmjdiefaa
open Go.RowKit

theorem rest_q (x : Int) (m : Int) (h : 0 < m) : (x - x % m).tdiv m = x / m := by
  have e := Int.emod_add_mul_ediv x m
  have e2 : x - x % m = m * (x / m) := by omega
  rw [e2, Int.mul_tdiv_cancel_left _ (by omega)]
theorem floor_bd {x : Int} {k : Nat} (hk : k ≤ 63) (h : -9223372036854775808 ≤ x) : -9223372036854775808 ≤ x - x % pw k := by
  have p0 := pw_pos k
  have e : pw (63 - k) * pw k = 9223372036854775808 := by
    unfold pw
    rw [← Int.pow_add, Nat.sub_add_cancel hk]; decide
  have e1 := Int.emod_add_mul_ediv x (pw k)
  have g : -(pw (63 - k)) ≤ x / pw k := Int.le_ediv_of_mul_le p0 (by rw [Int.neg_mul, e]; exact h)
  have g2 := Int.mul_le_mul_of_nonneg_right g (Int.le_of_lt p0)
  rw [Int.neg_mul, e, Int.mul_comm (x / pw k)] at g2
  omega
end Go.Proofs.Ytdphiobmjdiefaa
