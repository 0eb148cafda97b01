/- Package code within a law: instructions compared, the page's example. Condition: the package ops' table of shapes lies as the program's text has it. -/
import Derived.Test.YtheflkhbmbfajaaDoorCodE
namespace Go.Proofs.YtheflkhbmbfajaaDoor
open Go.RowKit

theorem eq_ins (a b c d e a' b' c' d' e' : Int) (w : World) : Sem.run Tryd.prog (Op.equalIn 10000 23 (.agg #[.int .i64 a, .int .i64 b, .int .i64 c, .int .i64 d, .int .i64 e]) (.agg #[.int .i64 a', .int .i64 b', .int .i64 c', .int .i64 d', .int .i64 e'])) w =
    .ok (a == a' && (b == b' && (c == c' && (d == d' && e == e')))) w := by
  rw [run_equalIn_struct w 9999 23 _ _ (by kernel_rfl) (by kernel_rfl)]
  have hu := Tryd.underlying23
  simp only [Program.fieldsOf, hu]
  go_simp
  repeat' split
  all_goals simp_all
theorem awake_facts : cChk 31 1 2 0 (-1) = 0 ∧ cEnc 31 1 2 0 (-1) = 2082668543 ∧ cO 2082668543 = 31 ∧ cG 2082668543 0 = 1 ∧ cG 2082668543 1 = 2 ∧ cG 2082668543 2 = 0 ∧ cG 2082668543 3 = -1 ∧ cErr 2082668543 = 0 ∧ cO 0 = 0 ∧ cG 0 0 = 0 ∧ cG 0 1 = 0 ∧ cG 0 2 = 0 ∧ cG 0 3 = 0 ∧ cErr 0 = 2 := by decide +kernel
end Go.Proofs.YtheflkhbmbfajaaDoor
