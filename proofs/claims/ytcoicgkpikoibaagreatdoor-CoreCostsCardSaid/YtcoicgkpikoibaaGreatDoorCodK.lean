/- Package code within a law: instructions compared, the page's example. Condition: the package ops' table of shapes lies as the program's text has it. -/
import Derived.Test.YtcoicgkpikoibaaGreatDoorCodE
namespace Go.Proofs.YtcoicgkpikoibaaGreatDoor
open Go.RowKit

theorem eq_ins (a b c d e a' b' c' d' e' : Int) (w : World) : Sem.run Tryz.prog (Op.equalIn 10000 66 (.agg #[.int .i64 a, .int .i64 b, .int .i64 c, .int .i64 d, .int .i64 e]) (.agg #[.int .i64 a', .int .i64 b', .int .i64 c', .int .i64 d', .int .i64 e'])) w =
    .ok (a == a' && (b == b' && (c == c' && (d == d' && e == e')))) w := by
  rw [run_equalIn_struct w 9999 66 _ _ (by kernel_rfl) (by kernel_rfl)]
  have hu := Tryz.underlying66
  simp only [Program.fieldsOf, hu]
  go_simp
  repeat' split
  all_goals simp_all
/-- What is decoded, in a caller's words. -/
theorem codeDecode_to {v o d a b n z : Int} {w : World} (ho : cO v = o) (hd : cG v 0 = d) (ha : cG v 1 = a) (hb : cG v 2 = b) (hn : cG v 3 = n) (hz : cErr v = z) (hL : ShapesLaid w) (v0 : 0 ≤ v) (v1 : v < 4294967296) :
    Calls Tryz.prog 44 #[.int .u32 v] w fun e w' => e = .returned (.tuple #[.agg #[.int .i64 o, .int .i64 d, .int .i64 a, .int .i64 b, .int .i64 n], .int .i64 z]) ∧ Below w.heap.size w w' := by
  subst ho hd ha hb hn hz
  exact (codeDecode_is v w hL v0 v1).mono fun _ _ h => h
theorem awake_facts : cChk 31 1 2 0 (-1) = 0 ∧ cEnc 31 1 2 0 (-1) = 2082668543 ∧ cO 2082668543 = 31 ∧ cG 2082668543 0 = 1 ∧ cG 2082668543 1 = 2 ∧ cG 2082668543 2 = 0 ∧ cG 2082668543 3 = -1 ∧ cErr 2082668543 = 0 ∧ cO 0 = 0 ∧ cG 0 0 = 0 ∧ cG 0 1 = 0 ∧ cG 0 2 = 0 ∧ cG 0 3 = 0 ∧ cErr 0 = 2 := by decide +kernel
end Go.Proofs.YtcoicgkpikoibaaGreatDoor
