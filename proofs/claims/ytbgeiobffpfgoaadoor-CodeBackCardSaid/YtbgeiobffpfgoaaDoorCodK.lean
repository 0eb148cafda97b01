/- Package code within a law: instructions compared, the page's example. Condition: the package ops' table of shapes lies as the program's text has it. -/
import Derived.Test.YtbgeiobffpfgoaaDoorCodE
namespace Go.Proofs.YtbgeiobffpfgoaaDoor
open Go.RowKit

theorem eq_ins (a b c d e a' b' c' d' e' : Int) (w : World) : Sem.run Tryd.prog (Op.equalIn 10000 23 (.agg #[.int .i64 a, .int .i64 b, .int .i64 c, .int .i64 d, .int .i64 e]) (.agg #[.int .i64 a', .int .i64 b', .int .i64 c', .int .i64 d', .int .i64 e'])) w =
    .ok (a == a' && (b == b' && (c == c' && (d == d' && e == e')))) w := by
  rw [run_equalIn_struct w 9999 23 _ _ (by kernel_rfl) (by kernel_rfl)]
  have hu := Tryd.underlying23
  simp only [Program.fieldsOf, hu]
  go_simp
  repeat' split
  all_goals simp_all
/-- What is decoded, in a caller's words. -/
theorem codeDecode_to {v o d a b n z : Int} {w : World} (ho : cO v = o) (hd : cG v 0 = d) (ha : cG v 1 = a) (hb : cG v 2 = b) (hn : cG v 3 = n) (hz : cErr v = z) (hL : ShapesLaid w) (v0 : 0 ≤ v) (v1 : v < 4294967296) :
    Calls Tryd.prog 8 #[.int .u32 v] w fun e w' => e = .returned (.tuple #[.agg #[.int .i64 o, .int .i64 d, .int .i64 a, .int .i64 b, .int .i64 n], .int .i64 z]) ∧ Below w.heap.size w w' := by
  subst ho hd ha hb hn hz
  exact (codeDecode_is v w hL v0 v1).mono fun _ _ h => h
theorem awake_facts : cChk 31 1 2 0 (-1) = 0 ∧ cEnc 31 1 2 0 (-1) = 2082668543 ∧ cO 2082668543 = 31 ∧ cG 2082668543 0 = 1 ∧ cG 2082668543 1 = 2 ∧ cG 2082668543 2 = 0 ∧ cG 2082668543 3 = -1 ∧ cErr 2082668543 = 0 ∧ cO 0 = 0 ∧ cG 0 0 = 0 ∧ cG 0 1 = 0 ∧ cG 0 2 = 0 ∧ cG 0 3 = 0 ∧ cErr 0 = 2 := by decide +kernel
set_option maxHeartbeats 1000000 in
theorem codeAwake_is (w : World) (hL : ShapesLaid w) :
    Calls Tryd.prog 12 #[] w fun e w' => e = .returned (.bool true) ∧ Below w.heap.size w w' := by
  have hb := Below.refl w.heap.size w
  have hB := Nat.le_refl w.heap.size
  have HL := Lib.hid hL
  have hq := eq_ins
  have F := Lib.hid awake_facts
  clear hL
  go_enter Tryd.func12, Tryd.ntmps12
  go_wp2_with (first
    | (go_at_call 6; ((with_reducible refine (keep (codeEncode_is 31 1 2 0 (-1) 2082668543 0 _ (HL.out.below hb HL.out.lt) F.out.1 F.out.2.1) hb hB).mono ?_); rintro e w1 ⟨rfl, hb, hB⟩))
    | (go_at_call 8; ((with_reducible refine (keep (codeDecode_to (v := 2082668543) (o := 31) (d := 1) (a := 2) (b := 0) (n := -1) (z := 0) F.out.2.2.1 F.out.2.2.2.1 F.out.2.2.2.2.1 F.out.2.2.2.2.2.1 F.out.2.2.2.2.2.2.1 F.out.2.2.2.2.2.2.2.1 (HL.out.below hb HL.out.lt) (by decide) (by decide)) hb hB).mono ?_); rintro e w2 ⟨rfl, hb, hB⟩); have hI := InsW.new w w2 31 1 2 0 (-1) 23 hb hB)
    | (go_at_call 8; ((with_reducible refine (codeDecode_to (v := 0) (o := 0) (d := 0) (a := 0) (b := 0) (n := 0) (z := 2) F.out.2.2.2.2.2.2.2.2.1 F.out.2.2.2.2.2.2.2.2.2.1 F.out.2.2.2.2.2.2.2.2.2.2.1 F.out.2.2.2.2.2.2.2.2.2.2.2.1 F.out.2.2.2.2.2.2.2.2.2.2.2.2.1 F.out.2.2.2.2.2.2.2.2.2.2.2.2.2 (HL.out.below hI.below HL.out.lt) (by decide) (by decide)).mono ?_); rintro e w3 ⟨rfl, hq3⟩); have hI := hI.keep hq3; have c0 := hI.c0; have c1 := hI.c1; have c2 := hI.c2; have c3 := hI.c3; have c4 := hI.c4; have c5 := hI.lt))
  go_ret
  exact ⟨rfl, hI.below.alloc hI.le _⟩
end Go.Proofs.YtbgeiobffpfgoaaDoor
