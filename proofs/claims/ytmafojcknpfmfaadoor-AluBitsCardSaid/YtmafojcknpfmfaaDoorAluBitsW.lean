/- The walk of the law AluBits: it returns true and writes nothing that was there. Condition: the table of costs lies as the program's text has it. -/
import Derived.Test.YtmafojcknpfmfaaDoorAluK
import Derived.Test.YtmafojcknpfmfaaDoorAluL
namespace Go.Proofs.YtmafojcknpfmfaaDoor.aluBits
open Go.RowKit Go.ChangeShapes Go.OpenShut

theorem in_op {op a b : Int} (h1 : 1 ≤ op) (h2 : op ≤ 21) : wDo op a b = wTwo op a b := wDo_two (wDoes_in (by omega) (by omega) (by omega) (by omega)) (by omega)

set_option maxHeartbeats 1000000 in
theorem walk (a b : Int) (w0 : (Lit.int .i32 a).wf = true) (w1 : (Lit.int .i32 b).wf = true) (w : World) (hL : CostsLaid w) :
    Calls Tryd.prog 3 #[.int .i32 a, .int .i32 b] w fun e w' => e = .returned (.bool true) ∧ Below w.heap.size w w' := by
  obtain ⟨a1, a2⟩ := bounds_i32 w0
  obtain ⟨b1, b2⟩ := bounds_i32 w1
  have hb := Below.refl w.heap.size w
  have hB := Nat.le_refl w.heap.size
  have V1 := Lib.hid (show wDo 1 a b = wrap32 (a + b) from in_op (by omega) (by omega))
  have V2 := Lib.hid (show wDo 2 a b = wrap32 (a - b) from in_op (by omega) (by omega))
  have V5 := Lib.hid (show wDo 5 a b = wAnd a b from in_op (by omega) (by omega))
  have V6 := Lib.hid (show wDo 6 a b = wOr a b from in_op (by omega) (by omega))
  have V7 := Lib.hid (show wDo 7 a b = wXor a b from in_op (by omega) (by omega))
  have V8 := Lib.hid (show wDo 8 a b = wBic a b from in_op (by omega) (by omega))
  have V9 := Lib.hid (show wDo 8 b a = wBic b a from in_op (by omega) (by omega))
  have W1 := Lib.hid (show wDo 7 (wXor a b) b = a from (in_op (by omega) (by omega)).trans (xor_back a1 a2))
  have W2 := Lib.hid (show wDo 6 (wBic a b) (wAnd a b) = a from (in_op (by omega) (by omega)).trans (or_back a1 a2))
  have W3 := Lib.hid (show wDo 1 (wrap32 (a - b)) b = a from (in_op (by omega) (by omega)).trans (add_back a1 a2))
  have F1 := Lib.hid (sum_xor a b)
  have F2 := Lib.hid (sum_or a b)
  have F3 := Lib.hid (sub_bic a b)
  have c1 := Lib.hid (wAnd_bd a b)
  have c3 := Lib.hid (wXor_bd a b)
  have c4 := Lib.hid (wBic_bd a b)
  have c6 := Lib.hid (wrap_bd (a - b))
  generalize wAnd a b = A at *
  generalize wOr a b = O at *
  generalize wXor a b = X at *
  generalize wBic a b = P at *
  generalize wBic b a = R at *
  generalize wrap32 (a + b) = S at *
  generalize wrap32 (a - b) = D at *
  have f1 : (S != wrap32 (X + wrap32 (2 * A))) = false := by rw [F1.out]; simp
  have f2 : (S != wrap32 (O + A)) = false := by rw [F2.out]; simp
  have f3 : (D != wrap32 (P - R)) = false := by rw [F3.out]; simp
  go_enter Tryd.func3, Tryd.ntmps3
  go_wp2_with (first
    | (go_at_call 7; with_reducible refine (keep (of_v 1 a b S _ a1 a2 b1 b2 V1.out) hb hB).mono ?_; rintro e w1 ⟨rfl, hb, hB⟩)
    | (go_at_call 7; with_reducible refine (keep (of_v 2 a b D _ a1 a2 b1 b2 V2.out) hb hB).mono ?_; rintro e w1 ⟨rfl, hb, hB⟩)
    | (go_at_call 7; with_reducible refine (keep (of_v 5 a b A _ a1 a2 b1 b2 V5.out) hb hB).mono ?_; rintro e w1 ⟨rfl, hb, hB⟩)
    | (go_at_call 7; with_reducible refine (keep (of_v 6 a b O _ a1 a2 b1 b2 V6.out) hb hB).mono ?_; rintro e w1 ⟨rfl, hb, hB⟩)
    | (go_at_call 7; with_reducible refine (keep (of_v 7 a b X _ a1 a2 b1 b2 V7.out) hb hB).mono ?_; rintro e w1 ⟨rfl, hb, hB⟩)
    | (go_at_call 7; with_reducible refine (keep (of_v 8 a b P _ a1 a2 b1 b2 V8.out) hb hB).mono ?_; rintro e w1 ⟨rfl, hb, hB⟩)
    | (go_at_call 7; with_reducible refine (keep (of_v 8 b a R _ b1 b2 a1 a2 V9.out) hb hB).mono ?_; rintro e w1 ⟨rfl, hb, hB⟩)
    | (go_at_call 7; with_reducible refine (keep (of_v 7 X b a _ c3.out.1 c3.out.2 b1 b2 W1.out) hb hB).mono ?_; rintro e w1 ⟨rfl, hb, hB⟩)
    | (go_at_call 7; with_reducible refine (keep (of_v 6 P A a _ c4.out.1 c4.out.2 c1.out.1 c1.out.2 W2.out) hb hB).mono ?_; rintro e w1 ⟨rfl, hb, hB⟩)
    | (go_at_call 7; with_reducible refine (keep (of_v 1 D b a _ c6.out.1 c6.out.2 b1 b2 W3.out) hb hB).mono ?_; rintro e w1 ⟨rfl, hb, hB⟩)
    | (go_at_call 8; with_reducible refine (keep (aluAwake_is _ (hL.below hb)) hb hB).mono ?_; rintro e w1 ⟨rfl, hb, hB⟩))
  go_ret
  exact ⟨rfl, hb⟩
end Go.Proofs.YtmafojcknpfmfaaDoor.aluBits
