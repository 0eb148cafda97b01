/- The walk of the law AluParts: it returns true and writes nothing that was there. Condition: the table of costs lies as the program's text has it. -/
import Derived.Test.YtmafojcknpfmfaaDoorAluK
import Derived.Test.YtmafojcknpfmfaaDoorAluL
namespace Go.Proofs.YtmafojcknpfmfaaDoor.aluParts
open Go.RowKit Go.ChangeShapes Go.OpenShut

theorem on_op {op a b : Int} (h1 : 24 ≤ op) (h2 : op ≤ 30) : wDo op a b = wOne op a := wDo_one (wDoes_in (by omega) (by omega) (by omega) (by omega)) (by omega)

set_option maxHeartbeats 1000000 in
theorem walk (a : Int) (w0 : (Lit.int .i32 a).wf = true) (w : World) (hL : CostsLaid w) :
    Calls Tryd.prog 5 #[.int .i32 a] w fun e w' => e = .returned (.bool true) ∧ Below w.heap.size w w' := by
  obtain ⟨a1, a2⟩ := bounds_i32 w0
  have hb := Below.refl w.heap.size w
  have hB := Nat.le_refl w.heap.size
  have V1 := Lib.hid (show wDo 30 a 0 = a / 65536 from (on_op (by omega) (by omega)).trans (high_is16 a1 a2))
  have V2 := Lib.hid (show wDo 29 a 0 = wrap16 a from on_op (by omega) (by omega))
  have V3 := Lib.hid (show wDo 27 a 9 = wMask a from on_op (by omega) (by omega))
  have V4 := Lib.hid (show wDo 26 a 0 = wAbs a from on_op (by omega) (by omega))
  have V5 := Lib.hid (show wDo 25 a 7 = wCut (-a) from on_op (by omega) (by omega))
  have V6 := Lib.hid (show wDo 28 a 1 = a / 2147483648 from (on_op (by omega) (by omega)).trans (sign_31 a1 a2))
  have V7 := Lib.hid (show wDo 24 a 1 = wClz a from on_op (by omega) (by omega))
  have F := Lib.hid (halves a1 a2)
  have c := wClz_bd a
  have m0 : a = 0 → wMask a = 0 := fun h => by unfold wMask; rw [if_pos h]
  have m1 : a ≠ 0 → wMask a = -1 := fun h => by unfold wMask; rw [if_neg h]
  have n0 : a < 0 → wAbs a = wCut (-a) ∧ a < wCut (-a) := fun h => by unfold wAbs wCut; omega
  have n1 : 0 ≤ a → wAbs a = a ∧ wCut (-a) ≤ a := fun h => by unfold wAbs wCut; omega
  generalize wCut (-a) = N at *
  generalize wAbs a = A at *
  generalize wMask a = M at *
  generalize wClz a = C at *
  have h1 : -2147483648 ≤ a / 65536 ∧ a / 65536 ≤ 2147483647 := by omega
  have h3 : -2147483648 ≤ wrap16 a ∧ wrap16 a ≤ 2147483647 := by unfold wrap16; omega
  generalize a / 65536 = H at *
  generalize wrap16 a = K at *
  have f1 : (wrap32 (wrap32 (H * 65536) + bits .and .i32 K 65535) != a) = false := by rw [F.out]; simp
  rcases (show a < 0 ∨ a = 0 ∨ 0 < a by omega) with h | h | h
  · obtain ⟨rfl, n2⟩ := n0 h
    obtain rfl := m1 (by omega)
    have z1 : (a != 0) = true := by simp; omega
    have z2 : (a == 0) = false := by simp; omega
    clear m0 n1 n0 m1
    go_enter Tryd.func5, Tryd.ntmps5
    go_wp2_with (first
      | (go_at_call 7; with_reducible refine (keep (of_v 30 a 0 H _ a1 a2 (by decide) (by decide) V1.out) hb hB).mono ?_; rintro e w1 ⟨rfl, hb, hB⟩)
      | (go_at_call 7; with_reducible refine (keep (of_v 29 a 0 K _ a1 a2 (by decide) (by decide) V2.out) hb hB).mono ?_; rintro e w1 ⟨rfl, hb, hB⟩)
      | (go_at_call 7; with_reducible refine (keep (of_v 27 a 9 _ _ a1 a2 (by decide) (by decide) V3.out) hb hB).mono ?_; rintro e w1 ⟨rfl, hb, hB⟩)
      | (go_at_call 7; with_reducible refine (keep (of_v 26 a 0 _ _ a1 a2 (by decide) (by decide) V4.out) hb hB).mono ?_; rintro e w1 ⟨rfl, hb, hB⟩)
      | (go_at_call 7; with_reducible refine (keep (of_v 25 a 7 _ _ a1 a2 (by decide) (by decide) V5.out) hb hB).mono ?_; rintro e w1 ⟨rfl, hb, hB⟩)
      | (go_at_call 7; with_reducible refine (keep (of_v 28 a 1 _ _ a1 a2 (by decide) (by decide) V6.out) hb hB).mono ?_; rintro e w1 ⟨rfl, hb, hB⟩)
      | (go_at_call 7; with_reducible refine (keep (of_v 24 a 1 _ _ a1 a2 (by decide) (by decide) V7.out) hb hB).mono ?_; rintro e w1 ⟨rfl, hb, hB⟩)
      | (go_at_call 8; with_reducible refine (keep (aluAwake_is _ (hL.below hb)) hb hB).mono ?_; rintro e w1 ⟨rfl, hb, hB⟩))
    go_ret
    exact ⟨rfl, hb⟩
  · obtain ⟨e, n2⟩ := n1 (by omega)
    have e2 := e.symm
    subst e2
    obtain rfl := m0 h
    have z1 : (a != 0) = false := by simp; omega
    have z2 : (a == 0) = true := by simp; omega
    clear m0 n1 n0 m1 h
    go_enter Tryd.func5, Tryd.ntmps5
    go_wp2_with (first
      | (go_at_call 7; with_reducible refine (keep (of_v 30 a 0 H _ a1 a2 (by decide) (by decide) V1.out) hb hB).mono ?_; rintro e w1 ⟨rfl, hb, hB⟩)
      | (go_at_call 7; with_reducible refine (keep (of_v 29 a 0 K _ a1 a2 (by decide) (by decide) V2.out) hb hB).mono ?_; rintro e w1 ⟨rfl, hb, hB⟩)
      | (go_at_call 7; with_reducible refine (keep (of_v 27 a 9 _ _ a1 a2 (by decide) (by decide) V3.out) hb hB).mono ?_; rintro e w1 ⟨rfl, hb, hB⟩)
      | (go_at_call 7; with_reducible refine (keep (of_v 26 a 0 _ _ a1 a2 (by decide) (by decide) V4.out) hb hB).mono ?_; rintro e w1 ⟨rfl, hb, hB⟩)
      | (go_at_call 7; with_reducible refine (keep (of_v 25 a 7 _ _ a1 a2 (by decide) (by decide) V5.out) hb hB).mono ?_; rintro e w1 ⟨rfl, hb, hB⟩)
      | (go_at_call 7; with_reducible refine (keep (of_v 28 a 1 _ _ a1 a2 (by decide) (by decide) V6.out) hb hB).mono ?_; rintro e w1 ⟨rfl, hb, hB⟩)
      | (go_at_call 7; with_reducible refine (keep (of_v 24 a 1 _ _ a1 a2 (by decide) (by decide) V7.out) hb hB).mono ?_; rintro e w1 ⟨rfl, hb, hB⟩)
      | (go_at_call 8; with_reducible refine (keep (aluAwake_is _ (hL.below hb)) hb hB).mono ?_; rintro e w1 ⟨rfl, hb, hB⟩))
    go_ret
    exact ⟨rfl, hb⟩
  · obtain ⟨e, n2⟩ := n1 (by omega)
    have e2 := e.symm
    subst e2
    obtain rfl := m1 (by omega)
    have z1 : (a != 0) = true := by simp; omega
    have z2 : (a == 0) = false := by simp; omega
    clear m0 n1 n0 m1
    go_enter Tryd.func5, Tryd.ntmps5
    go_wp2_with (first
      | (go_at_call 7; with_reducible refine (keep (of_v 30 a 0 H _ a1 a2 (by decide) (by decide) V1.out) hb hB).mono ?_; rintro e w1 ⟨rfl, hb, hB⟩)
      | (go_at_call 7; with_reducible refine (keep (of_v 29 a 0 K _ a1 a2 (by decide) (by decide) V2.out) hb hB).mono ?_; rintro e w1 ⟨rfl, hb, hB⟩)
      | (go_at_call 7; with_reducible refine (keep (of_v 27 a 9 _ _ a1 a2 (by decide) (by decide) V3.out) hb hB).mono ?_; rintro e w1 ⟨rfl, hb, hB⟩)
      | (go_at_call 7; with_reducible refine (keep (of_v 26 a 0 _ _ a1 a2 (by decide) (by decide) V4.out) hb hB).mono ?_; rintro e w1 ⟨rfl, hb, hB⟩)
      | (go_at_call 7; with_reducible refine (keep (of_v 25 a 7 _ _ a1 a2 (by decide) (by decide) V5.out) hb hB).mono ?_; rintro e w1 ⟨rfl, hb, hB⟩)
      | (go_at_call 7; with_reducible refine (keep (of_v 28 a 1 _ _ a1 a2 (by decide) (by decide) V6.out) hb hB).mono ?_; rintro e w1 ⟨rfl, hb, hB⟩)
      | (go_at_call 7; with_reducible refine (keep (of_v 24 a 1 _ _ a1 a2 (by decide) (by decide) V7.out) hb hB).mono ?_; rintro e w1 ⟨rfl, hb, hB⟩)
      | (go_at_call 8; with_reducible refine (keep (aluAwake_is _ (hL.below hb)) hb hB).mono ?_; rintro e w1 ⟨rfl, hb, hB⟩))
    go_ret
    exact ⟨rfl, hb⟩
end Go.Proofs.YtmafojcknpfmfaaDoor.aluParts
