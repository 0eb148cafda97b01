/- Package quat within a law's walk, and the page's examples. Conditions: the numbers are of the kind int32. -/
import Derived.Test.YtdphiobmjdiefaaQuatA
import Derived.Test.YtdphiobmjdiefaaArrL
namespace Go.Proofs.Ytdphiobmjdiefaa
open Go.RowKit

/-- A quaternion as an argument. -/
abbrev qv (a b c d : Int) : Value := .agg #[.int .i32 a, .int .i32 b, .int .i32 c, .int .i32 d]
theorem cut_0 : wCut (-0) = 0 := by decide +kernel
def decW (a b c d : Int) : Bool := decide (-2147483648 ≤ a ∧ a ≤ 2147483647) && decide (-2147483648 ≤ b ∧ b ≤ 2147483647) && decide (-2147483648 ≤ c ∧ c ≤ 2147483647) && decide (-2147483648 ≤ d ∧ d ≤ 2147483647)
theorem wd4_of {a b c d : Int} (h : decW a b c d = true) : Wd4 a b c d := by
  unfold decW at h
  simp only [Bool.and_eq_true, decide_eq_true_eq] at h
  exact ⟨h.1.1.1, h.1.1.2, h.1.2, h.2⟩
theorem mul_ij : wQ0 0 1073741824 0 0 0 0 1073741824 0 = 0 ∧ wQ1 0 1073741824 0 0 0 0 1073741824 0 = 0 ∧ wQ2 0 1073741824 0 0 0 0 1073741824 0 = 0 ∧ wQ3 0 1073741824 0 0 0 0 1073741824 0 = 1073741824 := by decide +kernel
theorem mul_jk : wQ0 0 0 1073741824 0 0 0 0 1073741824 = 0 ∧ wQ1 0 0 1073741824 0 0 0 0 1073741824 = 1073741824 ∧ wQ2 0 0 1073741824 0 0 0 0 1073741824 = 0 ∧ wQ3 0 0 1073741824 0 0 0 0 1073741824 = 0 := by decide +kernel
theorem mul_ki : wQ0 0 0 0 1073741824 0 1073741824 0 0 = 0 ∧ wQ1 0 0 0 1073741824 0 1073741824 0 0 = 0 ∧ wQ2 0 0 0 1073741824 0 1073741824 0 0 = 1073741824 ∧ wQ3 0 0 0 1073741824 0 1073741824 0 0 = 0 := by decide +kernel
theorem mul_ji : wQ0 0 0 1073741824 0 0 1073741824 0 0 = 0 ∧ wQ1 0 0 1073741824 0 0 1073741824 0 0 = 0 ∧ wQ2 0 0 1073741824 0 0 1073741824 0 0 = 0 ∧ wQ3 0 0 1073741824 0 0 1073741824 0 0 = (-1073741824) := by decide +kernel
theorem mul_ii : wQ0 0 1073741824 0 0 0 1073741824 0 0 = (-1073741824) ∧ wQ1 0 1073741824 0 0 0 1073741824 0 0 = 0 ∧ wQ2 0 1073741824 0 0 0 1073741824 0 0 = 0 ∧ wQ3 0 1073741824 0 0 0 1073741824 0 0 = 0 := by decide +kernel
theorem conj_k : wCut (-0) = 0 ∧ wCut (-1073741824) = (-1073741824) := by decide +kernel
theorem norm_k : wNrm 0 0 0 1073741824 = 1073741824 := by decide +kernel
theorem wd_i : Wd4 0 1073741824 0 0 := wd4_of (by decide)
theorem wd_j : Wd4 0 0 1073741824 0 := wd4_of (by decide)
theorem wd_k : Wd4 0 0 0 1073741824 := wd4_of (by decide)

/-- Two quaternions, compared. -/
theorem eq_quat (a b c d a' b' c' d' : Int) (w : World) : Sem.run Try.prog (Op.equalIn 10000 23 (.agg #[.int .i32 a, .int .i32 b, .int .i32 c, .int .i32 d]) (.agg #[.int .i32 a', .int .i32 b', .int .i32 c', .int .i32 d'])) w = .ok (a == a' && (b == b' && (c == c' && d == d'))) w := by
  obtain ⟨i0, hi, _, _, _⟩ := info_parts infoI32q
  exact eq_arr4 w 9998 Try.underlying23 hi Try.underlying21 (by kernel_rfl) a b c d a' b' c' d'

set_option maxHeartbeats 4000000 in
theorem quatAwake_is (w : World) :
    Calls Try.prog 7 #[] w fun e w' => e = .returned (.bool true) ∧ Below w.heap.size w w' := by
  obtain ⟨u, hu⟩ : ∃ u, wU 0 1073741824 0 0 1073741824 = u := ⟨_, rfl⟩
  have hub : -1342177280 ≤ u ∧ u ≤ 1342177280 := by rw [← hu]; decide +kernel
  have hn1 : -68719476736 < 0 * 0 + u * u + 0 * 0 + 0 * 0 - 1152921504606846976 := by rw [← hu]; decide +kernel
  have hn2 : 0 * 0 + u * u + 0 * 0 + 0 * 0 - 1152921504606846976 < 68719476736 := by rw [← hu]; decide +kernel
  have h0 : wU 0 1073741824 0 0 0 = 0 := by decide +kernel
  have HU := Lib.hid hu
  have HN1 := Lib.hid hn1
  have HN2 := Lib.hid hn2
  have H0 := Lib.hid h0
  clear hu hn1 hn2 h0
  have hpt : ∀ k, -1342177280 ≤ pt 0 u 0 0 k ∧ pt 0 u 0 0 k ≤ 1342177280 := by
    intro k
    unfold pt
    split
    · decide
    · split
      · exact hub
      · split <;> decide
  have HP := Lib.hid hpt
  clear hpt
  have hEq := eq_quat
  go_enter Try.func7, Try.ntmps7
  go_wp2
  obtain ⟨W, hW⟩ : ∃ W, ((w.alloc (.cells #[.int .i32 0, .int .i32 1073741824, .int .i32 0, .int .i32 0] 23)).alloc (.cells #[.int .i32 0, .int .i32 0, .int .i32 1073741824, .int .i32 0] 23)).alloc (.cells #[.int .i32 0, .int .i32 0, .int .i32 0, .int .i32 1073741824] 23) = W := ⟨_, rfl⟩
  rw [hW]
  have hbW : Below w.heap.size w W := by rw [← hW]; exact below3 (Below.refl w.heap.size w) (Nat.le_refl _) _ _ _
  have z2 : w.heap.size + 1 + 1 < W.heap.size := by rw [← hW]; simp
  have z1 : w.heap.size + 1 < W.heap.size := by omega
  have z0 : w.heap.size < W.heap.size := by omega
  have c00 : W.cell? ⟨w.heap.size, 0, none⟩ = some (.int .i32 0) := by subst hW; go_cell
  have c01 : W.cell? ⟨w.heap.size, 1, none⟩ = some (.int .i32 1073741824) := by subst hW; go_cell
  have c02 : W.cell? ⟨w.heap.size, 2, none⟩ = some (.int .i32 0) := by subst hW; go_cell
  have c03 : W.cell? ⟨w.heap.size, 3, none⟩ = some (.int .i32 0) := by subst hW; go_cell
  have c10 : W.cell? ⟨w.heap.size + 1, 0, none⟩ = some (.int .i32 0) := by subst hW; go_cell
  have c11 : W.cell? ⟨w.heap.size + 1, 1, none⟩ = some (.int .i32 0) := by subst hW; go_cell
  have c12 : W.cell? ⟨w.heap.size + 1, 2, none⟩ = some (.int .i32 1073741824) := by subst hW; go_cell
  have c13 : W.cell? ⟨w.heap.size + 1, 3, none⟩ = some (.int .i32 0) := by subst hW; go_cell
  have c20 : W.cell? ⟨w.heap.size + 1 + 1, 0, none⟩ = some (.int .i32 0) := by subst hW; go_cell
  have c21 : W.cell? ⟨w.heap.size + 1 + 1, 1, none⟩ = some (.int .i32 0) := by subst hW; go_cell
  have c22 : W.cell? ⟨w.heap.size + 1 + 1, 2, none⟩ = some (.int .i32 0) := by subst hW; go_cell
  have c23 : W.cell? ⟨w.heap.size + 1 + 1, 3, none⟩ = some (.int .i32 1073741824) := by subst hW; go_cell
  have HF := Lib.hid (show ∀ w', Below W.heap.size W w' → (w'.cell? ⟨w.heap.size, 0, none⟩ = some (.int .i32 0) ∧ w'.cell? ⟨w.heap.size, 1, none⟩ = some (.int .i32 1073741824) ∧ w'.cell? ⟨w.heap.size, 2, none⟩ = some (.int .i32 0) ∧ w'.cell? ⟨w.heap.size, 3, none⟩ = some (.int .i32 0) ∧ w'.cell? ⟨w.heap.size + 1, 0, none⟩ = some (.int .i32 0) ∧ w'.cell? ⟨w.heap.size + 1, 1, none⟩ = some (.int .i32 0) ∧ w'.cell? ⟨w.heap.size + 1, 2, none⟩ = some (.int .i32 1073741824) ∧ w'.cell? ⟨w.heap.size + 1, 3, none⟩ = some (.int .i32 0) ∧ w'.cell? ⟨w.heap.size + 1 + 1, 0, none⟩ = some (.int .i32 0) ∧ w'.cell? ⟨w.heap.size + 1 + 1, 1, none⟩ = some (.int .i32 0) ∧ w'.cell? ⟨w.heap.size + 1 + 1, 2, none⟩ = some (.int .i32 0) ∧ w'.cell? ⟨w.heap.size + 1 + 1, 3, none⟩ = some (.int .i32 1073741824)) from fun w' h => ⟨(h.cell (p := ⟨w.heap.size, 0, none⟩) z0).trans c00, (h.cell (p := ⟨w.heap.size, 1, none⟩) z0).trans c01, (h.cell (p := ⟨w.heap.size, 2, none⟩) z0).trans c02, (h.cell (p := ⟨w.heap.size, 3, none⟩) z0).trans c03, (h.cell (p := ⟨w.heap.size + 1, 0, none⟩) z1).trans c10, (h.cell (p := ⟨w.heap.size + 1, 1, none⟩) z1).trans c11, (h.cell (p := ⟨w.heap.size + 1, 2, none⟩) z1).trans c12, (h.cell (p := ⟨w.heap.size + 1, 3, none⟩) z1).trans c13, (h.cell (p := ⟨w.heap.size + 1 + 1, 0, none⟩) z2).trans c20, (h.cell (p := ⟨w.heap.size + 1 + 1, 1, none⟩) z2).trans c21, (h.cell (p := ⟨w.heap.size + 1 + 1, 2, none⟩) z2).trans c22, (h.cell (p := ⟨w.heap.size + 1 + 1, 3, none⟩) z2).trans c23⟩)
  clear hW c00 c01 c02 c03 c10 c11 c12 c13 c20 c21 c22 c23
  go_region_held3 (fun w' => (w'.cell? ⟨w.heap.size, 0, none⟩ = some (.int .i32 0) ∧ w'.cell? ⟨w.heap.size, 1, none⟩ = some (.int .i32 1073741824) ∧ w'.cell? ⟨w.heap.size, 2, none⟩ = some (.int .i32 0) ∧ w'.cell? ⟨w.heap.size, 3, none⟩ = some (.int .i32 0) ∧ w'.cell? ⟨w.heap.size + 1, 0, none⟩ = some (.int .i32 0) ∧ w'.cell? ⟨w.heap.size + 1, 1, none⟩ = some (.int .i32 0) ∧ w'.cell? ⟨w.heap.size + 1, 2, none⟩ = some (.int .i32 1073741824) ∧ w'.cell? ⟨w.heap.size + 1, 3, none⟩ = some (.int .i32 0) ∧ w'.cell? ⟨w.heap.size + 1 + 1, 0, none⟩ = some (.int .i32 0) ∧ w'.cell? ⟨w.heap.size + 1 + 1, 1, none⟩ = some (.int .i32 0) ∧ w'.cell? ⟨w.heap.size + 1 + 1, 2, none⟩ = some (.int .i32 0) ∧ w'.cell? ⟨w.heap.size + 1 + 1, 3, none⟩ = some (.int .i32 1073741824)) ∧ Below W.heap.size W w' ∧ W.heap.size ≤ w'.heap.size)
    (first | with_reducible assumption | exact ⟨HF.out _ (Below.refl _ _).drew, (Below.refl _ _).drew, by simp⟩)
    (first
      | (go_at_call 10; with_reducible refine (keepF HF.out (mul_v 0 1073741824 0 0 0 0 1073741824 0 0 0 0 1073741824 _ wd_i wd_j mul_ij.1 mul_ij.2.1 mul_ij.2.2.1 mul_ij.2.2.2) (by assumption)).mono ?_; rintro e w1 ⟨rfl, hS⟩)
      | (go_at_call 10; with_reducible refine (keepF HF.out (mul_v 0 0 1073741824 0 0 0 0 1073741824 0 1073741824 0 0 _ wd_j wd_k mul_jk.1 mul_jk.2.1 mul_jk.2.2.1 mul_jk.2.2.2) (by assumption)).mono ?_; rintro e w1 ⟨rfl, hS⟩)
      | (go_at_call 10; with_reducible refine (keepF HF.out (mul_v 0 0 0 1073741824 0 1073741824 0 0 0 0 1073741824 0 _ wd_k wd_i mul_ki.1 mul_ki.2.1 mul_ki.2.2.1 mul_ki.2.2.2) (by assumption)).mono ?_; rintro e w1 ⟨rfl, hS⟩)
      | (go_at_call 10; with_reducible refine (keepF HF.out (mul_v 0 0 1073741824 0 0 1073741824 0 0 0 0 0 (-1073741824) _ wd_j wd_i mul_ji.1 mul_ji.2.1 mul_ji.2.2.1 mul_ji.2.2.2) (by assumption)).mono ?_; rintro e w1 ⟨rfl, hS⟩)
      | (go_at_call 10; with_reducible refine (keepF HF.out (mul_v 0 1073741824 0 0 0 1073741824 0 0 (-1073741824) 0 0 0 _ wd_i wd_i mul_ii.1 mul_ii.2.1 mul_ii.2.2.1 mul_ii.2.2.2) (by assumption)).mono ?_; rintro e w1 ⟨rfl, hS⟩)
      | (go_at_call 12; with_reducible refine (keepF HF.out (conj_v 0 0 0 1073741824 0 0 (-1073741824) _ wd_k conj_k.1 conj_k.1 conj_k.2) (by assumption)).mono ?_; rintro e w1 ⟨rfl, hS⟩)
      | (go_at_call 6; with_reducible refine (keepF HF.out (norm_v 0 0 0 1073741824 1073741824 _ wd_k norm_k) (by assumption)).mono ?_; rintro e w1 ⟨rfl, hS⟩)
      | (go_at_call 8; with_reducible refine (keepF HF.out (unit_v 0 1073741824 0 0 0 u 0 0 _ wd_i H0.out HU.out H0.out H0.out) (by assumption)).mono ?_; rintro e w1 ⟨rfl, hS⟩)
      | (go_at_call 9; with_reducible refine (keepF HF.out (refIs_true 0 u 0 0 _ HP.out HN1.out HN2.out) (by assumption)).mono ?_; rintro e w1 ⟨rfl, hS⟩))
  all_goals go_wp2
  all_goals go_ret
  all_goals exact ⟨rfl, hbW.trans (hS.2.1.mono (Nat.le_of_lt z0))⟩
end Go.Proofs.Ytdphiobmjdiefaa
