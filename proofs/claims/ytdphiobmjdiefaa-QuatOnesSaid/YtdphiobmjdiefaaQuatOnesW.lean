/- The walk of the law QuatOnes: it returns true and writes nothing that was there. -/
import Derived.Test.YtdphiobmjdiefaaQuatK
namespace Go.Proofs.Ytdphiobmjdiefaa.quatOnes
open Go.RowKit Go.ChangeShapes Go.OpenShut

set_option maxHeartbeats 4000000 in
theorem walk (q0 q1 q2 q3 v0 v1 v2 : Int) (fq0 : (Lit.int .i32 q0).wf = true) (fq1 : (Lit.int .i32 q1).wf = true) (fq2 : (Lit.int .i32 q2).wf = true) (fq3 : (Lit.int .i32 q3).wf = true) (fv0 : (Lit.int .i32 v0).wf = true) (fv1 : (Lit.int .i32 v1).wf = true) (fv2 : (Lit.int .i32 v2).wf = true) (w : World) :
    Calls Try.prog 4 #[.agg #[.int .i32 q0, .int .i32 q1, .int .i32 q2, .int .i32 q3], .agg #[.int .i32 v0, .int .i32 v1, .int .i32 v2]] w fun e w' => e = .returned (.bool true) ∧ Below w.heap.size w w' := by
  have bq0 := bounds_i32 fq0
  have bq1 := bounds_i32 fq1
  have bq2 := bounds_i32 fq2
  have bq3 := bounds_i32 fq3
  have bv0 := bounds_i32 fv0
  have bv1 := bounds_i32 fv1
  have bv2 := bounds_i32 fv2
  have hq : Wd4 q0 q1 q2 q3 := ⟨bq0, bq1, bq2, bq3⟩
  have h1 : Wd4 1073741824 0 0 0 := wd4_of (by decide)
  have OL := Lib.hid (ones_left bq0 bq1 bq2 bq3)
  have OR := Lib.hid (ones_right bq0 bq1 bq2 bq3)
  have OT := Lib.hid (ones_rate bv0 bv1 bv2)
  clear fq0 fq1 fq2 fq3 fv0 fv1 fv2 bq0 bq1 bq2 bq3
  obtain ⟨W, hW⟩ : ∃ W, ((w.alloc (.cells #[.int .i32 q0, .int .i32 q1, .int .i32 q2, .int .i32 q3] 23)).alloc (.cells #[.int .i32 v0, .int .i32 v1, .int .i32 v2] 28)).alloc (.cells #[.int .i32 1073741824, .int .i32 0, .int .i32 0, .int .i32 0] 23) = W := ⟨_, rfl⟩
  have hbW : Below w.heap.size w W := by rw [← hW]; exact below3 (Below.refl _ _) (Nat.le_refl _) _ _ _
  have z2 : w.heap.size + 1 + 1 < W.heap.size := by rw [← hW]; simp
  have z1 : w.heap.size + 1 < W.heap.size := by omega
  have z0 : w.heap.size < W.heap.size := by omega
  have c00 : W.cell? ⟨w.heap.size, 0, none⟩ = some (.int .i32 q0) := by subst hW; go_cell
  have c01 : W.cell? ⟨w.heap.size, 1, none⟩ = some (.int .i32 q1) := by subst hW; go_cell
  have c02 : W.cell? ⟨w.heap.size, 2, none⟩ = some (.int .i32 q2) := by subst hW; go_cell
  have c03 : W.cell? ⟨w.heap.size, 3, none⟩ = some (.int .i32 q3) := by subst hW; go_cell
  have c10 : W.cell? ⟨w.heap.size + 1, 0, none⟩ = some (.int .i32 v0) := by subst hW; go_cell
  have c11 : W.cell? ⟨w.heap.size + 1, 1, none⟩ = some (.int .i32 v1) := by subst hW; go_cell
  have c12 : W.cell? ⟨w.heap.size + 1, 2, none⟩ = some (.int .i32 v2) := by subst hW; go_cell
  have c20 : W.cell? ⟨w.heap.size + 1 + 1, 0, none⟩ = some (.int .i32 1073741824) := by subst hW; go_cell
  have c21 : W.cell? ⟨w.heap.size + 1 + 1, 1, none⟩ = some (.int .i32 0) := by subst hW; go_cell
  have c22 : W.cell? ⟨w.heap.size + 1 + 1, 2, none⟩ = some (.int .i32 0) := by subst hW; go_cell
  have c23 : W.cell? ⟨w.heap.size + 1 + 1, 3, none⟩ = some (.int .i32 0) := by subst hW; go_cell
  have HF := Lib.hid (show ∀ w', Below W.heap.size W w' → (w'.cell? ⟨w.heap.size, 0, none⟩ = some (.int .i32 q0) ∧ w'.cell? ⟨w.heap.size, 1, none⟩ = some (.int .i32 q1) ∧ w'.cell? ⟨w.heap.size, 2, none⟩ = some (.int .i32 q2) ∧ w'.cell? ⟨w.heap.size, 3, none⟩ = some (.int .i32 q3) ∧ w'.cell? ⟨w.heap.size + 1, 0, none⟩ = some (.int .i32 v0) ∧ w'.cell? ⟨w.heap.size + 1, 1, none⟩ = some (.int .i32 v1) ∧ w'.cell? ⟨w.heap.size + 1, 2, none⟩ = some (.int .i32 v2) ∧ w'.cell? ⟨w.heap.size + 1 + 1, 0, none⟩ = some (.int .i32 1073741824) ∧ w'.cell? ⟨w.heap.size + 1 + 1, 1, none⟩ = some (.int .i32 0) ∧ w'.cell? ⟨w.heap.size + 1 + 1, 2, none⟩ = some (.int .i32 0) ∧ w'.cell? ⟨w.heap.size + 1 + 1, 3, none⟩ = some (.int .i32 0)) from fun w' h => ⟨(h.cell (p := ⟨w.heap.size, 0, none⟩) z0).trans c00, (h.cell (p := ⟨w.heap.size, 1, none⟩) z0).trans c01, (h.cell (p := ⟨w.heap.size, 2, none⟩) z0).trans c02, (h.cell (p := ⟨w.heap.size, 3, none⟩) z0).trans c03, (h.cell (p := ⟨w.heap.size + 1, 0, none⟩) z1).trans c10, (h.cell (p := ⟨w.heap.size + 1, 1, none⟩) z1).trans c11, (h.cell (p := ⟨w.heap.size + 1, 2, none⟩) z1).trans c12, (h.cell (p := ⟨w.heap.size + 1 + 1, 0, none⟩) z2).trans c20, (h.cell (p := ⟨w.heap.size + 1 + 1, 1, none⟩) z2).trans c21, (h.cell (p := ⟨w.heap.size + 1 + 1, 2, none⟩) z2).trans c22, (h.cell (p := ⟨w.heap.size + 1 + 1, 3, none⟩) z2).trans c23⟩)
  have HW := Lib.hid hW
  clear hW c00 c01 c02 c03 c10 c11 c12 c20 c21 c22 c23
  have hEq := eq_quat
  go_enter Try.func4, Try.ntmps4
  go_wp2
  rw [HW.out]
  go_region_held3 (fun w' => (w'.cell? ⟨w.heap.size, 0, none⟩ = some (.int .i32 q0) ∧ w'.cell? ⟨w.heap.size, 1, none⟩ = some (.int .i32 q1) ∧ w'.cell? ⟨w.heap.size, 2, none⟩ = some (.int .i32 q2) ∧ w'.cell? ⟨w.heap.size, 3, none⟩ = some (.int .i32 q3) ∧ w'.cell? ⟨w.heap.size + 1, 0, none⟩ = some (.int .i32 v0) ∧ w'.cell? ⟨w.heap.size + 1, 1, none⟩ = some (.int .i32 v1) ∧ w'.cell? ⟨w.heap.size + 1, 2, none⟩ = some (.int .i32 v2) ∧ w'.cell? ⟨w.heap.size + 1 + 1, 0, none⟩ = some (.int .i32 1073741824) ∧ w'.cell? ⟨w.heap.size + 1 + 1, 1, none⟩ = some (.int .i32 0) ∧ w'.cell? ⟨w.heap.size + 1 + 1, 2, none⟩ = some (.int .i32 0) ∧ w'.cell? ⟨w.heap.size + 1 + 1, 3, none⟩ = some (.int .i32 0)) ∧ Below W.heap.size W w' ∧ W.heap.size ≤ w'.heap.size)
    (first | with_reducible assumption | exact ⟨HF.out _ (Below.refl _ _).drew, (Below.refl _ _).drew, by simp⟩)
    (first
      | (go_at_call 10; with_reducible refine (keepF HF.out (mul_v 1073741824 0 0 0 q0 q1 q2 q3 q0 q1 q2 q3 _ h1 hq OL.out.1 OL.out.2.1 OL.out.2.2.1 OL.out.2.2.2) (by assumption)).mono ?_; rintro e w1 ⟨rfl, hS⟩)
      | (go_at_call 10; with_reducible refine (keepF HF.out (mul_v q0 q1 q2 q3 1073741824 0 0 0 q0 q1 q2 q3 _ hq h1 OR.out.1 OR.out.2.1 OR.out.2.2.1 OR.out.2.2.2) (by assumption)).mono ?_; rintro e w1 ⟨rfl, hS⟩)
      | (go_at_call 11; with_reducible refine (keepF HF.out (rate_v 1073741824 0 0 0 v0 v1 v2 0 v0 v1 v2 _ h1 bv0 bv1 bv2 OT.out.1 OT.out.2.1 OT.out.2.2.1 OT.out.2.2.2) (by assumption)).mono ?_; rintro e w1 ⟨rfl, hS⟩)
      | (go_at_call 12; with_reducible refine (keepF HF.out (conj_v 1073741824 0 0 0 0 0 0 _ h1 cut_0 cut_0 cut_0) (by assumption)).mono ?_; rintro e w1 ⟨rfl, hS⟩)
      | (go_at_call 7; with_reducible refine (keepF HF.out (quatAwake_is _) (by assumption)).mono ?_; rintro e w1 ⟨rfl, hS⟩))
  go_wp2
  go_ret
  exact ⟨rfl, hbW.trans (hS.2.1.mono (Nat.le_of_lt z0))⟩
end Go.Proofs.Ytdphiobmjdiefaa.quatOnes
