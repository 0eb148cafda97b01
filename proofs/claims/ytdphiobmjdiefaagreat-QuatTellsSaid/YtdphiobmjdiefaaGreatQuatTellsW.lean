/- The walk of the law QuatTells: it returns true and writes nothing that was there. -/
import Derived.Test.YtdphiobmjdiefaaGreatQuatK
namespace Go.Proofs.YtdphiobmjdiefaaGreat.quatTells
open Go.RowKit Go.ChangeShapes Go.OpenShut

set_option maxHeartbeats 4000000 in
theorem walk (p0 p1 p2 p3 q0 q1 q2 q3 v0 v1 v2 : Int) (fp0 : (Lit.int .i32 p0).wf = true) (fp1 : (Lit.int .i32 p1).wf = true) (fp2 : (Lit.int .i32 p2).wf = true) (fp3 : (Lit.int .i32 p3).wf = true) (fq0 : (Lit.int .i32 q0).wf = true) (fq1 : (Lit.int .i32 q1).wf = true) (fq2 : (Lit.int .i32 q2).wf = true) (fq3 : (Lit.int .i32 q3).wf = true) (fv0 : (Lit.int .i32 v0).wf = true) (fv1 : (Lit.int .i32 v1).wf = true) (fv2 : (Lit.int .i32 v2).wf = true) (w : World) :
    Calls Tryz.prog 3 #[.agg #[.int .i32 p0, .int .i32 p1, .int .i32 p2, .int .i32 p3], .agg #[.int .i32 q0, .int .i32 q1, .int .i32 q2, .int .i32 q3], .agg #[.int .i32 v0, .int .i32 v1, .int .i32 v2]] w fun e w' => e = .returned (.bool true) ∧ Below w.heap.size w w' := by
  have bp0 := bounds_i32 fp0
  have bp1 := bounds_i32 fp1
  have bp2 := bounds_i32 fp2
  have bp3 := bounds_i32 fp3
  have bq0 := bounds_i32 fq0
  have bq1 := bounds_i32 fq1
  have bq2 := bounds_i32 fq2
  have bq3 := bounds_i32 fq3
  have bv0 := bounds_i32 fv0
  have bv1 := bounds_i32 fv1
  have bv2 := bounds_i32 fv2
  have hp : Wd4 p0 p1 p2 p3 := ⟨bp0, bp1, bp2, bp3⟩
  have hq : Wd4 q0 q1 q2 q3 := ⟨bq0, bq1, bq2, bq3⟩
  clear fp0 fp1 fp2 fp3 fq0 fq1 fq2 fq3 fv0 fv1 fv2 bp0 bp1 bp2 bp3 bq0 bq1 bq2 bq3
  obtain ⟨W, hW⟩ : ∃ W, ((w.alloc (.cells #[.int .i32 p0, .int .i32 p1, .int .i32 p2, .int .i32 p3] 23)).alloc (.cells #[.int .i32 q0, .int .i32 q1, .int .i32 q2, .int .i32 q3] 23)).alloc (.cells #[.int .i32 v0, .int .i32 v1, .int .i32 v2] 24) = W := ⟨_, rfl⟩
  have hbW : Below w.heap.size w W := by rw [← hW]; exact below3 (Below.refl _ _) (Nat.le_refl _) _ _ _
  have z2 : w.heap.size + 1 + 1 < W.heap.size := by rw [← hW]; simp
  have z1 : w.heap.size + 1 < W.heap.size := by omega
  have z0 : w.heap.size < W.heap.size := by omega
  have c00 : W.cell? ⟨w.heap.size, 0, none⟩ = some (.int .i32 p0) := by subst hW; go_cell
  have c01 : W.cell? ⟨w.heap.size, 1, none⟩ = some (.int .i32 p1) := by subst hW; go_cell
  have c02 : W.cell? ⟨w.heap.size, 2, none⟩ = some (.int .i32 p2) := by subst hW; go_cell
  have c03 : W.cell? ⟨w.heap.size, 3, none⟩ = some (.int .i32 p3) := by subst hW; go_cell
  have c10 : W.cell? ⟨w.heap.size + 1, 0, none⟩ = some (.int .i32 q0) := by subst hW; go_cell
  have c11 : W.cell? ⟨w.heap.size + 1, 1, none⟩ = some (.int .i32 q1) := by subst hW; go_cell
  have c12 : W.cell? ⟨w.heap.size + 1, 2, none⟩ = some (.int .i32 q2) := by subst hW; go_cell
  have c13 : W.cell? ⟨w.heap.size + 1, 3, none⟩ = some (.int .i32 q3) := by subst hW; go_cell
  have c20 : W.cell? ⟨w.heap.size + 1 + 1, 0, none⟩ = some (.int .i32 v0) := by subst hW; go_cell
  have c21 : W.cell? ⟨w.heap.size + 1 + 1, 1, none⟩ = some (.int .i32 v1) := by subst hW; go_cell
  have c22 : W.cell? ⟨w.heap.size + 1 + 1, 2, none⟩ = some (.int .i32 v2) := by subst hW; go_cell
  have HF := Lib.hid (show ∀ w', Below W.heap.size W w' → (w'.cell? ⟨w.heap.size, 0, none⟩ = some (.int .i32 p0) ∧ w'.cell? ⟨w.heap.size, 1, none⟩ = some (.int .i32 p1) ∧ w'.cell? ⟨w.heap.size, 2, none⟩ = some (.int .i32 p2) ∧ w'.cell? ⟨w.heap.size, 3, none⟩ = some (.int .i32 p3) ∧ w'.cell? ⟨w.heap.size + 1, 0, none⟩ = some (.int .i32 q0) ∧ w'.cell? ⟨w.heap.size + 1, 1, none⟩ = some (.int .i32 q1) ∧ w'.cell? ⟨w.heap.size + 1, 2, none⟩ = some (.int .i32 q2) ∧ w'.cell? ⟨w.heap.size + 1, 3, none⟩ = some (.int .i32 q3) ∧ w'.cell? ⟨w.heap.size + 1 + 1, 0, none⟩ = some (.int .i32 v0) ∧ w'.cell? ⟨w.heap.size + 1 + 1, 1, none⟩ = some (.int .i32 v1) ∧ w'.cell? ⟨w.heap.size + 1 + 1, 2, none⟩ = some (.int .i32 v2)) from fun w' h => ⟨(h.cell (p := ⟨w.heap.size, 0, none⟩) z0).trans c00, (h.cell (p := ⟨w.heap.size, 1, none⟩) z0).trans c01, (h.cell (p := ⟨w.heap.size, 2, none⟩) z0).trans c02, (h.cell (p := ⟨w.heap.size, 3, none⟩) z0).trans c03, (h.cell (p := ⟨w.heap.size + 1, 0, none⟩) z1).trans c10, (h.cell (p := ⟨w.heap.size + 1, 1, none⟩) z1).trans c11, (h.cell (p := ⟨w.heap.size + 1, 2, none⟩) z1).trans c12, (h.cell (p := ⟨w.heap.size + 1, 3, none⟩) z1).trans c13, (h.cell (p := ⟨w.heap.size + 1 + 1, 0, none⟩) z2).trans c20, (h.cell (p := ⟨w.heap.size + 1 + 1, 1, none⟩) z2).trans c21, (h.cell (p := ⟨w.heap.size + 1 + 1, 2, none⟩) z2).trans c22⟩)
  have HW := Lib.hid hW
  clear hW c00 c01 c02 c03 c10 c11 c12 c13 c20 c21 c22
  have hEq := eq_quat
  go_enter Tryz.func3, Tryz.ntmps3
  go_wp2
  rw [HW.out]
  go_region_held3 (fun w' => (w'.cell? ⟨w.heap.size, 0, none⟩ = some (.int .i32 p0) ∧ w'.cell? ⟨w.heap.size, 1, none⟩ = some (.int .i32 p1) ∧ w'.cell? ⟨w.heap.size, 2, none⟩ = some (.int .i32 p2) ∧ w'.cell? ⟨w.heap.size, 3, none⟩ = some (.int .i32 p3) ∧ w'.cell? ⟨w.heap.size + 1, 0, none⟩ = some (.int .i32 q0) ∧ w'.cell? ⟨w.heap.size + 1, 1, none⟩ = some (.int .i32 q1) ∧ w'.cell? ⟨w.heap.size + 1, 2, none⟩ = some (.int .i32 q2) ∧ w'.cell? ⟨w.heap.size + 1, 3, none⟩ = some (.int .i32 q3) ∧ w'.cell? ⟨w.heap.size + 1 + 1, 0, none⟩ = some (.int .i32 v0) ∧ w'.cell? ⟨w.heap.size + 1 + 1, 1, none⟩ = some (.int .i32 v1) ∧ w'.cell? ⟨w.heap.size + 1 + 1, 2, none⟩ = some (.int .i32 v2)) ∧ Below W.heap.size W w' ∧ W.heap.size ≤ w'.heap.size)
    (first | with_reducible assumption | exact ⟨HF.out _ (Below.refl _ _).drew, (Below.refl _ _).drew, by simp⟩)
    (first
      | (go_at_call 4; with_reducible refine (keepF HF.out (mul_v p0 p1 p2 p3 q0 q1 q2 q3 _ _ _ _ _ hp hq rfl rfl rfl rfl) (by assumption)).mono ?_; rintro e w1 ⟨rfl, hS⟩)
      | (go_at_call 5; with_reducible refine (keepF HF.out (refMul_is p0 p1 p2 p3 q0 q1 q2 q3 _ hp hq) (by assumption)).mono ?_; rintro e w1 ⟨rfl, hS⟩)
      | (go_at_call 6; with_reducible refine (keepF HF.out (conj_v p0 p1 p2 p3 _ _ _ _ hp rfl rfl rfl) (by assumption)).mono ?_; rintro e w1 ⟨rfl, hS⟩)
      | (go_at_call 7; with_reducible refine (keepF HF.out (refConj_is p0 p1 p2 p3 _ hp) (by assumption)).mono ?_; rintro e w1 ⟨rfl, hS⟩)
      | (go_at_call 8; with_reducible refine (keepF HF.out (norm_v p0 p1 p2 p3 _ _ hp rfl) (by assumption)).mono ?_; rintro e w1 ⟨rfl, hS⟩)
      | (go_at_call 9; with_reducible refine (keepF HF.out (refNorm_is p0 p1 p2 p3 _ hp) (by assumption)).mono ?_; rintro e w1 ⟨rfl, hS⟩))
  go_wp2
  go_region_held3 (fun w' => (w'.cell? ⟨w.heap.size, 0, none⟩ = some (.int .i32 p0) ∧ w'.cell? ⟨w.heap.size, 1, none⟩ = some (.int .i32 p1) ∧ w'.cell? ⟨w.heap.size, 2, none⟩ = some (.int .i32 p2) ∧ w'.cell? ⟨w.heap.size, 3, none⟩ = some (.int .i32 p3) ∧ w'.cell? ⟨w.heap.size + 1, 0, none⟩ = some (.int .i32 q0) ∧ w'.cell? ⟨w.heap.size + 1, 1, none⟩ = some (.int .i32 q1) ∧ w'.cell? ⟨w.heap.size + 1, 2, none⟩ = some (.int .i32 q2) ∧ w'.cell? ⟨w.heap.size + 1, 3, none⟩ = some (.int .i32 q3) ∧ w'.cell? ⟨w.heap.size + 1 + 1, 0, none⟩ = some (.int .i32 v0) ∧ w'.cell? ⟨w.heap.size + 1 + 1, 1, none⟩ = some (.int .i32 v1) ∧ w'.cell? ⟨w.heap.size + 1 + 1, 2, none⟩ = some (.int .i32 v2)) ∧ Below W.heap.size W w' ∧ W.heap.size ≤ w'.heap.size)
    (first | with_reducible assumption | exact ⟨HF.out _ hS.2.1.drew, hS.2.1.drew, hS.2.2⟩)
    (first
      | (go_at_call 10; with_reducible refine (keepF HF.out (unit_v p0 p1 p2 p3 _ _ _ _ _ hp rfl rfl rfl rfl) (by assumption)).mono ?_; rintro e w1 ⟨rfl, hS⟩)
      | (go_at_call 11; with_reducible refine (keepF HF.out (refUnit_is p0 p1 p2 p3 _ hp) (by assumption)).mono ?_; rintro e w1 ⟨rfl, hS⟩)
      | (go_at_call 12; with_reducible refine (keepF HF.out (rate_v q0 q1 q2 q3 v0 v1 v2 _ _ _ _ _ hq bv0 bv1 bv2 rfl rfl rfl rfl) (by assumption)).mono ?_; rintro e w1 ⟨rfl, hS⟩)
      | (go_at_call 13; with_reducible refine (keepF HF.out (refRate_is q0 q1 q2 q3 v0 v1 v2 _ hq bv0 bv1 bv2) (by assumption)).mono ?_; rintro e w1 ⟨rfl, hS⟩)
      | (go_at_call 14; with_reducible refine (keepF HF.out (quatAwake_is _) (by assumption)).mono ?_; rintro e w1 ⟨rfl, hS⟩))
  go_wp2
  go_ret
  exact ⟨rfl, hbW.trans (hS.2.1.mono (Nat.le_of_lt z0))⟩
end Go.Proofs.YtdphiobmjdiefaaGreat.quatTells
