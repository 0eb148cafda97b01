/- What package quat's functions answer. Conditions: the numbers are of the kind int32. -/
import Derived.Test.YtdphiobmjdiefaaQuatF
import Derived.Test.YtdphiobmjdiefaaQuatG
namespace Go.Proofs.Ytdphiobmjdiefaa
open Go.RowKit

theorem q0_do (p0 p1 p2 p3 q0 q1 q2 q3 : Int) : wDo 4 (wDo 4 (wDo 4 (wMulq p0 q0) (wMulq p1 q1)) (wMulq p2 q2)) (wMulq p3 q3) = wQ0 p0 p1 p2 p3 q0 q1 q2 q3 := by simp only [do_4]; rfl
theorem q1_do (p0 p1 p2 p3 q0 q1 q2 q3 : Int) : wDo 4 (wDo 3 (wDo 3 (wMulq p0 q1) (wMulq p1 q0)) (wMulq p2 q3)) (wMulq p3 q2) = wQ1 p0 p1 p2 p3 q0 q1 q2 q3 := by simp only [do_3, do_4]; rfl
theorem q2_do (p0 p1 p2 p3 q0 q1 q2 q3 : Int) : wDo 3 (wDo 3 (wDo 4 (wMulq p0 q2) (wMulq p1 q3)) (wMulq p2 q0)) (wMulq p3 q1) = wQ2 p0 p1 p2 p3 q0 q1 q2 q3 := by simp only [do_3, do_4]; rfl
theorem q3_do (p0 p1 p2 p3 q0 q1 q2 q3 : Int) : wDo 3 (wDo 4 (wDo 3 (wMulq p0 q3) (wMulq p1 q2)) (wMulq p2 q1)) (wMulq p3 q0) = wQ3 p0 p1 p2 p3 q0 q1 q2 q3 := by simp only [do_3, do_4]; rfl
theorem s0_do (q0 q1 q2 q3 v0 v1 v2 : Int) : wDo 4 (wDo 4 (wDo 4 (0) (wMulq q1 v0)) (wMulq q2 v1)) (wMulq q3 v2) = wR0 q0 q1 q2 q3 v0 v1 v2 := by simp only [do_4]; rfl
theorem s1_do (q0 q1 q2 q3 v0 v1 v2 : Int) : wDo 4 (wDo 3 (wMulq q0 v0) (wMulq q2 v2)) (wMulq q3 v1) = wR1 q0 q1 q2 q3 v0 v1 v2 := by simp only [do_3, do_4]; rfl
theorem s2_do (q0 q1 q2 q3 v0 v1 v2 : Int) : wDo 3 (wDo 4 (wMulq q0 v1) (wMulq q1 v2)) (wMulq q3 v0) = wR2 q0 q1 q2 q3 v0 v1 v2 := by simp only [do_3, do_4]; rfl
theorem s3_do (q0 q1 q2 q3 v0 v1 v2 : Int) : wDo 4 (wDo 3 (wMulq q0 v2) (wMulq q1 v1)) (wMulq q2 v0) = wR3 q0 q1 q2 q3 v0 v1 v2 := by simp only [do_3, do_4]; rfl
theorem neg_do (x : Int) : wDo 25 x 0 = wCut (-x) := do_one (by decide) (by decide)
theorem mUnit_w (p0 p1 p2 p3 r0 r1 r2 r3 : Int) (w : World) (bp0 : -2147483648 ≤ p0) (Bp0 : p0 ≤ 2147483647) (bp1 : -2147483648 ≤ p1) (Bp1 : p1 ≤ 2147483647) (bp2 : -2147483648 ≤ p2) (Bp2 : p2 ≤ 2147483647) (bp3 : -2147483648 ≤ p3) (Bp3 : p3 ≤ 2147483647) (h0 : wU p0 p1 p2 p3 p0 = r0) (h1 : wU p0 p1 p2 p3 p1 = r1) (h2 : wU p0 p1 p2 p3 p2 = r2) (h3 : wU p0 p1 p2 p3 p3 = r3) :
    Calls Try.prog 15 #[.agg #[.iface 45 (.agg #[])], .agg #[.int .i32 p0, .int .i32 p1, .int .i32 p2, .int .i32 p3]] w fun e w' => e = .returned (.agg #[.int .i32 r0, .int .i32 r1, .int .i32 r2, .int .i32 r3]) ∧ Below w.heap.size w w' := by
  subst h0 h1 h2 h3; exact mUnit_v p0 p1 p2 p3 w bp0 Bp0 bp1 Bp1 bp2 Bp2 bp3 Bp3

theorem quats_is (w : World) :
    Calls Try.prog 13 #[] w fun e w' => e = .returned (.agg #[.iface 45 (.agg #[])]) ∧ Below w.heap.size w w' := by
  have hb := fun o => ((Below.refl w.heap.size w).alloc (Nat.le_refl _) o)
  go_enter Try.func13, Try.ntmps13
  go_wp2
  go_returns
  refine ⟨rfl, ?_⟩
  first | exact hb _ | exact (hb _).setCell (Nat.le_refl _) _

set_option maxHeartbeats 2000000 in
theorem mul_v (p0 p1 p2 p3 q0 q1 q2 q3 r0 r1 r2 r3 : Int) (w : World) (hp : Wd4 p0 p1 p2 p3) (hq : Wd4 q0 q1 q2 q3) (h0 : wQ0 p0 p1 p2 p3 q0 q1 q2 q3 = r0) (h1 : wQ1 p0 p1 p2 p3 q0 q1 q2 q3 = r1) (h2 : wQ2 p0 p1 p2 p3 q0 q1 q2 q3 = r2) (h3 : wQ3 p0 p1 p2 p3 q0 q1 q2 q3 = r3) :
    Calls Try.prog 10 #[.agg #[.int .i32 p0, .int .i32 p1, .int .i32 p2, .int .i32 p3], .agg #[.int .i32 q0, .int .i32 q1, .int .i32 q2, .int .i32 q3]] w fun e w' => e = .returned (.agg #[.int .i32 r0, .int .i32 r1, .int .i32 r2, .int .i32 r3]) ∧ Below w.heap.size w w' := by
  obtain ⟨⟨bp0, Bp0⟩, ⟨bp1, Bp1⟩, ⟨bp2, Bp2⟩, ⟨bp3, Bp3⟩⟩ := hp
  obtain ⟨⟨bq0, Bq0⟩, ⟨bq1, Bq1⟩, ⟨bq2, Bq2⟩, ⟨bq3, Bq3⟩⟩ := hq
  have H0 := Lib.hid h0
  have H1 := Lib.hid h1
  have H2 := Lib.hid h2
  have H3 := Lib.hid h3
  clear h0 h1 h2 h3
  obtain ⟨W, hW⟩ : ∃ W, ((w.alloc (.cells #[.int .i32 p0, .int .i32 p1, .int .i32 p2, .int .i32 p3] 23)).alloc (.cells #[.int .i32 q0, .int .i32 q1, .int .i32 q2, .int .i32 q3] 23)).alloc (.cells #[.int .i32 0, .int .i32 0, .int .i32 0, .int .i32 0] 23) = W := ⟨_, rfl⟩
  have hbW : Below w.heap.size w W := by rw [← hW]; exact (((Below.refl w.heap.size w).alloc (by exact Nat.le_refl _) _).alloc (by simp; try omega) _).alloc (by simp; try omega) _
  have hzW : w.heap.size + 1 + 1 ≤ W.heap.size := by rw [← hW]; simp
  have c00 : W.cell? ⟨w.heap.size, 0, none⟩ = some (.int .i32 p0) := by subst hW; go_cell
  have c01 : W.cell? ⟨w.heap.size, 1, none⟩ = some (.int .i32 p1) := by subst hW; go_cell
  have c02 : W.cell? ⟨w.heap.size, 2, none⟩ = some (.int .i32 p2) := by subst hW; go_cell
  have c03 : W.cell? ⟨w.heap.size, 3, none⟩ = some (.int .i32 p3) := by subst hW; go_cell
  have c10 : W.cell? ⟨w.heap.size + 1, 0, none⟩ = some (.int .i32 q0) := by subst hW; go_cell
  have c11 : W.cell? ⟨w.heap.size + 1, 1, none⟩ = some (.int .i32 q1) := by subst hW; go_cell
  have c12 : W.cell? ⟨w.heap.size + 1, 2, none⟩ = some (.int .i32 q2) := by subst hW; go_cell
  have c13 : W.cell? ⟨w.heap.size + 1, 3, none⟩ = some (.int .i32 q3) := by subst hW; go_cell
  have HF := Lib.hid (show ∀ w', Below (w.heap.size + 1 + 1) W w' → (w'.cell? ⟨w.heap.size, 0, none⟩ = some (.int .i32 p0) ∧ w'.cell? ⟨w.heap.size, 1, none⟩ = some (.int .i32 p1) ∧ w'.cell? ⟨w.heap.size, 2, none⟩ = some (.int .i32 p2) ∧ w'.cell? ⟨w.heap.size, 3, none⟩ = some (.int .i32 p3) ∧ w'.cell? ⟨w.heap.size + 1, 0, none⟩ = some (.int .i32 q0) ∧ w'.cell? ⟨w.heap.size + 1, 1, none⟩ = some (.int .i32 q1) ∧ w'.cell? ⟨w.heap.size + 1, 2, none⟩ = some (.int .i32 q2) ∧ w'.cell? ⟨w.heap.size + 1, 3, none⟩ = some (.int .i32 q3)) from fun w' h => ⟨(h.cell (p := ⟨w.heap.size, 0, none⟩) (by simp; try omega)).trans c00, (h.cell (p := ⟨w.heap.size, 1, none⟩) (by simp; try omega)).trans c01, (h.cell (p := ⟨w.heap.size, 2, none⟩) (by simp; try omega)).trans c02, (h.cell (p := ⟨w.heap.size, 3, none⟩) (by simp; try omega)).trans c03, (h.cell (p := ⟨w.heap.size + 1, 0, none⟩) (by simp; try omega)).trans c10, (h.cell (p := ⟨w.heap.size + 1, 1, none⟩) (by simp; try omega)).trans c11, (h.cell (p := ⟨w.heap.size + 1, 2, none⟩) (by simp; try omega)).trans c12, (h.cell (p := ⟨w.heap.size + 1, 3, none⟩) (by simp; try omega)).trans c13⟩)
  have hR : FourAt W (w.heap.size + 1 + 1) (pt 0 0 0 0) ∧ 0 ≤ w.heap.size + 1 + 1 ∧ w.heap.size + 1 + 1 < W.heap.size := by
    rw [← hW]; exact ⟨by simpa using FourAt.new ((w.alloc (.cells #[.int .i32 p0, .int .i32 p1, .int .i32 p2, .int .i32 p3] 23)).alloc (.cells #[.int .i32 q0, .int .i32 q1, .int .i32 q2, .int .i32 q3] 23)) 0 0 0 0 23, Nat.zero_le _, by simp⟩
  have HW := Lib.hid hW
  have HZ := Lib.hid hzW
  clear hW hzW c00 c01 c02 c03 c10 c11 c12 c13
  go_enter Try.func10, Try.ntmps10
  go_wp2
  rw [HW.out]
  replace hR := drew4 hR
  go_region_held3 (fun w' => (w'.cell? ⟨w.heap.size, 0, none⟩ = some (.int .i32 p0) ∧ w'.cell? ⟨w.heap.size, 1, none⟩ = some (.int .i32 p1) ∧ w'.cell? ⟨w.heap.size, 2, none⟩ = some (.int .i32 p2) ∧ w'.cell? ⟨w.heap.size, 3, none⟩ = some (.int .i32 p3) ∧ w'.cell? ⟨w.heap.size + 1, 0, none⟩ = some (.int .i32 q0) ∧ w'.cell? ⟨w.heap.size + 1, 1, none⟩ = some (.int .i32 q1) ∧ w'.cell? ⟨w.heap.size + 1, 2, none⟩ = some (.int .i32 q2) ∧ w'.cell? ⟨w.heap.size + 1, 3, none⟩ = some (.int .i32 q3)) ∧ Below (w.heap.size + 1 + 1) W w' ∧ w.heap.size + 1 + 1 ≤ w'.heap.size)
    (first | with_reducible assumption | with_reducible exact Sall HF.out hS _ | with_reducible exact Sdrew HF.out HZ.out | with_reducible exact Sset HF.out hS _ _ _ _)
    (first
      | (go_at_call 13; with_reducible refine (keepG4 HF.out (quats_is _) (by assumption)).mono ?_; rintro e w1 ⟨rfl, hS, hq⟩; replace hR := keep4 hR hq)
      | (go_at_call 16; with_reducible refine (keepG4 HF.out (mMul_v p0 p1 p2 p3 q0 q1 q2 q3 r0 r1 r2 r3 _ bp0 Bp0 bp1 Bp1 bp2 Bp2 bp3 Bp3 bq0 Bq0 bq1 Bq1 bq2 Bq2 bq3 Bq3 ((q0_do _ _ _ _ _ _ _ _).trans H0.out) ((q1_do _ _ _ _ _ _ _ _).trans H1.out) ((q2_do _ _ _ _ _ _ _ _).trans H2.out) ((q3_do _ _ _ _ _ _ _ _).trans H3.out)) (by assumption)).mono ?_; rintro e w1 ⟨rfl, hS, hq⟩; replace hR := keep4 hR hq; have d0 := hR.1.c 0 (by decide); have d1 := hR.1.c 1 (by decide); have d2 := hR.1.c 2 (by decide); have d3 := hR.1.c 3 (by decide); have f0 := hR.1.z 0 (by decide); have f1 := hR.1.z 1 (by decide); have f2 := hR.1.z 2 (by decide); have f3 := hR.1.z 3 (by decide)))
  have hn4 := F4set hR.1 r0 r1 r2 r3
  have hB4 := hbW.trans ((set4_below hS.2.1 (Nat.le_refl _) (.int .i32 r0) (.int .i32 r1) (.int .i32 r2) (.int .i32 r3)).mono (by omega))
  generalize (((w1.setCell ⟨w.heap.size + 1 + 1, 0, none⟩ (.int .i32 r0)).setCell ⟨w.heap.size + 1 + 1, 1, none⟩ (.int .i32 r1)).setCell ⟨w.heap.size + 1 + 1, 2, none⟩ (.int .i32 r2)).setCell ⟨w.heap.size + 1 + 1, 3, none⟩ (.int .i32 r3) = W3 at hn4 hB4 hS ⊢
  have x0 := hn4.c 0 (by decide)
  have x1 := hn4.c 1 (by decide)
  have x2 := hn4.c 2 (by decide)
  have x3 := hn4.c 3 (by decide)
  go_wp2
  (try simp only [Exit.inBlock, Exit.then])
  exact bodyPost_ret (v := .agg #[.int .i32 r0, .int .i32 r1, .int .i32 r2, .int .i32 r3]) (by simp [results, Try.results10, go_sem, pt, x0, x1, x2, x3]) rfl ⟨rfl, hB4⟩

set_option maxHeartbeats 2000000 in
theorem rate_v (q0 q1 q2 q3 v0 v1 v2 r0 r1 r2 r3 : Int) (w : World) (hq : Wd4 q0 q1 q2 q3) (hv0 : -2147483648 ≤ v0 ∧ v0 ≤ 2147483647) (hv1 : -2147483648 ≤ v1 ∧ v1 ≤ 2147483647) (hv2 : -2147483648 ≤ v2 ∧ v2 ≤ 2147483647) (h0 : wR0 q0 q1 q2 q3 v0 v1 v2 = r0) (h1 : wR1 q0 q1 q2 q3 v0 v1 v2 = r1) (h2 : wR2 q0 q1 q2 q3 v0 v1 v2 = r2) (h3 : wR3 q0 q1 q2 q3 v0 v1 v2 = r3) :
    Calls Try.prog 11 #[.agg #[.int .i32 q0, .int .i32 q1, .int .i32 q2, .int .i32 q3], .agg #[.int .i32 v0, .int .i32 v1, .int .i32 v2]] w fun e w' => e = .returned (.agg #[.int .i32 r0, .int .i32 r1, .int .i32 r2, .int .i32 r3]) ∧ Below w.heap.size w w' := by
  obtain ⟨⟨bq0, Bq0⟩, ⟨bq1, Bq1⟩, ⟨bq2, Bq2⟩, ⟨bq3, Bq3⟩⟩ := hq
  obtain ⟨bv0, Bv0⟩ := hv0
  obtain ⟨bv1, Bv1⟩ := hv1
  obtain ⟨bv2, Bv2⟩ := hv2
  have H0 := Lib.hid h0
  have H1 := Lib.hid h1
  have H2 := Lib.hid h2
  have H3 := Lib.hid h3
  clear h0 h1 h2 h3
  obtain ⟨W, hW⟩ : ∃ W, ((w.alloc (.cells #[.int .i32 q0, .int .i32 q1, .int .i32 q2, .int .i32 q3] 23)).alloc (.cells #[.int .i32 v0, .int .i32 v1, .int .i32 v2] 28)).alloc (.cells #[.int .i32 0, .int .i32 0, .int .i32 0, .int .i32 0] 23) = W := ⟨_, rfl⟩
  have hbW : Below w.heap.size w W := by rw [← hW]; exact (((Below.refl w.heap.size w).alloc (by exact Nat.le_refl _) _).alloc (by simp; try omega) _).alloc (by simp; try omega) _
  have hzW : w.heap.size + 1 + 1 ≤ W.heap.size := by rw [← hW]; simp
  have c00 : W.cell? ⟨w.heap.size, 0, none⟩ = some (.int .i32 q0) := by subst hW; go_cell
  have c01 : W.cell? ⟨w.heap.size, 1, none⟩ = some (.int .i32 q1) := by subst hW; go_cell
  have c02 : W.cell? ⟨w.heap.size, 2, none⟩ = some (.int .i32 q2) := by subst hW; go_cell
  have c03 : W.cell? ⟨w.heap.size, 3, none⟩ = some (.int .i32 q3) := by subst hW; go_cell
  have c10 : W.cell? ⟨w.heap.size + 1, 0, none⟩ = some (.int .i32 v0) := by subst hW; go_cell
  have c11 : W.cell? ⟨w.heap.size + 1, 1, none⟩ = some (.int .i32 v1) := by subst hW; go_cell
  have c12 : W.cell? ⟨w.heap.size + 1, 2, none⟩ = some (.int .i32 v2) := by subst hW; go_cell
  have HF := Lib.hid (show ∀ w', Below (w.heap.size + 1 + 1) W w' → (w'.cell? ⟨w.heap.size, 0, none⟩ = some (.int .i32 q0) ∧ w'.cell? ⟨w.heap.size, 1, none⟩ = some (.int .i32 q1) ∧ w'.cell? ⟨w.heap.size, 2, none⟩ = some (.int .i32 q2) ∧ w'.cell? ⟨w.heap.size, 3, none⟩ = some (.int .i32 q3) ∧ w'.cell? ⟨w.heap.size + 1, 0, none⟩ = some (.int .i32 v0) ∧ w'.cell? ⟨w.heap.size + 1, 1, none⟩ = some (.int .i32 v1) ∧ w'.cell? ⟨w.heap.size + 1, 2, none⟩ = some (.int .i32 v2)) from fun w' h => ⟨(h.cell (p := ⟨w.heap.size, 0, none⟩) (by simp; try omega)).trans c00, (h.cell (p := ⟨w.heap.size, 1, none⟩) (by simp; try omega)).trans c01, (h.cell (p := ⟨w.heap.size, 2, none⟩) (by simp; try omega)).trans c02, (h.cell (p := ⟨w.heap.size, 3, none⟩) (by simp; try omega)).trans c03, (h.cell (p := ⟨w.heap.size + 1, 0, none⟩) (by simp; try omega)).trans c10, (h.cell (p := ⟨w.heap.size + 1, 1, none⟩) (by simp; try omega)).trans c11, (h.cell (p := ⟨w.heap.size + 1, 2, none⟩) (by simp; try omega)).trans c12⟩)
  have hR : FourAt W (w.heap.size + 1 + 1) (pt 0 0 0 0) ∧ 0 ≤ w.heap.size + 1 + 1 ∧ w.heap.size + 1 + 1 < W.heap.size := by
    rw [← hW]; exact ⟨by simpa using FourAt.new ((w.alloc (.cells #[.int .i32 q0, .int .i32 q1, .int .i32 q2, .int .i32 q3] 23)).alloc (.cells #[.int .i32 v0, .int .i32 v1, .int .i32 v2] 28)) 0 0 0 0 23, Nat.zero_le _, by simp⟩
  have HW := Lib.hid hW
  have HZ := Lib.hid hzW
  clear hW hzW c00 c01 c02 c03 c10 c11 c12
  go_enter Try.func11, Try.ntmps11
  go_wp2
  rw [HW.out]
  replace hR := drew4 hR
  go_region_held3 (fun w' => (w'.cell? ⟨w.heap.size, 0, none⟩ = some (.int .i32 q0) ∧ w'.cell? ⟨w.heap.size, 1, none⟩ = some (.int .i32 q1) ∧ w'.cell? ⟨w.heap.size, 2, none⟩ = some (.int .i32 q2) ∧ w'.cell? ⟨w.heap.size, 3, none⟩ = some (.int .i32 q3) ∧ w'.cell? ⟨w.heap.size + 1, 0, none⟩ = some (.int .i32 v0) ∧ w'.cell? ⟨w.heap.size + 1, 1, none⟩ = some (.int .i32 v1) ∧ w'.cell? ⟨w.heap.size + 1, 2, none⟩ = some (.int .i32 v2)) ∧ Below (w.heap.size + 1 + 1) W w' ∧ w.heap.size + 1 + 1 ≤ w'.heap.size)
    (first | with_reducible assumption | with_reducible exact Sall HF.out hS _ | with_reducible exact Sdrew HF.out HZ.out | with_reducible exact Sset HF.out hS _ _ _ _)
    (first
      | (go_at_call 13; with_reducible refine (keepG4 HF.out (quats_is _) (by assumption)).mono ?_; rintro e w1 ⟨rfl, hS, hq⟩; replace hR := keep4 hR hq)
      | (go_at_call 17; with_reducible refine (keepG4 HF.out (mRate_v q0 q1 q2 q3 v0 v1 v2 r0 r1 r2 r3 _ bq0 Bq0 bq1 Bq1 bq2 Bq2 bq3 Bq3 bv0 Bv0 bv1 Bv1 bv2 Bv2 ((s0_do _ _ _ _ _ _ _).trans H0.out) ((s1_do _ _ _ _ _ _ _).trans H1.out) ((s2_do _ _ _ _ _ _ _).trans H2.out) ((s3_do _ _ _ _ _ _ _).trans H3.out)) (by assumption)).mono ?_; rintro e w1 ⟨rfl, hS, hq⟩; replace hR := keep4 hR hq; have d0 := hR.1.c 0 (by decide); have d1 := hR.1.c 1 (by decide); have d2 := hR.1.c 2 (by decide); have d3 := hR.1.c 3 (by decide); have f0 := hR.1.z 0 (by decide); have f1 := hR.1.z 1 (by decide); have f2 := hR.1.z 2 (by decide); have f3 := hR.1.z 3 (by decide)))
  have hn4 := F4set hR.1 r0 r1 r2 r3
  have hB4 := hbW.trans ((set4_below hS.2.1 (Nat.le_refl _) (.int .i32 r0) (.int .i32 r1) (.int .i32 r2) (.int .i32 r3)).mono (by omega))
  generalize (((w1.setCell ⟨w.heap.size + 1 + 1, 0, none⟩ (.int .i32 r0)).setCell ⟨w.heap.size + 1 + 1, 1, none⟩ (.int .i32 r1)).setCell ⟨w.heap.size + 1 + 1, 2, none⟩ (.int .i32 r2)).setCell ⟨w.heap.size + 1 + 1, 3, none⟩ (.int .i32 r3) = W3 at hn4 hB4 hS ⊢
  have x0 := hn4.c 0 (by decide)
  have x1 := hn4.c 1 (by decide)
  have x2 := hn4.c 2 (by decide)
  have x3 := hn4.c 3 (by decide)
  go_wp2
  (try simp only [Exit.inBlock, Exit.then])
  exact bodyPost_ret (v := .agg #[.int .i32 r0, .int .i32 r1, .int .i32 r2, .int .i32 r3]) (by simp [results, Try.results11, go_sem, pt, x0, x1, x2, x3]) rfl ⟨rfl, hB4⟩

set_option maxHeartbeats 2000000 in
theorem conj_v (p0 p1 p2 p3 r1 r2 r3 : Int) (w : World) (hp : Wd4 p0 p1 p2 p3) (h1 : wCut (-p1) = r1) (h2 : wCut (-p2) = r2) (h3 : wCut (-p3) = r3) :
    Calls Try.prog 12 #[.agg #[.int .i32 p0, .int .i32 p1, .int .i32 p2, .int .i32 p3]] w fun e w' => e = .returned (.agg #[.int .i32 p0, .int .i32 r1, .int .i32 r2, .int .i32 r3]) ∧ Below w.heap.size w w' := by
  obtain ⟨⟨bp0, Bp0⟩, ⟨bp1, Bp1⟩, ⟨bp2, Bp2⟩, ⟨bp3, Bp3⟩⟩ := hp
  have H1 := Lib.hid h1
  have H2 := Lib.hid h2
  have H3 := Lib.hid h3
  clear h1 h2 h3
  obtain ⟨W, hW⟩ : ∃ W, (w.alloc (.cells #[.int .i32 p0, .int .i32 p1, .int .i32 p2, .int .i32 p3] 23)).alloc (.cells #[.int .i32 0, .int .i32 0, .int .i32 0, .int .i32 0] 23) = W := ⟨_, rfl⟩
  have hbW : Below w.heap.size w W := by rw [← hW]; exact ((Below.refl w.heap.size w).alloc (by exact Nat.le_refl _) _).alloc (by simp; try omega) _
  have hzW : w.heap.size + 1 ≤ W.heap.size := by rw [← hW]; simp
  have c00 : W.cell? ⟨w.heap.size, 0, none⟩ = some (.int .i32 p0) := by subst hW; go_cell
  have c01 : W.cell? ⟨w.heap.size, 1, none⟩ = some (.int .i32 p1) := by subst hW; go_cell
  have c02 : W.cell? ⟨w.heap.size, 2, none⟩ = some (.int .i32 p2) := by subst hW; go_cell
  have c03 : W.cell? ⟨w.heap.size, 3, none⟩ = some (.int .i32 p3) := by subst hW; go_cell
  have HF := Lib.hid (show ∀ w', Below (w.heap.size + 1) W w' → (w'.cell? ⟨w.heap.size, 0, none⟩ = some (.int .i32 p0) ∧ w'.cell? ⟨w.heap.size, 1, none⟩ = some (.int .i32 p1) ∧ w'.cell? ⟨w.heap.size, 2, none⟩ = some (.int .i32 p2) ∧ w'.cell? ⟨w.heap.size, 3, none⟩ = some (.int .i32 p3)) from fun w' h => ⟨(h.cell (p := ⟨w.heap.size, 0, none⟩) (by simp; try omega)).trans c00, (h.cell (p := ⟨w.heap.size, 1, none⟩) (by simp; try omega)).trans c01, (h.cell (p := ⟨w.heap.size, 2, none⟩) (by simp; try omega)).trans c02, (h.cell (p := ⟨w.heap.size, 3, none⟩) (by simp; try omega)).trans c03⟩)
  have hR : FourAt W (w.heap.size + 1) (pt 0 0 0 0) ∧ 0 ≤ w.heap.size + 1 ∧ w.heap.size + 1 < W.heap.size := by
    rw [← hW]; exact ⟨by simpa using FourAt.new (w.alloc (.cells #[.int .i32 p0, .int .i32 p1, .int .i32 p2, .int .i32 p3] 23)) 0 0 0 0 23, Nat.zero_le _, by simp⟩
  have HW := Lib.hid hW
  have HZ := Lib.hid hzW
  clear hW hzW c00 c01 c02 c03
  go_enter Try.func12, Try.ntmps12
  go_wp2
  rw [HW.out]
  replace hR := drew4 hR
  go_region_held3 (fun w' => (w'.cell? ⟨w.heap.size, 0, none⟩ = some (.int .i32 p0) ∧ w'.cell? ⟨w.heap.size, 1, none⟩ = some (.int .i32 p1) ∧ w'.cell? ⟨w.heap.size, 2, none⟩ = some (.int .i32 p2) ∧ w'.cell? ⟨w.heap.size, 3, none⟩ = some (.int .i32 p3)) ∧ Below (w.heap.size + 1) W w' ∧ w.heap.size + 1 ≤ w'.heap.size)
    (first | with_reducible assumption | with_reducible exact Sall HF.out hS _ | with_reducible exact Sdrew HF.out HZ.out | with_reducible exact Sset HF.out hS _ _ _ _)
    (first
      | (go_at_call 13; with_reducible refine (keepG4 HF.out (quats_is _) (by assumption)).mono ?_; rintro e w1 ⟨rfl, hS, hq⟩; replace hR := keep4 hR hq)
      | (go_at_call 18; with_reducible refine (keepG4 HF.out (mConj_v p0 p1 p2 p3 r1 r2 r3 _ bp1 Bp1 bp2 Bp2 bp3 Bp3 ((neg_do _).trans H1.out) ((neg_do _).trans H2.out) ((neg_do _).trans H3.out)) (by assumption)).mono ?_; rintro e w1 ⟨rfl, hS, hq⟩; replace hR := keep4 hR hq; have d0 := hR.1.c 0 (by decide); have d1 := hR.1.c 1 (by decide); have d2 := hR.1.c 2 (by decide); have d3 := hR.1.c 3 (by decide); have f0 := hR.1.z 0 (by decide); have f1 := hR.1.z 1 (by decide); have f2 := hR.1.z 2 (by decide); have f3 := hR.1.z 3 (by decide)))
  have hn4 := F4set hR.1 p0 r1 r2 r3
  have hB4 := hbW.trans ((set4_below hS.2.1 (Nat.le_refl _) (.int .i32 p0) (.int .i32 r1) (.int .i32 r2) (.int .i32 r3)).mono (by omega))
  generalize (((w1.setCell ⟨w.heap.size + 1, 0, none⟩ (.int .i32 p0)).setCell ⟨w.heap.size + 1, 1, none⟩ (.int .i32 r1)).setCell ⟨w.heap.size + 1, 2, none⟩ (.int .i32 r2)).setCell ⟨w.heap.size + 1, 3, none⟩ (.int .i32 r3) = W3 at hn4 hB4 hS ⊢
  have x0 := hn4.c 0 (by decide)
  have x1 := hn4.c 1 (by decide)
  have x2 := hn4.c 2 (by decide)
  have x3 := hn4.c 3 (by decide)
  go_wp2
  (try simp only [Exit.inBlock, Exit.then])
  exact bodyPost_ret (v := .agg #[.int .i32 p0, .int .i32 r1, .int .i32 r2, .int .i32 r3]) (by simp [results, Try.results12, go_sem, pt, x0, x1, x2, x3]) rfl ⟨rfl, hB4⟩

set_option maxHeartbeats 2000000 in
theorem unit_v (p0 p1 p2 p3 r0 r1 r2 r3 : Int) (w : World) (hp : Wd4 p0 p1 p2 p3) (h0 : wU p0 p1 p2 p3 p0 = r0) (h1 : wU p0 p1 p2 p3 p1 = r1) (h2 : wU p0 p1 p2 p3 p2 = r2) (h3 : wU p0 p1 p2 p3 p3 = r3) :
    Calls Try.prog 8 #[.agg #[.int .i32 p0, .int .i32 p1, .int .i32 p2, .int .i32 p3]] w fun e w' => e = .returned (.agg #[.int .i32 r0, .int .i32 r1, .int .i32 r2, .int .i32 r3]) ∧ Below w.heap.size w w' := by
  obtain ⟨⟨bp0, Bp0⟩, ⟨bp1, Bp1⟩, ⟨bp2, Bp2⟩, ⟨bp3, Bp3⟩⟩ := hp
  have H0 := Lib.hid h0
  have H1 := Lib.hid h1
  have H2 := Lib.hid h2
  have H3 := Lib.hid h3
  clear h0 h1 h2 h3
  obtain ⟨W, hW⟩ : ∃ W, (w.alloc (.cells #[.int .i32 p0, .int .i32 p1, .int .i32 p2, .int .i32 p3] 23)).alloc (.cells #[.int .i32 0, .int .i32 0, .int .i32 0, .int .i32 0] 23) = W := ⟨_, rfl⟩
  have hbW : Below w.heap.size w W := by rw [← hW]; exact ((Below.refl w.heap.size w).alloc (by exact Nat.le_refl _) _).alloc (by simp; try omega) _
  have hzW : w.heap.size + 1 ≤ W.heap.size := by rw [← hW]; simp
  have c00 : W.cell? ⟨w.heap.size, 0, none⟩ = some (.int .i32 p0) := by subst hW; go_cell
  have c01 : W.cell? ⟨w.heap.size, 1, none⟩ = some (.int .i32 p1) := by subst hW; go_cell
  have c02 : W.cell? ⟨w.heap.size, 2, none⟩ = some (.int .i32 p2) := by subst hW; go_cell
  have c03 : W.cell? ⟨w.heap.size, 3, none⟩ = some (.int .i32 p3) := by subst hW; go_cell
  have HF := Lib.hid (show ∀ w', Below (w.heap.size + 1) W w' → (w'.cell? ⟨w.heap.size, 0, none⟩ = some (.int .i32 p0) ∧ w'.cell? ⟨w.heap.size, 1, none⟩ = some (.int .i32 p1) ∧ w'.cell? ⟨w.heap.size, 2, none⟩ = some (.int .i32 p2) ∧ w'.cell? ⟨w.heap.size, 3, none⟩ = some (.int .i32 p3)) from fun w' h => ⟨(h.cell (p := ⟨w.heap.size, 0, none⟩) (by simp; try omega)).trans c00, (h.cell (p := ⟨w.heap.size, 1, none⟩) (by simp; try omega)).trans c01, (h.cell (p := ⟨w.heap.size, 2, none⟩) (by simp; try omega)).trans c02, (h.cell (p := ⟨w.heap.size, 3, none⟩) (by simp; try omega)).trans c03⟩)
  have hR : FourAt W (w.heap.size + 1) (pt 0 0 0 0) ∧ 0 ≤ w.heap.size + 1 ∧ w.heap.size + 1 < W.heap.size := by
    rw [← hW]; exact ⟨by simpa using FourAt.new (w.alloc (.cells #[.int .i32 p0, .int .i32 p1, .int .i32 p2, .int .i32 p3] 23)) 0 0 0 0 23, Nat.zero_le _, by simp⟩
  have HW := Lib.hid hW
  have HZ := Lib.hid hzW
  clear hW hzW c00 c01 c02 c03
  go_enter Try.func8, Try.ntmps8
  go_wp2
  rw [HW.out]
  replace hR := drew4 hR
  go_region_held3 (fun w' => (w'.cell? ⟨w.heap.size, 0, none⟩ = some (.int .i32 p0) ∧ w'.cell? ⟨w.heap.size, 1, none⟩ = some (.int .i32 p1) ∧ w'.cell? ⟨w.heap.size, 2, none⟩ = some (.int .i32 p2) ∧ w'.cell? ⟨w.heap.size, 3, none⟩ = some (.int .i32 p3)) ∧ Below (w.heap.size + 1) W w' ∧ w.heap.size + 1 ≤ w'.heap.size)
    (first | with_reducible assumption | with_reducible exact Sall HF.out hS _ | with_reducible exact Sdrew HF.out HZ.out | with_reducible exact Sset HF.out hS _ _ _ _)
    (first
      | (go_at_call 13; with_reducible refine (keepG4 HF.out (quats_is _) (by assumption)).mono ?_; rintro e w1 ⟨rfl, hS, hq⟩; replace hR := keep4 hR hq)
      | (go_at_call 15; with_reducible refine (keepG4 HF.out (mUnit_w p0 p1 p2 p3 r0 r1 r2 r3 _ bp0 Bp0 bp1 Bp1 bp2 Bp2 bp3 Bp3 H0.out H1.out H2.out H3.out) (by assumption)).mono ?_; rintro e w1 ⟨rfl, hS, hq⟩; replace hR := keep4 hR hq; have d0 := hR.1.c 0 (by decide); have d1 := hR.1.c 1 (by decide); have d2 := hR.1.c 2 (by decide); have d3 := hR.1.c 3 (by decide); have f0 := hR.1.z 0 (by decide); have f1 := hR.1.z 1 (by decide); have f2 := hR.1.z 2 (by decide); have f3 := hR.1.z 3 (by decide)))
  have hn4 := F4set hR.1 r0 r1 r2 r3
  have hB4 := hbW.trans ((set4_below hS.2.1 (Nat.le_refl _) (.int .i32 r0) (.int .i32 r1) (.int .i32 r2) (.int .i32 r3)).mono (by omega))
  generalize (((w1.setCell ⟨w.heap.size + 1, 0, none⟩ (.int .i32 r0)).setCell ⟨w.heap.size + 1, 1, none⟩ (.int .i32 r1)).setCell ⟨w.heap.size + 1, 2, none⟩ (.int .i32 r2)).setCell ⟨w.heap.size + 1, 3, none⟩ (.int .i32 r3) = W3 at hn4 hB4 hS ⊢
  have x0 := hn4.c 0 (by decide)
  have x1 := hn4.c 1 (by decide)
  have x2 := hn4.c 2 (by decide)
  have x3 := hn4.c 3 (by decide)
  go_wp2
  (try simp only [Exit.inBlock, Exit.then])
  exact bodyPost_ret (v := .agg #[.int .i32 r0, .int .i32 r1, .int .i32 r2, .int .i32 r3]) (by simp [results, Try.results8, go_sem, pt, x0, x1, x2, x3]) rfl ⟨rfl, hB4⟩

set_option maxHeartbeats 2000000 in
theorem norm_v (p0 p1 p2 p3 r0 : Int) (w : World) (hp : Wd4 p0 p1 p2 p3) (h0 : wNrm p0 p1 p2 p3 = r0) :
    Calls Try.prog 6 #[.agg #[.int .i32 p0, .int .i32 p1, .int .i32 p2, .int .i32 p3]] w fun e w' => e = .returned (.int .i32 r0) ∧ Below w.heap.size w w' := by
  obtain ⟨⟨bp0, Bp0⟩, ⟨bp1, Bp1⟩, ⟨bp2, Bp2⟩, ⟨bp3, Bp3⟩⟩ := hp
  have H0 := Lib.hid h0
  clear h0
  obtain ⟨W, hW⟩ : ∃ W, w.alloc (.cells #[.int .i32 p0, .int .i32 p1, .int .i32 p2, .int .i32 p3] 23) = W := ⟨_, rfl⟩
  have hbW : Below w.heap.size w W := by rw [← hW]; exact (Below.refl w.heap.size w).alloc (by exact Nat.le_refl _) _
  have hzW : w.heap.size + 1 ≤ W.heap.size := by rw [← hW]; simp
  have c00 : W.cell? ⟨w.heap.size, 0, none⟩ = some (.int .i32 p0) := by subst hW; go_cell
  have c01 : W.cell? ⟨w.heap.size, 1, none⟩ = some (.int .i32 p1) := by subst hW; go_cell
  have c02 : W.cell? ⟨w.heap.size, 2, none⟩ = some (.int .i32 p2) := by subst hW; go_cell
  have c03 : W.cell? ⟨w.heap.size, 3, none⟩ = some (.int .i32 p3) := by subst hW; go_cell
  have HF := Lib.hid (show ∀ w', Below (w.heap.size + 1) W w' → (w'.cell? ⟨w.heap.size, 0, none⟩ = some (.int .i32 p0) ∧ w'.cell? ⟨w.heap.size, 1, none⟩ = some (.int .i32 p1) ∧ w'.cell? ⟨w.heap.size, 2, none⟩ = some (.int .i32 p2) ∧ w'.cell? ⟨w.heap.size, 3, none⟩ = some (.int .i32 p3)) from fun w' h => ⟨(h.cell (p := ⟨w.heap.size, 0, none⟩) (by simp; try omega)).trans c00, (h.cell (p := ⟨w.heap.size, 1, none⟩) (by simp; try omega)).trans c01, (h.cell (p := ⟨w.heap.size, 2, none⟩) (by simp; try omega)).trans c02, (h.cell (p := ⟨w.heap.size, 3, none⟩) (by simp; try omega)).trans c03⟩)
  have HW := Lib.hid hW
  have HZ := Lib.hid hzW
  clear hW hzW c00 c01 c02 c03
  go_enter Try.func6, Try.ntmps6
  go_wp2
  rw [HW.out]
  go_region_held3 (fun w' => (w'.cell? ⟨w.heap.size, 0, none⟩ = some (.int .i32 p0) ∧ w'.cell? ⟨w.heap.size, 1, none⟩ = some (.int .i32 p1) ∧ w'.cell? ⟨w.heap.size, 2, none⟩ = some (.int .i32 p2) ∧ w'.cell? ⟨w.heap.size, 3, none⟩ = some (.int .i32 p3)) ∧ Below (w.heap.size + 1) W w' ∧ w.heap.size + 1 ≤ w'.heap.size)
    (first | with_reducible assumption | with_reducible exact Sall HF.out hS _ | with_reducible exact Sdrew HF.out HZ.out)
    (first
      | (go_at_call 13; with_reducible refine (keepG4 HF.out (quats_is _) (by assumption)).mono ?_; rintro e w1 ⟨rfl, hS, hq⟩; skip)
      | (go_at_call 14; with_reducible refine (keepG4 HF.out (mNorm_v p0 p1 p2 p3 r0 _ bp0 Bp0 bp1 Bp1 bp2 Bp2 bp3 Bp3 ((nrm_do _ _ _ _).trans H0.out)) (by assumption)).mono ?_; rintro e w1 ⟨rfl, hS, hq⟩; skip))
  all_goals go_wp2
  all_goals go_ret
  all_goals exact ⟨rfl, hbW.trans (hS.2.1.mono (by omega))⟩

end Go.Proofs.Ytdphiobmjdiefaa
