/- Layer 10's steps upon package mill's mill of words: norms, the other way round, units. Conditions: the numbers are of the kind int32. -/
import Derived.Test.YtdphiobmjdiefaaQuatH
namespace Go.Proofs.Ytdphiobmjdiefaa
open Go.RowKit

set_option maxRecDepth 100000 in
set_option maxHeartbeats 4000000 in
theorem mNorm_v (p0 p1 p2 p3 r0 : Int) (w : World) (bp0 : -2147483648 ≤ p0) (Bp0 : p0 ≤ 2147483647) (bp1 : -2147483648 ≤ p1) (Bp1 : p1 ≤ 2147483647) (bp2 : -2147483648 ≤ p2) (Bp2 : p2 ≤ 2147483647) (bp3 : -2147483648 ≤ p3) (Bp3 : p3 ≤ 2147483647)
    (h0 : wDo 3 (wDo 3 (wDo 3 (wMulq p0 p0) (wMulq p1 p1)) (wMulq p2 p2)) (wMulq p3 p3) = r0) :
    Calls Try.prog 14 #[.agg #[.iface 45 (.agg #[])], .agg #[.int .i32 p0, .int .i32 p1, .int .i32 p2, .int .i32 p3]] w fun e w' => e = .returned (.int .i32 r0) ∧ Below w.heap.size w w' := by
  have H0 := Lib.hid h0
  clear h0
  obtain ⟨W, hW⟩ : ∃ W, (w.alloc (.cells #[.iface 45 (.agg #[])] 38)).alloc (.cells #[.int .i32 p0, .int .i32 p1, .int .i32 p2, .int .i32 p3] 22) = W := ⟨_, rfl⟩
  have hbW : Below w.heap.size w W := by rw [← hW]; exact ((Below.refl w.heap.size w).alloc (by exact Nat.le_refl _) _).alloc (by simp; try omega) _
  have hzW : w.heap.size + 1 + 1 ≤ W.heap.size := by rw [← hW]; simp
  have c00 : W.cell? ⟨w.heap.size, 0, none⟩ = some (.iface 45 (.agg #[])) := by subst hW; go_cell
  have c10 : W.cell? ⟨w.heap.size + 1, 0, none⟩ = some (.int .i32 p0) := by subst hW; go_cell
  have c11 : W.cell? ⟨w.heap.size + 1, 1, none⟩ = some (.int .i32 p1) := by subst hW; go_cell
  have c12 : W.cell? ⟨w.heap.size + 1, 2, none⟩ = some (.int .i32 p2) := by subst hW; go_cell
  have c13 : W.cell? ⟨w.heap.size + 1, 3, none⟩ = some (.int .i32 p3) := by subst hW; go_cell
  have HF := Lib.hid (show ∀ w', Below (w.heap.size + 1 + 1) W w' → (w'.cell? ⟨w.heap.size, 0, none⟩ = some (.iface 45 (.agg #[])) ∧ w'.cell? ⟨w.heap.size + 1, 0, none⟩ = some (.int .i32 p0) ∧ w'.cell? ⟨w.heap.size + 1, 1, none⟩ = some (.int .i32 p1) ∧ w'.cell? ⟨w.heap.size + 1, 2, none⟩ = some (.int .i32 p2) ∧ w'.cell? ⟨w.heap.size + 1, 3, none⟩ = some (.int .i32 p3)) from fun w' h => ⟨(h.cell (p := ⟨w.heap.size, 0, none⟩) (by simp; try omega)).trans c00, (h.cell (p := ⟨w.heap.size + 1, 0, none⟩) (by simp; try omega)).trans c10, (h.cell (p := ⟨w.heap.size + 1, 1, none⟩) (by simp; try omega)).trans c11, (h.cell (p := ⟨w.heap.size + 1, 2, none⟩) (by simp; try omega)).trans c12, (h.cell (p := ⟨w.heap.size + 1, 3, none⟩) (by simp; try omega)).trans c13⟩)
  have HW := Lib.hid hW
  have HZ := Lib.hid hzW
  clear hW hzW c00 c10 c11 c12 c13
  go_enter Try.func14, Try.ntmps14
  go_wp2
  rw [HW.out]
  go_region_held3 (fun w' => (w'.cell? ⟨w.heap.size, 0, none⟩ = some (.iface 45 (.agg #[])) ∧ w'.cell? ⟨w.heap.size + 1, 0, none⟩ = some (.int .i32 p0) ∧ w'.cell? ⟨w.heap.size + 1, 1, none⟩ = some (.int .i32 p1) ∧ w'.cell? ⟨w.heap.size + 1, 2, none⟩ = some (.int .i32 p2) ∧ w'.cell? ⟨w.heap.size + 1, 3, none⟩ = some (.int .i32 p3)) ∧ Below (w.heap.size + 1 + 1) W w' ∧ w.heap.size + 1 + 1 ≤ w'.heap.size)
    (first | with_reducible assumption | with_reducible exact Sall HF.out hS _ | with_reducible exact Sdrew HF.out HZ.out)
    (first
      | (go_at_call 20; with_reducible refine (keepG4 HF.out (mulq_v _ _ _ _ (by assumption) (by assumption) (by assumption) (by assumption) rfl) (by assumption)).mono ?_; rintro e w1 ⟨rfl, hS, hq⟩; skip)
      | (go_at_call 21; with_reducible refine (keepG4 HF.out (plus_v _ _ _) (by assumption)).mono ?_; rintro e w1 ⟨rfl, hS, hq⟩; skip)
      | (go_at_call 19; with_reducible refine (keepG4 HF.out (total3_o (wMulq p0 p0) 3 p1 p1 3 p2 p2 3 p3 p3 r0 _ _ (wMulq_bd _ _) (Or.inl rfl) (Or.inl rfl) (Or.inl rfl) bp1 Bp1 bp1 Bp1 bp2 Bp2 bp2 Bp2 bp3 Bp3 bp3 Bp3 H0.out) (by assumption)).mono ?_; rintro e w1 ⟨rfl, hS, hq⟩; skip))
  go_wp2
  go_ret
  exact ⟨rfl, hbW.trans (hS.2.1.mono (by omega))⟩

set_option maxHeartbeats 4000000 in
theorem mConj_v (p0 p1 p2 p3 r1 r2 r3 : Int) (w : World) (bp1 : -2147483648 ≤ p1) (Bp1 : p1 ≤ 2147483647) (bp2 : -2147483648 ≤ p2) (Bp2 : p2 ≤ 2147483647) (bp3 : -2147483648 ≤ p3) (Bp3 : p3 ≤ 2147483647) (h1 : wDo 25 p1 0 = r1) (h2 : wDo 25 p2 0 = r2) (h3 : wDo 25 p3 0 = r3) :
    Calls Try.prog 18 #[.agg #[.iface 45 (.agg #[])], .agg #[.int .i32 p0, .int .i32 p1, .int .i32 p2, .int .i32 p3]] w fun e w' => e = .returned (.agg #[.int .i32 p0, .int .i32 r1, .int .i32 r2, .int .i32 r3]) ∧ Below w.heap.size w w' := by
  have H1 := Lib.hid h1
  have H2 := Lib.hid h2
  have H3 := Lib.hid h3
  clear h1 h2 h3
  obtain ⟨W, hW⟩ : ∃ W, ((w.alloc (.cells #[.iface 45 (.agg #[])] 38)).alloc (.cells #[.int .i32 p0, .int .i32 p1, .int .i32 p2, .int .i32 p3] 22)).alloc (.cells #[.int .i32 0, .int .i32 0, .int .i32 0, .int .i32 0] 22) = W := ⟨_, rfl⟩
  have hbW : Below w.heap.size w W := by rw [← hW]; exact (((Below.refl w.heap.size w).alloc (by exact Nat.le_refl _) _).alloc (by simp; try omega) _).alloc (by simp; try omega) _
  have hzW : w.heap.size + 1 + 1 ≤ W.heap.size := by rw [← hW]; simp
  have c00 : W.cell? ⟨w.heap.size, 0, none⟩ = some (.iface 45 (.agg #[])) := by subst hW; go_cell
  have c10 : W.cell? ⟨w.heap.size + 1, 0, none⟩ = some (.int .i32 p0) := by subst hW; go_cell
  have c11 : W.cell? ⟨w.heap.size + 1, 1, none⟩ = some (.int .i32 p1) := by subst hW; go_cell
  have c12 : W.cell? ⟨w.heap.size + 1, 2, none⟩ = some (.int .i32 p2) := by subst hW; go_cell
  have c13 : W.cell? ⟨w.heap.size + 1, 3, none⟩ = some (.int .i32 p3) := by subst hW; go_cell
  have HF := Lib.hid (show ∀ w', Below (w.heap.size + 1 + 1) W w' → (w'.cell? ⟨w.heap.size, 0, none⟩ = some (.iface 45 (.agg #[])) ∧ w'.cell? ⟨w.heap.size + 1, 0, none⟩ = some (.int .i32 p0) ∧ w'.cell? ⟨w.heap.size + 1, 1, none⟩ = some (.int .i32 p1) ∧ w'.cell? ⟨w.heap.size + 1, 2, none⟩ = some (.int .i32 p2) ∧ w'.cell? ⟨w.heap.size + 1, 3, none⟩ = some (.int .i32 p3)) from fun w' h => ⟨(h.cell (p := ⟨w.heap.size, 0, none⟩) (by simp; try omega)).trans c00, (h.cell (p := ⟨w.heap.size + 1, 0, none⟩) (by simp; try omega)).trans c10, (h.cell (p := ⟨w.heap.size + 1, 1, none⟩) (by simp; try omega)).trans c11, (h.cell (p := ⟨w.heap.size + 1, 2, none⟩) (by simp; try omega)).trans c12, (h.cell (p := ⟨w.heap.size + 1, 3, none⟩) (by simp; try omega)).trans c13⟩)
  have hR : FourAt W (w.heap.size + 1 + 1) (pt 0 0 0 0) ∧ 0 ≤ w.heap.size + 1 + 1 ∧ w.heap.size + 1 + 1 < W.heap.size := by
    rw [← hW]; exact ⟨by simpa using FourAt.new ((w.alloc (.cells #[.iface 45 (.agg #[])] 38)).alloc (.cells #[.int .i32 p0, .int .i32 p1, .int .i32 p2, .int .i32 p3] 22)) 0 0 0 0 22, Nat.zero_le _, by simp⟩
  have HW := Lib.hid hW
  have HZ := Lib.hid hzW
  clear hW hzW c00 c10 c11 c12 c13
  go_enter Try.func18, Try.ntmps18
  go_wp2
  rw [HW.out]
  replace hR := drew4 hR
  go_region_held3 (fun w' => (w'.cell? ⟨w.heap.size, 0, none⟩ = some (.iface 45 (.agg #[])) ∧ w'.cell? ⟨w.heap.size + 1, 0, none⟩ = some (.int .i32 p0) ∧ w'.cell? ⟨w.heap.size + 1, 1, none⟩ = some (.int .i32 p1) ∧ w'.cell? ⟨w.heap.size + 1, 2, none⟩ = some (.int .i32 p2) ∧ w'.cell? ⟨w.heap.size + 1, 3, none⟩ = some (.int .i32 p3)) ∧ Below (w.heap.size + 1 + 1) W w' ∧ w.heap.size + 1 + 1 ≤ w'.heap.size)
    (first | with_reducible assumption | with_reducible exact Sall HF.out hS _ | with_reducible exact Sdrew HF.out HZ.out | with_reducible exact Sset HF.out hS _ _ _ _)
    (first
      | (go_at_call 45; with_reducible refine (keepG4 HF.out (words_one 25 p1 r1 _ bp1 Bp1 H1.out) (by assumption)).mono ?_; rintro e w1 ⟨rfl, hS, hq⟩; replace hR := keep4 hR hq)
      | (go_at_call 45; with_reducible refine (keepG4 HF.out (words_one 25 p2 r2 _ bp2 Bp2 H2.out) (by assumption)).mono ?_; rintro e w1 ⟨rfl, hS, hq⟩; replace hR := keep4 hR hq)
      | (go_at_call 45; with_reducible refine (keepG4 HF.out (words_one 25 p3 r3 _ bp3 Bp3 H3.out) (by assumption)).mono ?_; rintro e w1 ⟨rfl, hS, hq⟩; replace hR := keep4 hR hq; have d0 := hR.1.c 0 (by decide); have d1 := hR.1.c 1 (by decide); have d2 := hR.1.c 2 (by decide); have d3 := hR.1.c 3 (by decide); have f0 := hR.1.z 0 (by decide); have f1 := hR.1.z 1 (by decide); have f2 := hR.1.z 2 (by decide); have f3 := hR.1.z 3 (by decide)))
  have hn4 := F4set hR.1 p0 r1 r2 r3
  have hB4 := hbW.trans ((set4_below hS.2.1 (Nat.le_refl _) (.int .i32 p0) (.int .i32 r1) (.int .i32 r2) (.int .i32 r3)).mono (by omega))
  generalize (((w1.setCell ⟨w.heap.size + 1 + 1, 0, none⟩ (.int .i32 p0)).setCell ⟨w.heap.size + 1 + 1, 1, none⟩ (.int .i32 r1)).setCell ⟨w.heap.size + 1 + 1, 2, none⟩ (.int .i32 r2)).setCell ⟨w.heap.size + 1 + 1, 3, none⟩ (.int .i32 r3) = W3 at hn4 hB4 hS ⊢
  have x0 := hn4.c 0 (by decide)
  have x1 := hn4.c 1 (by decide)
  have x2 := hn4.c 2 (by decide)
  have x3 := hn4.c 3 (by decide)
  go_wp2
  (try simp only [Exit.inBlock, Exit.then])
  exact bodyPost_ret (v := .agg #[.int .i32 p0, .int .i32 r1, .int .i32 r2, .int .i32 r3]) (by simp [results, Try.results18, go_sem, pt, x0, x1, x2, x3]) rfl ⟨rfl, hB4⟩

theorem index4_0 (p0 p1 p2 p3 : Int) (w : World) : Sem.run Try.prog (Instr.index 22 (.agg #[.int .i32 p0, .int .i32 p1, .int .i32 p2, .int .i32 p3]) (.int .i64 0)) w = .ok (.int .i32 p0) w := by kernel_rfl
theorem index4_1 (p0 p1 p2 p3 : Int) (w : World) : Sem.run Try.prog (Instr.index 22 (.agg #[.int .i32 p0, .int .i32 p1, .int .i32 p2, .int .i32 p3]) (.int .i64 1)) w = .ok (.int .i32 p1) w := by kernel_rfl
theorem index4_2 (p0 p1 p2 p3 : Int) (w : World) : Sem.run Try.prog (Instr.index 22 (.agg #[.int .i32 p0, .int .i32 p1, .int .i32 p2, .int .i32 p3]) (.int .i64 2)) w = .ok (.int .i32 p2) w := by kernel_rfl
theorem index4_3 (p0 p1 p2 p3 : Int) (w : World) : Sem.run Try.prog (Instr.index 22 (.agg #[.int .i32 p0, .int .i32 p1, .int .i32 p2, .int .i32 p3]) (.int .i64 3)) w = .ok (.int .i32 p3) w := by kernel_rfl
set_option maxHeartbeats 4000000 in
theorem mUnit_v (p0 p1 p2 p3 : Int) (w : World) (bp0 : -2147483648 ≤ p0) (Bp0 : p0 ≤ 2147483647) (bp1 : -2147483648 ≤ p1) (Bp1 : p1 ≤ 2147483647) (bp2 : -2147483648 ≤ p2) (Bp2 : p2 ≤ 2147483647) (bp3 : -2147483648 ≤ p3) (Bp3 : p3 ≤ 2147483647) :
    Calls Try.prog 15 #[.agg #[.iface 45 (.agg #[])], .agg #[.int .i32 p0, .int .i32 p1, .int .i32 p2, .int .i32 p3]] w fun e w' => e = .returned (.agg #[.int .i32 (wU p0 p1 p2 p3 p0), .int .i32 (wU p0 p1 p2 p3 p1), .int .i32 (wU p0 p1 p2 p3 p2), .int .i32 (wU p0 p1 p2 p3 p3)]) ∧ Below w.heap.size w w' := by
  have hp : Wd4 p0 p1 p2 p3 := ⟨⟨bp0, Bp0⟩, ⟨bp1, Bp1⟩, ⟨bp2, Bp2⟩, ⟨bp3, Bp3⟩⟩
  have zb := wRs_bd (wLvU (wNrm p0 p1 p2 p3))
  have hb5 := wLvH_bd (wNrm p0 p1 p2 p3)
  have nb := wNrm_bd p0 p1 p2 p3
  rw [show wU p0 p1 p2 p3 p0 = scaled (pt p0 p1 p2 p3) (wRs (wLvU (wNrm p0 p1 p2 p3))) (wLvH (wNrm p0 p1 p2 p3)) 4 0 from rfl, show wU p0 p1 p2 p3 p1 = scaled (pt p0 p1 p2 p3) (wRs (wLvU (wNrm p0 p1 p2 p3))) (wLvH (wNrm p0 p1 p2 p3)) 4 1 from rfl,
    show wU p0 p1 p2 p3 p2 = scaled (pt p0 p1 p2 p3) (wRs (wLvU (wNrm p0 p1 p2 p3))) (wLvH (wNrm p0 p1 p2 p3)) 4 2 from rfl, show wU p0 p1 p2 p3 p3 = scaled (pt p0 p1 p2 p3) (wRs (wLvU (wNrm p0 p1 p2 p3))) (wLvH (wNrm p0 p1 p2 p3)) 4 3 from rfl]
  obtain ⟨n, hn⟩ : ∃ n, wNrm p0 p1 p2 p3 = n := ⟨_, rfl⟩
  rw [hn] at zb hb5 nb ⊢
  obtain ⟨z, hz⟩ : ∃ z, wRs (wLvU n) = z := ⟨_, rfl⟩
  rw [hz] at zb ⊢
  obtain ⟨h, hh⟩ : ∃ h, wLvH n = h := ⟨_, rfl⟩
  rw [hh] at hb5 ⊢
  have HN := Lib.hid ((nrm_do p0 p1 p2 p3).trans hn)
  have HZ' := Lib.hid hz
  have HH := Lib.hid hh
  have HB := Lib.hid (pt_bd hp)
  clear hn hz hh hp
  obtain ⟨W, hW⟩ : ∃ W, ((w.alloc (.cells #[.iface 45 (.agg #[])] 38)).alloc (.cells #[.int .i32 p0, .int .i32 p1, .int .i32 p2, .int .i32 p3] 22)).alloc (.cells #[.int .i32 0, .int .i32 0, .int .i32 0, .int .i32 0] 22) = W := ⟨_, rfl⟩
  have hbW : Below w.heap.size w W := by rw [← hW]; exact (((Below.refl w.heap.size w).alloc (by exact Nat.le_refl _) _).alloc (by simp; try omega) _).alloc (by simp; try omega) _
  have hzW : w.heap.size + 1 + 1 ≤ W.heap.size := by rw [← hW]; simp
  have c00 : W.cell? ⟨w.heap.size, 0, none⟩ = some (.iface 45 (.agg #[])) := by subst hW; go_cell
  have c10 : W.cell? ⟨w.heap.size + 1, 0, none⟩ = some (.int .i32 p0) := by subst hW; go_cell
  have c11 : W.cell? ⟨w.heap.size + 1, 1, none⟩ = some (.int .i32 p1) := by subst hW; go_cell
  have c12 : W.cell? ⟨w.heap.size + 1, 2, none⟩ = some (.int .i32 p2) := by subst hW; go_cell
  have c13 : W.cell? ⟨w.heap.size + 1, 3, none⟩ = some (.int .i32 p3) := by subst hW; go_cell
  have HF := Lib.hid (show ∀ w', Below (w.heap.size + 1 + 1) W w' → (w'.cell? ⟨w.heap.size, 0, none⟩ = some (.iface 45 (.agg #[])) ∧ w'.cell? ⟨w.heap.size + 1, 0, none⟩ = some (.int .i32 p0) ∧ w'.cell? ⟨w.heap.size + 1, 1, none⟩ = some (.int .i32 p1) ∧ w'.cell? ⟨w.heap.size + 1, 2, none⟩ = some (.int .i32 p2) ∧ w'.cell? ⟨w.heap.size + 1, 3, none⟩ = some (.int .i32 p3)) from fun w' h => ⟨(h.cell (p := ⟨w.heap.size, 0, none⟩) (by simp; try omega)).trans c00, (h.cell (p := ⟨w.heap.size + 1, 0, none⟩) (by simp; try omega)).trans c10, (h.cell (p := ⟨w.heap.size + 1, 1, none⟩) (by simp; try omega)).trans c11, (h.cell (p := ⟨w.heap.size + 1, 2, none⟩) (by simp; try omega)).trans c12, (h.cell (p := ⟨w.heap.size + 1, 3, none⟩) (by simp; try omega)).trans c13⟩)
  have hR : FourAt W (w.heap.size + 1 + 1) (pt 0 0 0 0) ∧ 0 ≤ w.heap.size + 1 + 1 ∧ w.heap.size + 1 + 1 < W.heap.size := by
    rw [← hW]; exact ⟨by simpa using FourAt.new ((w.alloc (.cells #[.iface 45 (.agg #[])] 38)).alloc (.cells #[.int .i32 p0, .int .i32 p1, .int .i32 p2, .int .i32 p3] 22)) 0 0 0 0 22, Nat.zero_le _, by simp⟩
  have hC : FourAt W (w.heap.size + 1) (pt p0 p1 p2 p3) := by rw [← hW]; exact FourAt.keep (n := (w.alloc (.cells #[.iface 45 (.agg #[])] 38)).heap.size + 1) (by simpa using FourAt.new (w.alloc (.cells #[.iface 45 (.agg #[])] 38)) p0 p1 p2 p3 22) ((Below.refl _ _).alloc (by simp) _) (by simp)
  have HC := Lib.hid hC
  clear hC
  have HW := Lib.hid hW
  have HZ := Lib.hid hzW
  clear hW hzW c00 c10 c11 c12 c13
  go_enter Try.func15, Try.ntmps15
  go_wp2
  rw [HW.out]
  replace hR := drew4 hR
  go_region_held3 (fun w' => (w'.cell? ⟨w.heap.size, 0, none⟩ = some (.iface 45 (.agg #[])) ∧ w'.cell? ⟨w.heap.size + 1, 0, none⟩ = some (.int .i32 p0) ∧ w'.cell? ⟨w.heap.size + 1, 1, none⟩ = some (.int .i32 p1) ∧ w'.cell? ⟨w.heap.size + 1, 2, none⟩ = some (.int .i32 p2) ∧ w'.cell? ⟨w.heap.size + 1, 3, none⟩ = some (.int .i32 p3)) ∧ Below (w.heap.size + 1 + 1) W w' ∧ w.heap.size + 1 + 1 ≤ w'.heap.size)
    (first | with_reducible assumption | with_reducible exact Sall HF.out hS _ | with_reducible exact Sdrew HF.out HZ.out)
    (first
      | (go_at_call 14; with_reducible refine (keepG4 HF.out (mNorm_v p0 p1 p2 p3 n _ bp0 Bp0 bp1 Bp1 bp2 Bp2 bp3 Bp3 HN.out) (by assumption)).mono ?_; rintro e w1 ⟨rfl, hS, hq⟩; replace hR := keep4 hR hq)
      | (go_at_call 22; with_reducible refine (keepG4 HF.out (mRsqrt_v n z h _ nb.1 nb.2 HZ'.out HH.out) (by assumption)).mono ?_; rintro e w1 ⟨rfl, hS, hq⟩; replace hR := keep4 hR hq))
  have hC1 := HC.out.keep hS.2.1 (by omega)
  have c0 := hS.1.1
  have c10 := hS.1.2.1
  have c11 := hS.1.2.2.1
  have c12 := hS.1.2.2.2.1
  have c13 := hS.1.2.2.2.2
  have hbw := hbW.trans (hS.2.1.mono (by omega))
  have hz1 := hR.2.2
  have hR1 := hR.1
  clear hR hS
  go_wp2
  go_loopw [19] (fun i wr => ∃ k : Nat, k ≤ 4 ∧ i = .int .i64 k ∧ FourAt wr (w.heap.size + 1) (scaled (pt p0 p1 p2 p3) z h k) ∧ FourAt wr (w.heap.size + 1 + 1) (pt 0 0 0 0) ∧ wr.cell? ⟨w.heap.size, 0, none⟩ = some (.iface 45 (.agg #[])) ∧ Below w.heap.size w wr ∧ w.heap.size + 1 + 1 < wr.heap.size) (fun i _ => 4 - (intOf i).toNat)
  case atStart => exact ⟨0, by omega, rfl, by rw [scaled_0]; exact hC1, hR1, c0, hbw, hz1⟩
  case round =>
    clear c0 c10 c11 c12 c13 hC1 hR1 hbw hz1
    obtain ⟨k, hk, rfl, hf, hr, hc, hb, hs⟩ := hrel
    have hs0 : w.heap.size < wr.heap.size := by omega
    by_cases hlt : k < 4
    · have HS := Lib.hid (scaled_next (pt p0 p1 p2 p3) z h k)
      have HF2 := Lib.hid hf
      have HR2 := Lib.hid hr
      clear hf hr
      have hk4 : k = 0 ∨ k = 1 ∨ k = 2 ∨ k = 3 := by omega
      rcases hk4 with rfl | rfl | rfl | rfl
      · have hI := index4_0 p0 p1 p2 p3 wr
        go_wp2_with (go_at_call 23; refine (mScale_v p0 z h (wScale p0 z h) _ bp0 Bp0 zb.1 zb.2 (by omega) (by omega) rfl).mono ?_; rintro e w3 ⟨rfl, hb3⟩; have hf3 := HF2.out.keep hb3 (by omega); have c3 := hf3.c 0 (by decide); have z3 := hf3.z 0 (by decide))
        have hf4 := hf3.set (i := 0) (by decide) (wScale p0 z h)
        rw [show wScale p0 z h = wScale (pt p0 p1 p2 p3 0) z h from rfl, HS.out] at hf4
        have hr4 := (HR2.out.keep hb3 hs).other (B' := w.heap.size + 1) (i := 0) (by omega) (.int .i32 (wScale p0 z h))
        have hc4 := (hb3.cell (p := ⟨w.heap.size, 0, none⟩) hs0).trans hc
        have hb4 := (hb.trans (hb3.mono hb.size)).setCell (p := ⟨w.heap.size + 1, 0, none⟩) (by simp) (.int .i32 (wScale p0 z h))
        have hs4 := Nat.lt_of_lt_of_le hs hb3.size
        go_roundw
        case rel => exact ⟨0 + 1, by omega, rfl, hf4, hr4, by go_cell, hb4, by simpa using hs4⟩
        case measure => simp [intOf]
      · have hI := index4_1 p0 p1 p2 p3 wr
        go_wp2_with (go_at_call 23; refine (mScale_v p1 z h (wScale p1 z h) _ bp1 Bp1 zb.1 zb.2 (by omega) (by omega) rfl).mono ?_; rintro e w3 ⟨rfl, hb3⟩; have hf3 := HF2.out.keep hb3 (by omega); have c3 := hf3.c 1 (by decide); have z3 := hf3.z 1 (by decide))
        have hf4 := hf3.set (i := 1) (by decide) (wScale p1 z h)
        rw [show wScale p1 z h = wScale (pt p0 p1 p2 p3 1) z h from rfl, HS.out] at hf4
        have hr4 := (HR2.out.keep hb3 hs).other (B' := w.heap.size + 1) (i := 1) (by omega) (.int .i32 (wScale p1 z h))
        have hc4 := (hb3.cell (p := ⟨w.heap.size, 0, none⟩) hs0).trans hc
        have hb4 := (hb.trans (hb3.mono hb.size)).setCell (p := ⟨w.heap.size + 1, 1, none⟩) (by simp) (.int .i32 (wScale p1 z h))
        have hs4 := Nat.lt_of_lt_of_le hs hb3.size
        go_roundw
        case rel => exact ⟨1 + 1, by omega, rfl, hf4, hr4, by go_cell, hb4, by simpa using hs4⟩
        case measure => simp [intOf]
      · have hI := index4_2 p0 p1 p2 p3 wr
        go_wp2_with (go_at_call 23; refine (mScale_v p2 z h (wScale p2 z h) _ bp2 Bp2 zb.1 zb.2 (by omega) (by omega) rfl).mono ?_; rintro e w3 ⟨rfl, hb3⟩; have hf3 := HF2.out.keep hb3 (by omega); have c3 := hf3.c 2 (by decide); have z3 := hf3.z 2 (by decide))
        have hf4 := hf3.set (i := 2) (by decide) (wScale p2 z h)
        rw [show wScale p2 z h = wScale (pt p0 p1 p2 p3 2) z h from rfl, HS.out] at hf4
        have hr4 := (HR2.out.keep hb3 hs).other (B' := w.heap.size + 1) (i := 2) (by omega) (.int .i32 (wScale p2 z h))
        have hc4 := (hb3.cell (p := ⟨w.heap.size, 0, none⟩) hs0).trans hc
        have hb4 := (hb.trans (hb3.mono hb.size)).setCell (p := ⟨w.heap.size + 1, 2, none⟩) (by simp) (.int .i32 (wScale p2 z h))
        have hs4 := Nat.lt_of_lt_of_le hs hb3.size
        go_roundw
        case rel => exact ⟨2 + 1, by omega, rfl, hf4, hr4, by go_cell, hb4, by simpa using hs4⟩
        case measure => simp [intOf]
      · have hI := index4_3 p0 p1 p2 p3 wr
        go_wp2_with (go_at_call 23; refine (mScale_v p3 z h (wScale p3 z h) _ bp3 Bp3 zb.1 zb.2 (by omega) (by omega) rfl).mono ?_; rintro e w3 ⟨rfl, hb3⟩; have hf3 := HF2.out.keep hb3 (by omega); have c3 := hf3.c 3 (by decide); have z3 := hf3.z 3 (by decide))
        have hf4 := hf3.set (i := 3) (by decide) (wScale p3 z h)
        rw [show wScale p3 z h = wScale (pt p0 p1 p2 p3 3) z h from rfl, HS.out] at hf4
        have hr4 := (HR2.out.keep hb3 hs).other (B' := w.heap.size + 1) (i := 3) (by omega) (.int .i32 (wScale p3 z h))
        have hc4 := (hb3.cell (p := ⟨w.heap.size, 0, none⟩) hs0).trans hc
        have hb4 := (hb.trans (hb3.mono hb.size)).setCell (p := ⟨w.heap.size + 1, 3, none⟩) (by simp) (.int .i32 (wScale p3 z h))
        have hs4 := Nat.lt_of_lt_of_le hs hb3.size
        go_roundw
        case rel => exact ⟨3 + 1, by omega, rfl, hf4, hr4, by go_cell, hb4, by simpa using hs4⟩
        case measure => simp [intOf]
    · obtain rfl : k = 4 := by omega
      obtain ⟨u, hu⟩ : ∃ u, scaled (pt p0 p1 p2 p3) z h 4 = u := ⟨_, rfl⟩
      rw [hu] at hf
      have HU := Lib.hid hu
      clear hu
      have c0 := hf.c 0 (by decide)
      have c1 := hf.c 1 (by decide)
      have c2 := hf.c 2 (by decide)
      have c3 := hf.c 3 (by decide)
      have d0 := hr.c 0 (by decide)
      have d1 := hr.c 1 (by decide)
      have d2 := hr.c 2 (by decide)
      have d3 := hr.c 3 (by decide)
      have f0 := hr.z 0 (by decide)
      have f1 := hr.z 1 (by decide)
      have f2 := hr.z 2 (by decide)
      have f3 := hr.z 3 (by decide)
      have hn4 := F4set hr (u 0) (u 1) (u 2) (u 3)
      have hB4 := set4_below hb (B' := w.heap.size + 1 + 1) (by omega) (.int .i32 (u 0)) (.int .i32 (u 1)) (.int .i32 (u 2)) (.int .i32 (u 3))
      have HN4 := Lib.hid hn4
      clear hn4 hf hr
      go_wp2
      have hn4 := HN4.out
      generalize (((wr.setCell ⟨w.heap.size + 1 + 1, 0, none⟩ (.int .i32 (u 0))).setCell ⟨w.heap.size + 1 + 1, 1, none⟩ (.int .i32 (u 1))).setCell ⟨w.heap.size + 1 + 1, 2, none⟩ (.int .i32 (u 2))).setCell ⟨w.heap.size + 1 + 1, 3, none⟩ (.int .i32 (u 3)) = W3 at hn4 hB4 ⊢
      have p0 := hn4.c 0 (by decide)
      have p1 := hn4.c 1 (by decide)
      have p2 := hn4.c 2 (by decide)
      have p3 := hn4.c 3 (by decide)
      (try simp only [Exit.inBlock, Exit.then])
      exact bodyPost_ret (v := .agg #[.int .i32 (u 0), .int .i32 (u 1), .int .i32 (u 2), .int .i32 (u 3)]) (by simp [results, Try.results15, go_sem, pt, p0, p1, p2, p3]) rfl ⟨by rw [HU.out], hB4⟩

end Go.Proofs.Ytdphiobmjdiefaa
