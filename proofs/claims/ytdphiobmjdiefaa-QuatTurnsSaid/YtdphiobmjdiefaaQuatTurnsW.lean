/- The walk of the law QuatTurns: it returns true and writes nothing that was there. -/
import Derived.Test.YtdphiobmjdiefaaQuatK
import Derived.Test.YtdphiobmjdiefaaLoose
import Derived.RegionTactic
import Derived.Deep.RegionHeld3
namespace Go.Proofs.Ytdphiobmjdiefaa.quatTurns
open Go.RowKit Go.ChangeShapes Go.OpenShut

/-- All parts ahead of k are at most half of 1. -/
def InR (f g : Nat → Int) (k : Nat) : Prop := ∀ j, j < k → (-536870912 ≤ f j ∧ f j ≤ 536870912) ∧ (-536870912 ≤ g j ∧ g j ≤ 536870912)
theorem inR_0 (f g : Nat → Int) : InR f g 0 := fun j hj => by omega
theorem inR_succ {f g : Nat → Int} {k : Nat} (h : InR f g k) (h1 : (-536870912 ≤ f k ∧ f k ≤ 536870912) ∧ (-536870912 ≤ g k ∧ g k ≤ 536870912)) : InR f g (k + 1) := fun j hj => by
  by_cases e : j = k
  · subst e; exact h1
  · exact h j (by omega)
theorem F4oth {w : World} {B B' : Nat} {f : Nat → Int} (h : FourAt w B f) (hB : B ≠ B') (u0 u1 u2 u3 : Value) : FourAt ((((w.setCell ⟨B', 0, none⟩ u0).setCell ⟨B', 1, none⟩ u1).setCell ⟨B', 2, none⟩ u2).setCell ⟨B', 3, none⟩ u3) B f :=
  (((h.other hB u0).other hB u1).other hB u2).other hB u3
theorem SsetG {F : World → Prop} {w0 w : World} {B g : Nat} (hF : ∀ w', Below B w0 w' → F w') (h : F w ∧ Below B w0 w ∧ B ≤ w.heap.size) (hg : B ≤ g) (u0 u1 u2 u3 : Value) :
    F ((((w.setCell ⟨g, 0, none⟩ u0).setCell ⟨g, 1, none⟩ u1).setCell ⟨g, 2, none⟩ u2).setCell ⟨g, 3, none⟩ u3) ∧ Below B w0 ((((w.setCell ⟨g, 0, none⟩ u0).setCell ⟨g, 1, none⟩ u1).setCell ⟨g, 2, none⟩ u2).setCell ⟨g, 3, none⟩ u3)
      ∧ B ≤ ((((w.setCell ⟨g, 0, none⟩ u0).setCell ⟨g, 1, none⟩ u1).setCell ⟨g, 2, none⟩ u2).setCell ⟨g, 3, none⟩ u3).heap.size :=
  ⟨hF _ (set4_below h.2.1 hg _ _ _ _), set4_below h.2.1 hg _ _ _ _, by simpa using h.2.2⟩
theorem stands_four {S : World → Prop} {g : Nat} {T : TypeId} {w : World} (h : Stands S g (.cells #[.int .i32 0, .int .i32 0, .int .i32 0, .int .i32 0] T) w) : FourAt w g (pt 0 0 0 0) := by
  obtain ⟨wk, rfl, _, hb⟩ := h
  exact (FourAt.new wk 0 0 0 0 T).keep hb (by simp)
theorem stands_from {F : World → Prop} {w0 : World} {B g : Nat} {Z : Obj} {w : World} (h : Stands (fun w' => F w' ∧ Below B w0 w' ∧ B ≤ w'.heap.size) g Z w) : B ≤ g := by
  obtain ⟨wk, rfl, hs, _⟩ := h
  exact hs.2.2
theorem enter_qmul (vs : Array Value) (w : World) : (callFunc 10 vs).run Try.prog w = .ok (.enter 10 vs) w := by kernel_rfl
theorem enter_qconj (vs : Array Value) (w : World) : (callFunc 12 vs).run Try.prog w = .ok (.enter 12 vs) w := by kernel_rfl
def turnsInfos : List (Nat × Nat × Nat × Nat) := [(0, 0, 50, 4), (1, 0, 51, 8), (2, 3, 52, 1688849860263936), (3, 4, 53, 2251799813685248), (4, 0, 54, 8), (5, 24, 55, 9007199254740992), (6, 0, 56, 4), (7, 96, 57, 36028797018963968), (8, 160, 58, 90071992547409920), (9, 0, 7, 0), (10, 0, 8, 0), (11, 1807, 0, 4503599627370560), (12, 4095, 0, 144115188075856000)]
def turnsLoose : List Loose := [⟨9, 6, 23, .cells #[.int .i32 0, .int .i32 0, .int .i32 0, .int .i32 0] 23⟩, ⟨10, 7, 23, .cells #[.int .i32 0, .int .i32 0, .int .i32 0, .int .i32 0] 23⟩]
theorem all_loose {p : Loose → Prop} (h1 : p ⟨9, 6, 23, .cells #[.int .i32 0, .int .i32 0, .int .i32 0, .int .i32 0] 23⟩) (h2 : p ⟨10, 7, 23, .cells #[.int .i32 0, .int .i32 0, .int .i32 0, .int .i32 0] 23⟩) : ∀ x ∈ turnsLoose, p x := by
  intro x hx
  rcases List.mem_cons.1 hx with rfl | hx
  · exact h1
  · obtain rfl := List.mem_singleton.1 hx; exact h2
theorem mem_9 : (⟨9, 6, 23, .cells #[.int .i32 0, .int .i32 0, .int .i32 0, .int .i32 0] 23⟩ : Loose) ∈ turnsLoose := List.mem_cons_self
theorem mem_10 : (⟨10, 7, 23, .cells #[.int .i32 0, .int .i32 0, .int .i32 0, .int .i32 0] 23⟩ : Loose) ∈ turnsLoose := List.mem_cons_of_mem _ List.mem_cons_self

set_option maxHeartbeats 16000000 in
theorem walk (p0 p1 p2 p3 q0 q1 q2 q3 : Int) (fp0 : (Lit.int .i32 p0).wf = true) (fp1 : (Lit.int .i32 p1).wf = true) (fp2 : (Lit.int .i32 p2).wf = true) (fp3 : (Lit.int .i32 p3).wf = true) (fq0 : (Lit.int .i32 q0).wf = true) (fq1 : (Lit.int .i32 q1).wf = true) (fq2 : (Lit.int .i32 q2).wf = true) (fq3 : (Lit.int .i32 q3).wf = true) (w : World) :
    Calls Try.prog 5 #[.agg #[.int .i32 p0, .int .i32 p1, .int .i32 p2, .int .i32 p3], .agg #[.int .i32 q0, .int .i32 q1, .int .i32 q2, .int .i32 q3]] w fun e w' => e = .returned (.bool true) ∧ Below w.heap.size w w' := by
  have bp0 := bounds_i32 fp0
  have bp1 := bounds_i32 fp1
  have bp2 := bounds_i32 fp2
  have bp3 := bounds_i32 fp3
  have bq0 := bounds_i32 fq0
  have bq1 := bounds_i32 fq1
  have bq2 := bounds_i32 fq2
  have bq3 := bounds_i32 fq3
  have hp : Wd4 p0 p1 p2 p3 := ⟨bp0, bp1, bp2, bp3⟩
  have hq : Wd4 q0 q1 q2 q3 := ⟨bq0, bq1, bq2, bq3⟩
  clear fp0 fp1 fp2 fp3 fq0 fq1 fq2 fq3 bp0 bp1 bp2 bp3 bq0 bq1 bq2 bq3
  obtain ⟨W, hW⟩ : ∃ W, (w.alloc (.cells #[.int .i32 p0, .int .i32 p1, .int .i32 p2, .int .i32 p3] 23)).alloc (.cells #[.int .i32 q0, .int .i32 q1, .int .i32 q2, .int .i32 q3] 23) = W := ⟨_, rfl⟩
  have hbW : Below w.heap.size w W := by rw [← hW]; exact below2 (Below.refl _ _) (Nat.le_refl _) _ _
  have z1 : w.heap.size + 1 < W.heap.size := by rw [← hW]; simp
  have z0 : w.heap.size < W.heap.size := by omega
  have c00 : W.cell? ⟨w.heap.size, 0, none⟩ = some (.int .i32 p0) := by subst hW; go_cell
  have c01 : W.cell? ⟨w.heap.size, 1, none⟩ = some (.int .i32 p1) := by subst hW; go_cell
  have c02 : W.cell? ⟨w.heap.size, 2, none⟩ = some (.int .i32 p2) := by subst hW; go_cell
  have c03 : W.cell? ⟨w.heap.size, 3, none⟩ = some (.int .i32 p3) := by subst hW; go_cell
  have c10 : W.cell? ⟨w.heap.size + 1, 0, none⟩ = some (.int .i32 q0) := by subst hW; go_cell
  have c11 : W.cell? ⟨w.heap.size + 1, 1, none⟩ = some (.int .i32 q1) := by subst hW; go_cell
  have c12 : W.cell? ⟨w.heap.size + 1, 2, none⟩ = some (.int .i32 q2) := by subst hW; go_cell
  have c13 : W.cell? ⟨w.heap.size + 1, 3, none⟩ = some (.int .i32 q3) := by subst hW; go_cell
  have HF := Lib.hid (show ∀ w', Below W.heap.size W w' → (w'.cell? ⟨w.heap.size, 0, none⟩ = some (.int .i32 p0) ∧ w'.cell? ⟨w.heap.size, 1, none⟩ = some (.int .i32 p1) ∧ w'.cell? ⟨w.heap.size, 2, none⟩ = some (.int .i32 p2) ∧ w'.cell? ⟨w.heap.size, 3, none⟩ = some (.int .i32 p3) ∧ w'.cell? ⟨w.heap.size + 1, 0, none⟩ = some (.int .i32 q0) ∧ w'.cell? ⟨w.heap.size + 1, 1, none⟩ = some (.int .i32 q1) ∧ w'.cell? ⟨w.heap.size + 1, 2, none⟩ = some (.int .i32 q2) ∧ w'.cell? ⟨w.heap.size + 1, 3, none⟩ = some (.int .i32 q3)) from fun w' h => ⟨(h.cell (p := ⟨w.heap.size, 0, none⟩) z0).trans c00, (h.cell (p := ⟨w.heap.size, 1, none⟩) z0).trans c01, (h.cell (p := ⟨w.heap.size, 2, none⟩) z0).trans c02, (h.cell (p := ⟨w.heap.size, 3, none⟩) z0).trans c03, (h.cell (p := ⟨w.heap.size + 1, 0, none⟩) z1).trans c10, (h.cell (p := ⟨w.heap.size + 1, 1, none⟩) z1).trans c11, (h.cell (p := ⟨w.heap.size + 1, 2, none⟩) z1).trans c12, (h.cell (p := ⟨w.heap.size + 1, 3, none⟩) z1).trans c13⟩)
  have hfp : FourAt W w.heap.size (pt p0 p1 p2 p3) := by rw [← hW]; exact (FourAt.new w p0 p1 p2 p3 _).keep ((Below.refl _ _).alloc (Nat.le_refl _) _) (by simp)
  have hfq : FourAt W (w.heap.size + 1) (pt q0 q1 q2 q3) := by rw [← hW]; simpa using FourAt.new (w.alloc (.cells #[.int .i32 p0, .int .i32 p1, .int .i32 p2, .int .i32 p3] 23)) q0 q1 q2 q3 23
  have HW := Lib.hid hW
  have HP := Lib.hid hfp
  have HQ := Lib.hid hfq
  clear hfp hfq
  clear hW c00 c01 c02 c03 c10 c11 c12 c13
  have hEq := eq_quat
  have PB := Lib.hid (pt_bd hp)
  have QB := Lib.hid (pt_bd hq)
  obtain ⟨f, hf⟩ : ∃ f, f = pt p0 p1 p2 p3 := ⟨_, rfl⟩
  obtain ⟨g, hg⟩ : ∃ g, g = pt q0 q1 q2 q3 := ⟨_, rfl⟩
  have ef := Lib.hid (show f 0 = p0 ∧ f 1 = p1 ∧ f 2 = p2 ∧ f 3 = p3 from by rw [hf]; exact ⟨rfl, rfl, rfl, rfl⟩)
  have eg := Lib.hid (show g 0 = q0 ∧ g 1 = q1 ∧ g 2 = q2 ∧ g 3 = q3 from by rw [hg]; exact ⟨rfl, rfl, rfl, rfl⟩)
  rw [← hf] at HP PB
  rw [← hg] at HQ QB
  clear hf hg
  go_enter Try.func5, Try.ntmps5
  go_wp2
  rw [HW.out]
  go_loop [5] (fun i => ∃ k : Nat, k ≤ 4 ∧ i = .int .i64 k ∧ InR f g k) (fun i => 4 - (intOf i).toNat)
  case atStart => exact ⟨0, by omega, rfl, inR_0 f g⟩
  case round =>
    obtain ⟨k, hk, rfl, hR⟩ := hrel
    have HR := Lib.hid hR
    clear hR
    by_cases hlt : k < 4
    · have hlt' : (k : Int) < 4 := by omega
      have ck := HP.out.c k hlt
      have dk := HQ.out.c k hlt
      have HS := Lib.hid (fun h => inR_succ (f := f) (g := g) HR.out h)
      generalize f k = x at *
      generalize g k = y at *
      rcases (show x < -536870912 ∨ (¬ x < -536870912 ∧ 536870912 < x) ∨ (¬ x < -536870912 ∧ ¬ 536870912 < x ∧ y < -536870912) ∨ (¬ x < -536870912 ∧ ¬ 536870912 < x ∧ ¬ y < -536870912 ∧ 536870912 < y) ∨ (¬ x < -536870912 ∧ ¬ 536870912 < x ∧ ¬ y < -536870912 ∧ ¬ 536870912 < y) by omega) with h | ⟨h, h2⟩ | ⟨h, h2, h3⟩ | ⟨h, h2, h3, h4⟩ | ⟨h, h2, h3, h4⟩
      rotate_left 4
      · have hi := Lib.hid (HS.out ⟨⟨by omega, by omega⟩, ⟨by omega, by omega⟩⟩)
        go_wp2
        go_round
        case rel => exact ⟨k + 1, by omega, by go_num, hi.out⟩
        case measure => simp [intOf]; omega
      all_goals
        go_wp2_with (go_at_call 7; refine (quatAwake_is _).mono ?_; rintro e w1 ⟨rfl, hb1⟩)
        go_ret
        exact ⟨rfl, hbW.trans (hb1.mono (Nat.le_of_lt z0))⟩
    · obtain rfl : k = 4 := by omega
      have r0 := HR.out 0 (by decide)
      have r1 := HR.out 1 (by decide)
      have r2 := HR.out 2 (by decide)
      have r3 := HR.out 3 (by decide)
      rw [ef.out.1, eg.out.1] at r0
      rw [ef.out.2.1, eg.out.2.1] at r1
      rw [ef.out.2.2.1, eg.out.2.2.1] at r2
      rw [ef.out.2.2.2, eg.out.2.2.2] at r3
      have T := Lib.hid (turns_true r0.1 r1.1 r2.1 r3.1 r0.2 r1.2 r2.2 r3.2)
      have cp : Wd4 p0 (-p1) (-p2) (-p3) := ⟨by omega, by omega, by omega, by omega⟩
      have cq : Wd4 q0 (-q1) (-q2) (-q3) := ⟨by omega, by omega, by omega, by omega⟩
      have e1 : ∀ a : Int, -536870912 ≤ a ∧ a ≤ 536870912 → wCut (-a) = -a ∧ wCut (-(-a)) = a := fun a ha => ⟨cut_neg (by omega) (by omega), by rw [cut_neg (by omega) (by omega)]; omega⟩
      have E1 := Lib.hid (e1 p1 r1.1)
      have E2 := Lib.hid (e1 p2 r2.1)
      have E3 := Lib.hid (e1 p3 r3.1)
      have G1 := Lib.hid (e1 q1 r1.2)
      have G2 := Lib.hid (e1 q2 r2.2)
      have G3 := Lib.hid (e1 q3 r3.2)
      have NC := Lib.hid (nrm_conj p0 p1 p2 p3)
      obtain ⟨n, hn⟩ : ∃ n, wNrm p0 p1 p2 p3 = n := ⟨_, rfl⟩
      rw [hn] at NC
      have NN := Lib.hid hn
      clear hn e1 r0 r1 r2 r3
      go_wp2
      go_region_held3 (fun w' => (w'.cell? ⟨w.heap.size, 0, none⟩ = some (.int .i32 p0) ∧ w'.cell? ⟨w.heap.size, 1, none⟩ = some (.int .i32 p1) ∧ w'.cell? ⟨w.heap.size, 2, none⟩ = some (.int .i32 p2) ∧ w'.cell? ⟨w.heap.size, 3, none⟩ = some (.int .i32 p3) ∧ w'.cell? ⟨w.heap.size + 1, 0, none⟩ = some (.int .i32 q0) ∧ w'.cell? ⟨w.heap.size + 1, 1, none⟩ = some (.int .i32 q1) ∧ w'.cell? ⟨w.heap.size + 1, 2, none⟩ = some (.int .i32 q2) ∧ w'.cell? ⟨w.heap.size + 1, 3, none⟩ = some (.int .i32 q3)) ∧ Below W.heap.size W w' ∧ W.heap.size ≤ w'.heap.size)
        (first | with_reducible assumption | exact ⟨HF.out _ (Below.refl _ _).drew, (Below.refl _ _).drew, by simp⟩)
        (first
          | (go_at_call 12; with_reducible refine (keepF HF.out (conj_v p0 p1 p2 p3 (-p1) (-p2) (-p3) _ hp E1.out.1 E2.out.1 E3.out.1) (by assumption)).mono ?_; rintro e w1 ⟨rfl, hS⟩)
          | (go_at_call 12; with_reducible refine (keepF HF.out (conj_v p0 (-p1) (-p2) (-p3) p1 p2 p3 _ cp E1.out.2 E2.out.2 E3.out.2) (by assumption)).mono ?_; rintro e w1 ⟨rfl, hS⟩)
          | (go_at_call 6; with_reducible refine (keepF HF.out (norm_v p0 p1 p2 p3 n _ hp NN.out) (by assumption)).mono ?_; rintro e w1 ⟨rfl, hS⟩)
          | (go_at_call 6; with_reducible refine (keepF HF.out (norm_v p0 (-p1) (-p2) (-p3) n _ cp NC.out) (by assumption)).mono ?_; rintro e w1 ⟨rfl, hS⟩))
      have hq' := hq
      obtain ⟨m0, hm0⟩ : ∃ m, wQ0 p0 p1 p2 p3 q0 q1 q2 q3 = m := ⟨_, rfl⟩
      obtain ⟨m1, hm1⟩ : ∃ m, wQ1 p0 p1 p2 p3 q0 q1 q2 q3 = m := ⟨_, rfl⟩
      obtain ⟨m2, hm2⟩ : ∃ m, wQ2 p0 p1 p2 p3 q0 q1 q2 q3 = m := ⟨_, rfl⟩
      obtain ⟨m3, hm3⟩ : ∃ m, wQ3 p0 p1 p2 p3 q0 q1 q2 q3 = m := ⟨_, rfl⟩
      obtain ⟨y0, hy0⟩ : ∃ m, wQ0 q0 (-q1) (-q2) (-q3) p0 (-p1) (-p2) (-p3) = m := ⟨_, rfl⟩
      obtain ⟨y1, hy1⟩ : ∃ m, wQ1 q0 (-q1) (-q2) (-q3) p0 (-p1) (-p2) (-p3) = m := ⟨_, rfl⟩
      obtain ⟨y2, hy2⟩ : ∃ m, wQ2 q0 (-q1) (-q2) (-q3) p0 (-p1) (-p2) (-p3) = m := ⟨_, rfl⟩
      obtain ⟨y3, hy3⟩ : ∃ m, wQ3 q0 (-q1) (-q2) (-q3) p0 (-p1) (-p2) (-p3) = m := ⟨_, rfl⟩
      have T' := T.out
      rw [hm0, hm1, hm2, hm3, hy0, hy1, hy2, hy3] at T'
      have hm : Wd4 m0 m1 m2 m3 := ⟨by rw [← hm0]; exact wCut_bd _, by rw [← hm1]; exact wCut_bd _, by rw [← hm2]; exact wCut_bd _, by rw [← hm3]; exact wCut_bd _⟩
      have hy : Wd4 y0 y1 y2 y3 := ⟨by rw [← hy0]; exact wCut_bd _, by rw [← hy1]; exact wCut_bd _, by rw [← hy2]; exact wCut_bd _, by rw [← hy3]; exact wCut_bd _⟩
      obtain ⟨x1, hx1⟩ : ∃ m, wCut (-m1) = m := ⟨_, rfl⟩
      obtain ⟨x2, hx2⟩ : ∃ m, wCut (-m2) = m := ⟨_, rfl⟩
      obtain ⟨x3, hx3⟩ : ∃ m, wCut (-m3) = m := ⟨_, rfl⟩
      have d0 : -8 ≤ m0 - y0 ∧ m0 - y0 ≤ 8 := by omega
      have d1 : -8 ≤ x1 - y1 ∧ x1 - y1 ≤ 8 := by have := hm.h1; have := hy.h1; unfold wCut at hx1; omega
      have d2 : -8 ≤ x2 - y2 ∧ x2 - y2 ≤ 8 := by have := hm.h2; have := hy.h2; unfold wCut at hx2; omega
      have d3 : -8 ≤ x3 - y3 ∧ x3 - y3 ≤ 8 := by have := hm.h3; have := hy.h3; unfold wCut at hx3; omega
      have M0 := Lib.hid hm0
      have M1 := Lib.hid hm1
      have M2 := Lib.hid hm2
      have M3 := Lib.hid hm3
      have Y0 := Lib.hid hy0
      have Y1 := Lib.hid hy1
      have Y2 := Lib.hid hy2
      have Y3 := Lib.hid hy3
      have X1 := Lib.hid hx1
      have X2 := Lib.hid hx2
      have X3 := Lib.hid hx3
      clear hm0 hm1 hm2 hm3 hy0 hy1 hy2 hy3 hx1 hx2 hx3 T' hq
      go_wp2
      have hS0 := Sd HF.out hS
      refine wp_region_loose turnsInfos [(true, 0, 1), (true, 1, 3), (true, 4, 19), (true, 6, 83), (false, 2, 87), (false, 3, 95), (false, 5, 127), (false, 7, 255), (false, 8, 511)] [(false, 11, 4095), (false, 12, 8191)] turnsLoose
        (fun w' => (w'.cell? ⟨w.heap.size, 0, none⟩ = some (.int .i32 p0) ∧ w'.cell? ⟨w.heap.size, 1, none⟩ = some (.int .i32 p1) ∧ w'.cell? ⟨w.heap.size, 2, none⟩ = some (.int .i32 p2) ∧ w'.cell? ⟨w.heap.size, 3, none⟩ = some (.int .i32 p3) ∧ w'.cell? ⟨w.heap.size + 1, 0, none⟩ = some (.int .i32 q0) ∧ w'.cell? ⟨w.heap.size + 1, 1, none⟩ = some (.int .i32 q1) ∧ w'.cell? ⟨w.heap.size + 1, 2, none⟩ = some (.int .i32 q2) ∧ w'.cell? ⟨w.heap.size + 1, 3, none⟩ = some (.int .i32 q3)) ∧ Below W.heap.size W w' ∧ W.heap.size ≤ w'.heap.size) (by kernel_rfl) (by kernel_rfl) (by kernel_rfl) (by kernel_rfl) (by kernel_rfl) (by kernel_rfl)
        ⟨all_loose ⟨_, _, rfl⟩ ⟨_, _, rfl⟩, all_loose (all_loose (fun _ => rfl) (fun h => absurd h (by decide))) (all_loose (fun h => absurd h (by decide)) (fun _ => rfl)), all_loose (all_loose (fun h => absurd rfl h) (fun _ => by decide)) (all_loose (fun _ => by decide) (fun h => absurd rfl h)),
          all_loose (by intro w'; go_simp) (by intro w'; go_simp), fun w o h => Sall HF.out h o⟩ (all_loose (by simp) (by simp)) hS0 ?_
      (refine ChainU.load (v := ?_) rfl rfl ?_ ?_; rotate_left; (intro w' hw'; (try dsimp only at hw'); go_simp; try with_reducible rfl); simp only [Act.put, List.setIfInBounds_toArray, List.set_cons_zero, List.set_cons_succ])
      (refine ChainU.load (v := ?_) rfl rfl ?_ ?_; rotate_left; (intro w' hw'; (try dsimp only at hw'); go_simp; try with_reducible rfl); simp only [Act.put, List.setIfInBounds_toArray, List.set_cons_zero, List.set_cons_succ])
      (refine ChainU.load (v := ?_) rfl rfl ?_ ?_; rotate_left; (intro w' hw'; (try dsimp only at hw'); go_simp; try with_reducible rfl); simp only [Act.put, List.setIfInBounds_toArray, List.set_cons_zero, List.set_cons_succ])
      (refine ChainU.load (v := ?_) rfl rfl ?_ ?_; rotate_left; (intro w' hw'; (try dsimp only at hw'); go_simp; try with_reducible rfl); simp only [Act.put, List.setIfInBounds_toArray, List.set_cons_zero, List.set_cons_succ])
      refine ChainU.call rfl enter_qmul ?ha (fun w' hS' => keepG4 HF.out (mul_v p0 p1 p2 p3 q0 q1 q2 q3 m0 m1 m2 m3 _ hp hq' M0.out M1.out M2.out M3.out) hS') ?_
      case ha => rfl
      simp only [Act.put, List.setIfInBounds_toArray, List.set_cons_zero, List.set_cons_succ]
      refine ChainU.call rfl enter_qconj ?ha (fun w' hS' => keepG4 HF.out (conj_v m0 m1 m2 m3 x1 x2 x3 _ hm X1.out X2.out X3.out) hS') ?_
      case ha => rfl
      simp only [Act.put, List.setIfInBounds_toArray, List.set_cons_zero, List.set_cons_succ]
      refine ChainU.call rfl enter_qconj ?ha (fun w' hS' => keepG4 HF.out (conj_v q0 q1 q2 q3 (-q1) (-q2) (-q3) _ hq' G1.out.1 G2.out.1 G3.out.1) hS') ?_
      case ha => rfl
      simp only [Act.put, List.setIfInBounds_toArray, List.set_cons_zero, List.set_cons_succ]
      refine ChainU.call rfl enter_qconj ?ha (fun w' hS' => keepG4 HF.out (conj_v p0 p1 p2 p3 (-p1) (-p2) (-p3) _ hp E1.out.1 E2.out.1 E3.out.1) hS') ?_
      case ha => rfl
      simp only [Act.put, List.setIfInBounds_toArray, List.set_cons_zero, List.set_cons_succ]
      refine ChainU.call rfl enter_qmul ?ha (fun w' hS' => keepG4 HF.out (mul_v q0 (-q1) (-q2) (-q3) p0 (-p1) (-p2) (-p3) y0 y1 y2 y3 _ cq cp Y0.out Y1.out Y2.out Y3.out) hS') ?_
      case ha => rfl
      simp only [Act.put, List.setIfInBounds_toArray, List.set_cons_zero, List.set_cons_succ]
      refine ChainU.done ?_
      intro a' wz g hA hM hSz
      have h6p := hM.ptr _ mem_9 (by simp)
      have h7p := hM.ptr _ mem_10 (by simp)
      have h6z := stands_four (hM.stands _ mem_9 (by simp))
      have h7z := stands_four (hM.stands _ mem_10 (by simp))
      have h6B := stands_from (hM.stands _ mem_9 (by simp))
      have h7B := stands_from (hM.stands _ mem_10 (by simp))
      have hne : g 9 ≠ g 10 := hM.ne _ mem_9 _ mem_10 (by simp) (by simp) (by decide)
      rw [alike_two hA h6p h7p]
      clear hA hM h6p h7p
      simp only at h6z h7z h6B h7B ⊢
      generalize g 9 = g6 at *
      generalize g 10 = g7 at *
      simp only [Act.put, List.setIfInBounds_toArray, List.set_cons_zero, List.set_cons_succ]
      have d0 := h6z.c 0 (by decide)
      have d1 := h6z.c 1 (by decide)
      have d2 := h6z.c 2 (by decide)
      have d3 := h6z.c 3 (by decide)
      have f0 := h6z.z 0 (by decide)
      have f1 := h6z.z 1 (by decide)
      have f2 := h6z.z 2 (by decide)
      have f3 := h6z.z 3 (by decide)
      refine SeqH.step rfl rfl (fun K hK => ?_)
      go_simp
      refine hK _ _ (SsetG HF.out hSz h6B _ _ _ _) ?_
      clear hK K d0 d1 d2 d3 f0 f1 f2 f3
      have n6 := F4set h6z m0 x1 x2 x3
      have n7 := F4oth h7z (Ne.symm hne) (.int .i32 m0) (.int .i32 x1) (.int .i32 x2) (.int .i32 x3)
      have hS6 := SsetG HF.out hSz h6B (.int .i32 m0) (.int .i32 x1) (.int .i32 x2) (.int .i32 x3)
      generalize (((wz.setCell ⟨g6, 0, none⟩ (.int .i32 m0)).setCell ⟨g6, 1, none⟩ (.int .i32 x1)).setCell ⟨g6, 2, none⟩ (.int .i32 x2)).setCell ⟨g6, 3, none⟩ (.int .i32 x3) = wy at n6 n7 hS6 ⊢
      have d0 := n7.c 0 (by decide)
      have d1 := n7.c 1 (by decide)
      have d2 := n7.c 2 (by decide)
      have d3 := n7.c 3 (by decide)
      have f0 := n7.z 0 (by decide)
      have f1 := n7.z 1 (by decide)
      have f2 := n7.z 2 (by decide)
      have f3 := n7.z 3 (by decide)
      (try simp only [Act.put])
      refine SeqH.step rfl rfl (fun K hK => ?_)
      go_simp
      refine hK _ _ (SsetG HF.out hS6 h7B _ _ _ _) ?_
      clear hK K d0 d1 d2 d3 f0 f1 f2 f3
      have h7 := F4set n7 y0 y1 y2 y3
      have h6 := F4oth n6 hne (.int .i32 y0) (.int .i32 y1) (.int .i32 y2) (.int .i32 y3)
      have hS7 := SsetG HF.out hS6 h7B (.int .i32 y0) (.int .i32 y1) (.int .i32 y2) (.int .i32 y3)
      generalize (((wy.setCell ⟨g7, 0, none⟩ (.int .i32 y0)).setCell ⟨g7, 1, none⟩ (.int .i32 y1)).setCell ⟨g7, 2, none⟩ (.int .i32 y2)).setCell ⟨g7, 3, none⟩ (.int .i32 y3) = wc at h6 h7 hS7 ⊢
      have hbx : Below w.heap.size w wc := hbW.trans (hS7.2.1.mono (Nat.le_of_lt z0))
      refine SeqH.done (NoPanic.normal ?_)
      clear h6z h7z h6B h7B hSz hS6 hS7 n6 n7 hS hS0
      have dd : ∀ k, k < 4 → -8 ≤ pt m0 x1 x2 x3 k - pt y0 y1 y2 y3 k ∧ pt m0 x1 x2 x3 k - pt y0 y1 y2 y3 k ≤ 8 := by
        intro k hk
        match k, hk with
        | 0, _ => exact d0
        | 1, _ => exact d1
        | 2, _ => exact d2
        | 3, _ => exact d3
      have bx : ∀ k, -2147483648 ≤ pt m0 x1 x2 x3 k ∧ pt m0 x1 x2 x3 k ≤ 2147483647 := pt_bd ⟨hm.h0, by rw [← X1.out]; exact wCut_bd _, by rw [← X2.out]; exact wCut_bd _, by rw [← X3.out]; exact wCut_bd _⟩
      have bY := pt_bd hy
      generalize pt m0 x1 x2 x3 = X at *
      generalize pt y0 y1 y2 y3 = Y at *
      have H6 := Lib.hid h6
      have H7 := Lib.hid h7
      have DD := Lib.hid dd
      have BX := Lib.hid bx
      have BY := Lib.hid bY
      clear h6 h7 dd bx bY
      go_wp2
      go_loopw [8] (fun i wr => ∃ k d : Nat, k ≤ 4 ∧ i = .int .i64 k ∧ wr = wc.drewN d) (fun i _ => 4 - (intOf i).toNat)
      case atStart => exact ⟨0, 0, by omega, rfl, rfl⟩
      case round =>
        obtain ⟨k, d, hk, rfl, rfl⟩ := hrel
        by_cases hlt : k < 4
        · have hlt' : (k : Int) < 4 := by omega
          have d1 := DD.out k hlt
          have b1 := BX.out k
          have b2 := BY.out k
          have c6 : (wc.drewN d).cell? ⟨g6, k, none⟩ = some (.int .i32 (X k)) := H6.out.c k hlt
          have c7 : (wc.drewN d).cell? ⟨g7, k, none⟩ = some (.int .i32 (Y k)) := H7.out.c k hlt
          generalize hV : wc.drewN d = V at c6 c7 ⊢
          have HV := Lib.hid hV
          clear hV
          generalize X k = xa at *
          generalize Y k = ya at *
          have w1' : IntKind.i32.wrap (xa - ya) = xa - ya := IntWalk.i32_in _ (by omega)
          have w2' : IntKind.i32.wrap (ya - xa) = ya - xa := IntWalk.i32_in _ (by omega)
          have g1' : decide (8 < xa - ya) = false := by simp; omega
          have g2' : decide (8 < ya - xa) = false := by simp; omega
          go_wp2
          go_region
          go_wp2
          go_roundw
          case rel => exact ⟨k + 1, d + 1, by omega, by go_num, by rw [← HV.out]; rfl⟩
          case measure => simp [intOf]; omega
        · obtain rfl : k = 4 := by omega
          go_wp2_with (go_at_call 7; refine (quatAwake_is _).mono ?_; rintro e w9 ⟨rfl, hb9⟩)
          go_ret
          exact ⟨rfl, (below_drewN hbx d).trans (hb9.mono (below_drewN hbx d).size)⟩
end Go.Proofs.Ytdphiobmjdiefaa.quatTurns
