/- Layer 9's steps upon package mill's mill of words: waves. Conditions: the numbers are of the kinds of the parameters. -/
import Derived.Test.YtmlofggohkcjnaaMillX
import Derived.Test.YtmlofggohkcjnaaNum
namespace Go.Proofs.Ytmlofggohkcjnaa
open Go.RowKit

set_option maxHeartbeats 4000000 in
theorem mWave_v (a ys xs : Int) (w : World) (a1 : -2147483648 ≤ a) (a2 : a ≤ 2147483647) (hys : wWvY a = ys) (hxs : wWvX a = xs) :
    Calls Try.prog 16 #[.agg #[.iface 39 (.agg #[])], .int .i32 a] w fun e w' => e = .returned (.tuple #[.int .i32 ys, .int .i32 xs]) ∧ Below w.heap.size w w' := by
  have hb := fun o => ((Below.refl w.heap.size w).alloc (Nat.le_refl _) o)
  have ab : 0 ≤ wAbs a ∧ wAbs a ≤ 2147483647 := by unfold wAbs wCut; omega
  have VA := Lib.hid (show wDo 26 a 0 = wAbs a from do_one (by decide) (by decide))
  have VS := Lib.hid (show wDo 28 a 0 = wSign a from do_one (by decide) (by decide))
  have sb := wSign_bd a
  have E1 := wvB_mill a1 a2
  have E2 := (wvX_mill a1 a2).trans hxs
  have mb := wMask_bd (wLess 843314857 (wAbs a))
  obtain ⟨m, hm⟩ : ∃ m, wMask (wLess 843314857 (wAbs a)) = m := ⟨_, rfl⟩
  rw [hm] at E1 E2 mb
  have fb := wFlip_bd 1686629713 (wSign a)
  obtain ⟨f, hf⟩ : ∃ f, wFlip 1686629713 (wSign a) = f := ⟨_, rfl⟩
  rw [hf] at E1 fb
  have HM := Lib.hid hm
  have HF := Lib.hid hf
  clear hm hf
  generalize wAbs a = aa at *
  generalize wSign a = s at *
  have bb := wLeft_bd f a m
  obtain ⟨b, hb'⟩ : ∃ b, wWvB a = b := ⟨_, rfl⟩
  have Y1 : (uN b 28).2.1 = ys := by rw [← hb']; exact hys
  rw [hb'] at E1 E2
  rw [E1] at bb
  have HB := Lib.hid E1
  have ub := uN_bd b bb 28
  obtain ⟨u, hu⟩ : ∃ u, uN b 28 = u := ⟨_, rfl⟩
  rw [hu] at E2 Y1 ub
  obtain ⟨X, Y, Z⟩ := u
  simp only at E2 Y1 ub
  obtain ⟨ub, _, _⟩ := ub
  have HU := Lib.hid ((uN_mill b 28).trans hu)
  have HX := Lib.hid E2
  subst Y1
  clear hys hxs E1 E2 hb' hu
  have g1 : w.heap.size + 1 ≤ w.heap.size + 1 := Nat.le_refl _
  go_enter Try.func16, Try.ntmps16
  go_wp2
  go_region_held3 (fun w' => w'.cell? ⟨w.heap.size, 0, none⟩ = some (.iface 39 (.agg #[])) ∧ Below w.heap.size w w' ∧ w.heap.size + 1 ≤ w'.heap.size)
    (first | with_reducible assumption | exact ⟨by go_cell, (hb _).drew, by simp⟩ | exact keepSd hS)
    (first
      | (go_at_call 46; with_reducible refine (keepS (words_word _ _) (by assumption)).mono ?_; rintro e w1 ⟨rfl, hS⟩)
      | (go_at_call 44; with_reducible refine (keepS (words_one 26 a aa _ a1 a2 VA.out) (by assumption)).mono ?_; rintro e w1 ⟨rfl, hS⟩)
      | (go_at_call 21; with_reducible refine (keepS (less_v 843314857 aa m _ (by decide) (by decide) (by omega) (by omega) HM.out) (by assumption)).mono ?_; rintro e w1 ⟨rfl, hS⟩))
  go_wp2
  go_region_held3 (fun w' => w'.cell? ⟨w.heap.size, 0, none⟩ = some (.iface 39 (.agg #[])) ∧ Below w.heap.size w w' ∧ w.heap.size + 1 ≤ w'.heap.size)
    (first | with_reducible assumption | exact keepSd hS)
    (first
      | (go_at_call 46; with_reducible refine (keepS (words_word _ _) (by assumption)).mono ?_; rintro e w1 ⟨rfl, hS⟩)
      | (go_at_call 44; with_reducible refine (keepS (words_one 28 a s _ a1 a2 VS.out) (by assumption)).mono ?_; rintro e w1 ⟨rfl, hS⟩)
      | (go_at_call 22; with_reducible refine (keepS (flip_v 1686629713 s f _ (by decide) (by decide) (by omega) (by omega) HF.out) (by assumption)).mono ?_; rintro e w1 ⟨rfl, hS⟩))
  have hC := hS.1
  go_wp2_with (go_at_call 20; with_reducible refine (keepS (left_v f a m b _ fb.1 fb.2 a1 a2 (by omega) (by omega) HB.out) hS).mono ?_; rintro e W ⟨rfl, hS⟩)
  have HSW := Lib.hid hS
  have hS := keepSd hS
  go_region_held3 (fun w' => w'.cell? ⟨w.heap.size, 0, none⟩ = some (.iface 39 (.agg #[])) ∧ Below w.heap.size w w' ∧ w.heap.size + 1 ≤ w'.heap.size)
    (first
      | with_reducible assumption
      | with_reducible exact keepSa hS _
      | with_reducible exact keepSd (keepSa HSW.out _)
      | with_reducible exact keepS3 hS HSW.out.2.2 _ _ _
      | with_reducible exact keepS3 hS hg1 _ _ _
      | with_reducible exact keepS3 hS hg2 _ _ _)
    (first
      | (go_at_call 46; with_reducible refine (keepQ (words_word 652032874 _) (by assumption)).mono ?_; rintro e w1 ⟨rfl, hS, hq⟩; have hg1 := hS.2.2; (first | (have h3 := new3_ald hq) | skip))
      | (go_at_call 46; with_reducible refine (keepQ (words_word 0 _) (by assumption)).mono ?_; rintro e w2 ⟨rfl, hS, hq⟩; have hg2 := hS.2.2; (first | (have h3 := keep3 h3 hq) | (have h3 := new3_al hq) | skip))
      | (go_at_call 23; with_reducible refine (keepQ (turned_v 2 2 2 1 652032874 0 b X Y Z rfl (fun s => s.2.2) _ leads_a (Or.inr ⟨rfl, rfl⟩) (by decide) (by decide) (by decide) (by decide) bb.1 bb.2 HU.out) (by assumption)).mono ?_; rintro e w3 ⟨rfl, hS, hq⟩
         (first | (have h3 := keep3 h3 hq; obtain ⟨⟨c0, c1, c2, f0, f1, f2⟩, hl⟩ := h3) | (have h3 := new3_al hq; obtain ⟨⟨c0, c1, c2, f0, f1, f2⟩, hl⟩ := h3) | skip)))
  all_goals (first
    | (have kw : ∃ W3, ((w3.setCell ⟨W.heap.size, 0, none⟩ (.int .i32 X)).setCell ⟨W.heap.size, 1, none⟩ (.int .i32 Y)).setCell ⟨W.heap.size, 2, none⟩ (.int .i32 Z) = W3 := ⟨_, rfl⟩
       obtain ⟨W3, hW3⟩ := kw
       rw [hW3]
       have hT3 : Three W3 W.heap.size (.int .i32 X) (.int .i32 Y) (.int .i32 Z) := by rw [← hW3]; exact Three.set ⟨c0, c1, c2, f0, f1, f2⟩ _ _ _
       have hS3 : W3.cell? ⟨w.heap.size, 0, none⟩ = some (.iface 39 (.agg #[])) ∧ Below w.heap.size w W3 ∧ w.heap.size + 1 ≤ W3.heap.size := by rw [← hW3]; exact keepS3 hS HSW.out.2.2 _ _ _
       have hg3 : W.heap.size < W3.heap.size := by rw [← hW3]; simpa using hl
       generalize W.heap.size = gd at hT3 hg3 ⊢)
    | (have kw : ∃ W3, ((w3.setCell ⟨w1.heap.size, 0, none⟩ (.int .i32 X)).setCell ⟨w1.heap.size, 1, none⟩ (.int .i32 Y)).setCell ⟨w1.heap.size, 2, none⟩ (.int .i32 Z) = W3 := ⟨_, rfl⟩
       obtain ⟨W3, hW3⟩ := kw
       rw [hW3]
       have hT3 : Three W3 w1.heap.size (.int .i32 X) (.int .i32 Y) (.int .i32 Z) := by rw [← hW3]; exact Three.set ⟨c0, c1, c2, f0, f1, f2⟩ _ _ _
       have hS3 : W3.cell? ⟨w.heap.size, 0, none⟩ = some (.iface 39 (.agg #[])) ∧ Below w.heap.size w W3 ∧ w.heap.size + 1 ≤ W3.heap.size := by rw [← hW3]; exact keepS3 hS hg1 _ _ _
       have hg3 : w1.heap.size < W3.heap.size := by rw [← hW3]; simpa using hl
       generalize w1.heap.size = gd at hT3 hg3 ⊢)
    | (have kw : ∃ W3, ((w3.setCell ⟨w2.heap.size, 0, none⟩ (.int .i32 X)).setCell ⟨w2.heap.size, 1, none⟩ (.int .i32 Y)).setCell ⟨w2.heap.size, 2, none⟩ (.int .i32 Z) = W3 := ⟨_, rfl⟩
       obtain ⟨W3, hW3⟩ := kw
       rw [hW3]
       have hT3 : Three W3 w2.heap.size (.int .i32 X) (.int .i32 Y) (.int .i32 Z) := by rw [← hW3]; exact Three.set ⟨c0, c1, c2, f0, f1, f2⟩ _ _ _
       have hS3 : W3.cell? ⟨w.heap.size, 0, none⟩ = some (.iface 39 (.agg #[])) ∧ Below w.heap.size w W3 ∧ w.heap.size + 1 ≤ W3.heap.size := by rw [← hW3]; exact keepS3 hS hg2 _ _ _
       have hg3 : w2.heap.size < W3.heap.size := by rw [← hW3]; simpa using hl
       generalize w2.heap.size = gd at hT3 hg3 ⊢)
    | (have kw : ∃ W3, w3.alloc (.cells #[.int .i32 X, .int .i32 Y, .int .i32 Z] 48) = W3 := ⟨_, rfl⟩
       obtain ⟨W3, hW3⟩ := kw
       rw [hW3]
       have hT3 : Three W3 w3.heap.size (.int .i32 X) (.int .i32 Y) (.int .i32 Z) := by rw [← hW3]; exact three_new _ _ _ _ _
       have hS3 : W3.cell? ⟨w.heap.size, 0, none⟩ = some (.iface 39 (.agg #[])) ∧ Below w.heap.size w W3 ∧ w.heap.size + 1 ≤ W3.heap.size := by rw [← hW3]; exact keepSa hS _
       have hg3 : w3.heap.size < W3.heap.size := by rw [← hW3]; simp
       generalize w3.heap.size = gd at hT3 hg3 ⊢))
  all_goals (
    obtain ⟨p0, p1, p2, -, -, -⟩ := hT3
    obtain ⟨cg, hB3, hz3⟩ := hS3
    have hF : ∀ w', Below W3.heap.size W3 w' → (w'.cell? ⟨w.heap.size, 0, none⟩ = some (.iface 39 (.agg #[])) ∧ w'.cell? ⟨gd, 0, none⟩ = some (.int .i32 X) ∧ w'.cell? ⟨gd, 1, none⟩ = some (.int .i32 Y)) :=
      fun w' h => ⟨(h.cell (p := ⟨w.heap.size, 0, none⟩) hz3).trans cg, (h.cell (p := ⟨gd, 0, none⟩) hg3).trans p0, (h.cell (p := ⟨gd, 1, none⟩) hg3).trans p1⟩
    have HF3 := Lib.hid hF
    clear hF cg p0 p1 p2
    go_wp2
    go_region_held3 (fun w' => (w'.cell? ⟨w.heap.size, 0, none⟩ = some (.iface 39 (.agg #[])) ∧ w'.cell? ⟨gd, 0, none⟩ = some (.int .i32 X) ∧ w'.cell? ⟨gd, 1, none⟩ = some (.int .i32 Y)) ∧ Below W3.heap.size W3 w' ∧ W3.heap.size ≤ w'.heap.size)
      (first | with_reducible assumption | exact ⟨HF3.out _ (Below.refl _ _).drew, (Below.refl _ _).drew, by simp⟩)
      (first
        | (go_at_call 22; with_reducible refine (keepF HF3.out (flip_v X m xs _ ub.1 ub.2 (by omega) (by omega) HX.out) (by assumption)).mono ?_; rintro e w4 ⟨rfl, hS4⟩))
    go_wp2
    go_returns
    exact ⟨rfl, hB3.trans (hS4.2.1.mono (Nat.le_of_lt hz3))⟩)
end Go.Proofs.Ytmlofggohkcjnaa
