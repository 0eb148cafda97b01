/- What the document says of layer 16: goes (what goes elsewhere). Conditions: fewer marks than a million. -/
import Derived.Test.YtcoicgkpikoibaaGreatDoorCorR
import Derived.StillTailTactics
namespace Go.Proofs.YtcoicgkpikoibaaGreatDoor
open Go.RowKit Go.IntWalk

theorem refSet_at {w : World} {base b : Nat} {F : Nat → Prop} {code : List Int} {s : Cst} (d : Nat) (x : Int) (h : RefAt w base b F code s) (hd : d < 32) :
    Calls Tryz.prog 31 #[.pointer (some ⟨b, 0, none⟩), .int .i64 (d : Int), .int .i32 x] w fun e w' => e = .returned (.tuple #[]) ∧ RefAt w' base b F code (s.put d x) ∧ Grows F w F w' := by
  obtain ⟨ca, cn, cc, ra, rn, rc, mv, h⟩ := h
  refine (refSet_is d x h hd).mono ?_
  rintro e w' ⟨rfl, h1, k⟩
  exact ⟨rfl, ⟨_, _, _, _, _, _, _, h1⟩, ⟨k.mono fun j _ e => e ▸ h.fb, fun _ h => .inl h⟩⟩
theorem RefAt.cells {w : World} {base b : Nat} {F : Nat → Prop} {code : List Int} {s : Cst} (h : RefAt w base b F code s) :
    w.cell? ⟨b, 34, none⟩ = some (.int .i64 s.pc) ∧ w.cell? ⟨b, 35, none⟩ = some (.int .i64 s.st) ∧ (∀ d, d < 32 → w.cell? ⟨b, 2 + d, none⟩ = some (.int .i32 (s.reg d))) ∧ (∀ k, w.frozen? ⟨b, k, none⟩ = false) ∧ b < w.heap.size := by
  obtain ⟨ca, cn, cc, ra, rn, rc, mv, h⟩ := h
  obtain ⟨-, -, c34, c35, -⟩ := h.cpc
  exact ⟨c34, c35, fun d hd => h.creg hd, h.free, h.blk.lt⟩
/-- An instruction's block. -/
theorem ins_new (w : World) (o d a b n : Int) : (w.alloc (.cells #[.int .i64 o, .int .i64 d, .int .i64 a, .int .i64 b, .int .i64 n] 66)).cell? ⟨w.heap.size, 0, none⟩ = some (.int .i64 o) ∧
    (w.alloc (.cells #[.int .i64 o, .int .i64 d, .int .i64 a, .int .i64 b, .int .i64 n] 66)).cell? ⟨w.heap.size, 1, none⟩ = some (.int .i64 d) ∧ (w.alloc (.cells #[.int .i64 o, .int .i64 d, .int .i64 a, .int .i64 b, .int .i64 n] 66)).cell? ⟨w.heap.size, 2, none⟩ = some (.int .i64 a) ∧
    (w.alloc (.cells #[.int .i64 o, .int .i64 d, .int .i64 a, .int .i64 b, .int .i64 n] 66)).cell? ⟨w.heap.size, 3, none⟩ = some (.int .i64 b) ∧ (w.alloc (.cells #[.int .i64 o, .int .i64 d, .int .i64 a, .int .i64 b, .int .i64 n] 66)).cell? ⟨w.heap.size, 4, none⟩ = some (.int .i64 n) := by
  have h := BlkAt.new w 66 #[.int .i64 o, .int .i64 d, .int .i64 a, .int .i64 b, .int .i64 n]
  exact ⟨h.cell 0, h.cell 1, h.cell 2, h.cell 3, h.cell 4⟩
set_option maxRecDepth 100000 in
set_option maxHeartbeats 2000000 in
theorem refGoes_is {w : World} {base b : Nat} {F : Nat → Prop} {code : List Int} {s : Cst} (o : Int) (d a q : Nat) (n : Int) (h : RefAt w base b F code s) (hm : s.mks.length < 1048575) (ho : 36 ≤ o ∧ o ≤ 41) (hd : d < 32) (ha : a < 32) (hw : w32 (s.reg a)) (p0 : 0 ≤ s.pc) (p1 : s.pc < 1048576) :
    Calls Tryz.prog 36 #[.pointer (some ⟨b, 0, none⟩), .agg #[.int .i64 o, .int .i64 (d : Int), .int .i64 (a : Int), .int .i64 (q : Int), .int .i64 n]] w fun e w' => e = .returned (.tuple #[]) ∧ RefTo w base b F code (exeS s o d a q n) w' := by
  have HN := Lib.hid (show ¬ F w.heap.size from fun f => Nat.lt_irrefl _ (h.fF _ f).2)
  have HB := Lib.hid ((Below.refl w.heap.size w).alloc (Nat.le_refl _) (.cells #[.int .i64 o, .int .i64 (d : Int), .int .i64 (a : Int), .int .i64 (q : Int), .int .i64 n] 66))
  have HR := Lib.hid (h.keep HB.out)
  have HG := Lib.hid (Grows.of_below F HB.out)
  obtain ⟨i0, i1, i2, -, i4⟩ := ins_new w o d a q n
  obtain ⟨c34, c35, cr, fr, hlt⟩ := HR.out.cells
  have cd := cr d hd
  have ca := cr a ha
  have hd' : (d : Int) < 32 := by omega
  have ha' : (a : Int) < 32 := by omega
  clear h cr fr c35 hlt
  obtain ⟨x, hx⟩ : ∃ x, s.reg d = x := ⟨_, rfl⟩
  obtain ⟨y, hy⟩ : ∃ y, s.reg a = y := ⟨_, rfl⟩
  rw [hx] at cd
  rw [hy] at ca hw
  obtain ⟨y0, y1⟩ := hw
  have HX := Lib.hid hx
  have HY := Lib.hid hy
  clear hx hy
  have HM := Lib.hid (show s.mks.length < 1048576 by omega)
  rcases (show o = 36 ∨ o = 37 ∨ o = 38 ∨ o = 39 ∨ o = 40 ∨ o = 41 by omega) with rfl | rfl | rfl | rfl | rfl | rfl
  · rw [exe_br (by omega) (by omega), go_36, HX.out, HY.out]
    clear ho
    by_cases he : x = y
    · rw [if_pos (by simpa using he)]
      have e0 : (x == y) = true := by simpa using he
      clear he
      go_enter Tryz.func36, Tryz.ntmps36
      go_wp2
      generalize hW : w.alloc _ = W at *
      go_quiet (fail)
      go_wp2_with (go_at_call 33; ((with_reducible refine (refMark_is (n) (-1) 3 (HR.out.keep (below_drewN (Below.refl _ _) _)) HM.out).mono ?_); rintro e w1 ⟨rfl, ht⟩); have HT := Lib.hid ht; clear ht)
      go_end0
      exact ⟨rfl, HT.out.after (HG.out.trans (Grows.of_below _ (below_drewN (Below.refl _ _) _)))⟩
    · rw [if_neg (by simpa using he)]
      have e0 : (x == y) = false := by simpa using he
      clear he
      go_enter Tryz.func36, Tryz.ntmps36
      go_wp2
      generalize hW : w.alloc _ = W at *
      go_quiet (fail)
      go_wp2_with (go_at_call 33; ((with_reducible refine (refMark_is (s.pc + 1) (-1) 1 (HR.out.keep (below_drewN (Below.refl _ _) _)) HM.out).mono ?_); rintro e w1 ⟨rfl, ht⟩); have HT := Lib.hid ht; clear ht)
      go_end0
      exact ⟨rfl, HT.out.after (HG.out.trans (Grows.of_below _ (below_drewN (Below.refl _ _) _)))⟩
  · rw [exe_br (by omega) (by omega), go_37, HX.out, HY.out]
    clear ho
    by_cases he : x ≠ y
    · rw [if_pos (by simpa using he)]
      have e0 : (x != y) = true := by simpa using he
      clear he
      go_enter Tryz.func36, Tryz.ntmps36
      go_wp2
      generalize hW : w.alloc _ = W at *
      go_quiet (fail)
      go_wp2_with (go_at_call 33; ((with_reducible refine (refMark_is (n) (-1) 3 (HR.out.keep (below_drewN (Below.refl _ _) _)) HM.out).mono ?_); rintro e w1 ⟨rfl, ht⟩); have HT := Lib.hid ht; clear ht)
      go_end0
      exact ⟨rfl, HT.out.after (HG.out.trans (Grows.of_below _ (below_drewN (Below.refl _ _) _)))⟩
    · rw [if_neg (by simpa using he)]
      have e0 : (x != y) = false := by simpa using he
      clear he
      go_enter Tryz.func36, Tryz.ntmps36
      go_wp2
      generalize hW : w.alloc _ = W at *
      go_quiet (fail)
      go_wp2_with (go_at_call 33; ((with_reducible refine (refMark_is (s.pc + 1) (-1) 1 (HR.out.keep (below_drewN (Below.refl _ _) _)) HM.out).mono ?_); rintro e w1 ⟨rfl, ht⟩); have HT := Lib.hid ht; clear ht)
      go_end0
      exact ⟨rfl, HT.out.after (HG.out.trans (Grows.of_below _ (below_drewN (Below.refl _ _) _)))⟩
  · rw [exe_br (by omega) (by omega), go_38, HX.out, HY.out]
    clear ho
    by_cases he : x < y
    · rw [if_pos (by simpa using he)]
      go_enter Tryz.func36, Tryz.ntmps36
      go_wp2
      generalize hW : w.alloc _ = W at *
      go_quiet (fail)
      go_wp2_with (go_at_call 33; ((with_reducible refine (refMark_is (n) (-1) 3 (HR.out.keep (below_drewN (Below.refl _ _) _)) HM.out).mono ?_); rintro e w1 ⟨rfl, ht⟩); have HT := Lib.hid ht; clear ht)
      go_end0
      exact ⟨rfl, HT.out.after (HG.out.trans (Grows.of_below _ (below_drewN (Below.refl _ _) _)))⟩
    · rw [if_neg (by simpa using he)]
      have he' : y ≤ x := by omega
      clear he
      go_enter Tryz.func36, Tryz.ntmps36
      go_wp2
      generalize hW : w.alloc _ = W at *
      go_quiet (fail)
      go_wp2_with (go_at_call 33; ((with_reducible refine (refMark_is (s.pc + 1) (-1) 1 (HR.out.keep (below_drewN (Below.refl _ _) _)) HM.out).mono ?_); rintro e w1 ⟨rfl, ht⟩); have HT := Lib.hid ht; clear ht)
      go_end0
      exact ⟨rfl, HT.out.after (HG.out.trans (Grows.of_below _ (below_drewN (Below.refl _ _) _)))⟩
  · rw [exe_39]
    clear ho
    go_enter Tryz.func36, Tryz.ntmps36
    go_wp2
    generalize hW : w.alloc _ = W at *
    go_quiet (fail)
    go_wp2_with (go_at_call 33; ((with_reducible refine (refMark_is (n) (-1) 3 (HR.out.keep (below_drewN (Below.refl _ _) _)) HM.out).mono ?_); rintro e w1 ⟨rfl, ht⟩); have HT := Lib.hid ht; clear ht)
    go_end0
    exact ⟨rfl, HT.out.after (HG.out.trans (Grows.of_below _ (below_drewN (Below.refl _ _) _)))⟩
  · rw [exe_40, show wrap32 (s.pc + 1) = s.pc + 1 by unfold wrap32; omega]
    clear ho
    go_enter Tryz.func36, Tryz.ntmps36
    go_wp2
    generalize hW : w.alloc _ = W at *
    go_quiet (fail)
    go_wp2_with fail
    generalize hW2 : World.drewN W _ = W2
    have HB2 := Lib.hid (show Below W.heap.size W W2 from hW2 ▸ below_drewN (Below.refl _ _) _)
    have HR2 := Lib.hid (HR.out.keep HB2.out)
    have d34 := HR2.out.cells.1
    have j1 := (HB2.out.cell (p := ⟨w.heap.size, 1, none⟩) (cell_lt i1)).trans i1
    have j4 := (HB2.out.cell (p := ⟨w.heap.size, 4, none⟩) (cell_lt i4)).trans i4
    clear hW2
    have e1 : IntKind.i32.wrap (s.pc + 1) = s.pc + 1 := by simp [IntKind.wrap, IntKind.bits, IntKind.signed]; omega
    go_still_tail 9, (by kernel_rfl)
    try rw [e1]
    change wpList _ _ _ _ _ W2.drew
    have HB3 := Lib.hid (show Below W.heap.size W W2.drew from HB2.out.drew)
    have HR3 := Lib.hid (HR.out.keep HB3.out)
    have j4 : W2.drew.cell? ⟨w.heap.size, 4, none⟩ = some (.int .i64 n) := j4
    generalize W2.drew = W3 at *
    have HM1 := Lib.hid (show (s.put d (s.pc + 1)).mks.length < 1048576 from HM.out)
    go_wp2_with (first
      | (go_at_call 31; ((with_reducible refine (refSet_at d (s.pc + 1) HR3.out hd).mono ?_); rintro e w1 ⟨rfl, hr1, hg1⟩); have HR1 := Lib.hid hr1; have HG1 := Lib.hid hg1; have k4 := hg1.keeps.cell HN.out j4; clear hr1 hg1)
      | (go_at_call 33; ((with_reducible refine (refMark_is n (-1) 3 HR1.out HM1.out).mono ?_); rintro e w2 ⟨rfl, ht⟩); have HT := Lib.hid ht; clear ht))
    go_end0
    exact ⟨rfl, HT.out.after ((HG.out.trans (Grows.of_below _ HB3.out)).trans HG1.out)⟩
  · rw [exe_41, HY.out]
    clear ho
    go_enter Tryz.func36, Tryz.ntmps36
    go_wp2
    generalize hW : w.alloc _ = W at *
    go_quiet (fail)
    go_wp2_with (go_at_call 33; ((with_reducible refine (refMark_is (y) (-1) 3 (HR.out.keep (below_drewN (Below.refl _ _) _)) HM.out).mono ?_); rintro e w1 ⟨rfl, ht⟩); have HT := Lib.hid ht; clear ht)
    go_end0
    exact ⟨rfl, HT.out.after (HG.out.trans (Grows.of_below _ (below_drewN (Below.refl _ _) _)))⟩
end Go.Proofs.YtcoicgkpikoibaaGreatDoor
