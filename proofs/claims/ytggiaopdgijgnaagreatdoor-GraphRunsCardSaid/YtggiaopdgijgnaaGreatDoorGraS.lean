/- Package graph: forest and shelf in memory; slices.Backward; least. Conditions: no more than 60 places. -/
import Derived.Test.YtggiaopdgijgnaaGreatDoorGraL
import Derived.Test.YtggiaopdgijgnaaGreatDoorGraP
import Derived.Test.YtggiaopdgijgnaaGreatDoorRng
namespace Go.Proofs.YtggiaopdgijgnaaGreatDoor
open Go.RowKit

open Go.RowKit Go.IntWalk

/-- A forest in memory. -/
structure FoAt (bF bl bo bb n : Nat) (low over best : Nat → Int) (pv : Value) (w : World) : Prop where
  box : BlkAt bF 122 #[.slice (some ⟨bl, 0, none⟩) n n, .slice (some ⟨bo, 0, none⟩) n n, .slice (some ⟨bb, 0, none⟩) n n, pv] w
  lo : Ar .i32 21 bl n low w
  ov : Ar .i32 21 bo n over w
  be : Ar .i32 21 bb n best w
  ne : bl ≠ bo ∧ bl ≠ bb ∧ bo ≠ bb
theorem FoAt.keep {bF bl bo bb n : Nat} {low over best : Nat → Int} {pv : Value} {w w' : World} (h : FoAt bF bl bo bb n low over best pv w) (k : Below w.heap.size w w') : FoAt bF bl bo bb n low over best pv w' := ⟨h.box.keep k, h.lo.keep k, h.ov.keep k, h.be.keep k, h.ne⟩
theorem FoAt.kept {F : Nat → Prop} {bF bl bo bb n : Nat} {low over best : Nat → Int} {pv : Value} {w w' : World} (h : FoAt bF bl bo bb n low over best pv w) (k : Keeps F w w') (h0 : ¬ F bF) (h1 : ¬ F bl) (h2 : ¬ F bo) (h3 : ¬ F bb) : FoAt bF bl bo bb n low over best pv w' :=
  ⟨h.box.kept k h0, h.lo.kept k h1, h.ov.kept k h2, h.be.kept k h3, h.ne⟩
theorem FoAt.off {bF bl bo bb n : Nat} {low over best : Nat → Int} {pv : Value} {w : World} (h : FoAt bF bl bo bb n low over best pv w) : bl ≠ bF ∧ bo ≠ bF ∧ bb ≠ bF := ⟨h.lo.ne_blk h.box (by decide), h.ov.ne_blk h.box (by decide), h.be.ne_blk h.box (by decide)⟩
theorem FoAt.lt {bF bl bo bb n : Nat} {low over best : Nat → Int} {pv : Value} {w : World} (h : FoAt bF bl bo bb n low over best pv w) : bF < w.heap.size ∧ bl < w.heap.size ∧ bo < w.heap.size ∧ bb < w.heap.size := ⟨h.box.lt, h.lo.lt, h.ov.lt, h.be.lt⟩
/-- A shelf in memory. -/
structure ShAt (b1 b2 n : Nat) (first behind : Nat → Int) (w : World) : Prop where
  fi : Ar .i32 21 b1 n first w
  be : Ar .i32 21 b2 n behind w
  ne : b1 ≠ b2
theorem ShAt.keep {b1 b2 n : Nat} {first behind : Nat → Int} {w w' : World} (h : ShAt b1 b2 n first behind w) (k : Below w.heap.size w w') : ShAt b1 b2 n first behind w' := ⟨h.fi.keep k, h.be.keep k, h.ne⟩
theorem ShAt.kept {F : Nat → Prop} {b1 b2 n : Nat} {first behind : Nat → Int} {w w' : World} (h : ShAt b1 b2 n first behind w) (k : Keeps F w w') (h1 : ¬ F b1) (h2 : ¬ F b2) : ShAt b1 b2 n first behind w' := ⟨h.fi.kept k h1, h.be.kept k h2, h.ne⟩
/-- What newForest makes at first. -/
def ForR (W : World) (n : Nat) (s3 : Value) (wx : World) : Prop := ∃ bF bl bo bb, s3 = .pointer (some ⟨bF, 0, none⟩) ∧ FoAt bF bl bo bb n (fun _ => 0) (fun _ => 0) (fun _ => 0) (.slice none 0 0) wx ∧ W.heap.size ≤ bF ∧ W.heap.size ≤ bl ∧ W.heap.size ≤ bo ∧ W.heap.size ≤ bb ∧ Below W.heap.size W wx
set_option maxRecDepth 100000 in
set_option maxHeartbeats 2000000 in
theorem graNewForest_is (n : Nat) (w : World) (hn : n ≤ 60) : Calls Tryz.prog 60 #[.int .i64 n] w fun e w' => ∃ bF bl bo bb, e = .returned (.pointer (some ⟨bF, 0, none⟩)) ∧
    FoAt bF bl bo bb n (fun j => (j : Int)) (fun _ => -1) (fun j => (j : Int)) (.slice none 0 0) w' ∧ w.heap.size ≤ bF ∧ w.heap.size ≤ bl ∧ w.heap.size ≤ bo ∧ w.heap.size ≤ bb ∧ Below w.heap.size w w' := by
  obtain ⟨i0, hi, hz0, hz1, hz2⟩ := info_parts infoI32
  have hmk := run_zeros (P := Tryz.prog) 23 21 i0 Tryz.underlying23 hi hz0 hz1 n (by rw [hz2]; omega) (by unfold maxLen; omega) n rfl
  have hn' : (n : Int) ≤ 60 := by omega
  go_enter Tryz.func60, Tryz.ntmps60
  go_upto_region 1 with (fail)
  go_cut [3] (fun s3 wx => ForR w n s3 wx)
  case first =>
    refine wp_region_free (fun _ => True) [(0, 0, 6, 1), (1, 1, 7, 32), (2, 0, 8, 1), (3, 4, 9, 128), (4, 0, 10, 1), (5, 16, 11, 512), (6, 42, 12, 1344), (7, 64, 13, 2048), (8, 255, 4, 4096)] 8 [(0, 5), (1, 6), (2, 7), (3, 8), (4, 9), (5, 10), (6, 11), (7, 12)] [(0, []), (1, [(0, 5)]), (2, []), (3, [(2, 7)]), (4, []), (5, [(4, 9)]), (6, [(1, 6), (3, 8), (5, 10)]), (7, [(6, 11)])] [(false, 8, 511)] [1, 3, 5]
      (fun i v w' => match i with
        | 0 | 2 | 4 => v = .int .i64 n
        | 1 | 3 | 5 => ∃ b, v = .slice (some ⟨b, 0, none⟩) n n ∧ Ar .i32 21 b n (fun _ => 0) w' ∧ w.heap.size ≤ b
        | 6 => ∃ bl bo bb, v = .agg #[.slice (some ⟨bl, 0, none⟩) n n, .slice (some ⟨bo, 0, none⟩) n n, .slice (some ⟨bb, 0, none⟩) n n, .slice none 0 0] ∧ Ar .i32 21 bl n (fun _ => 0) w' ∧ Ar .i32 21 bo n (fun _ => 0) w' ∧ Ar .i32 21 bb n (fun _ => 0) w' ∧ (bl ≠ bo ∧ bl ≠ bb ∧ bo ≠ bb) ∧ w.heap.size ≤ bl ∧ w.heap.size ≤ bo ∧ w.heap.size ≤ bb
        | 7 => ∃ bF bl bo bb, v = .pointer (some ⟨bF, 0, none⟩) ∧ FoAt bF bl bo bb n (fun _ => 0) (fun _ => 0) (fun _ => 0) (.slice none 0 0) w' ∧ w.heap.size ≤ bF ∧ w.heap.size ≤ bl ∧ w.heap.size ≤ bo ∧ w.heap.size ≤ bb
        | _ => True) (by kernel_rfl) (by kernel_rfl) (by kernel_rfl) (by kernel_rfl) (by kernel_rfl) (fun _ _ => trivial) ?_ ?_ ?_
    · intro i v w1 w2 h hb
      match i, h with
      | 0, h | 2, h | 4, h => exact h
      | 1, ⟨b, e, h, h'⟩ | 3, ⟨b, e, h, h'⟩ | 5, ⟨b, e, h, h'⟩ => exact ⟨b, e, h.keep hb, h'⟩
      | 6, ⟨bl, bo, bb, e, h1, h2, h3, h4⟩ => exact ⟨bl, bo, bb, e, h1.keep hb, h2.keep hb, h3.keep hb, h4⟩
      | 7, ⟨bF, bl, bo, bb, e, h1, h2⟩ => exact ⟨bF, bl, bo, bb, e, h1.keep hb, h2⟩
      | _ + 8, _ => trivial
    · refine ⟨?_, ?_, ?_, ?_, ?_, ?_, ?_, ?_, trivial⟩
      · intro o ho vals w1 hb hd hne
        cases ho
        exact .val (v := .int .i64 n) (w' := w1) (by simp [frA, execOp, Act.put, Act.eval, go_sem]) ⟨rfl, Below.refl _ _, fun q => by simp at q⟩
      · intro o ho vals w1 hb hd hne
        cases ho
        have e0 : vals 0 = _ := hd (0, 5) (.head _)
        exact .val (v := .slice (some ⟨w1.heap.size, 0, none⟩) n n) (by simp [frA, execOp, Act.put, Act.eval, go_sem, e0, hmk]) ⟨⟨_, rfl, Ar.zeros w1 rfl, hb.size⟩, (Below.refl _ _).alloc (Nat.le_refl _) _, fun _ => ⟨_, rfl, Nat.le_refl _, by simp⟩⟩
      · intro o ho vals w1 hb hd hne
        cases ho
        exact .val (v := .int .i64 n) (w' := w1) (by simp [frA, execOp, Act.put, Act.eval, go_sem]) ⟨rfl, Below.refl _ _, fun q => by simp at q⟩
      · intro o ho vals w1 hb hd hne
        cases ho
        have e0 : vals 2 = _ := hd (2, 7) (.head _)
        exact .val (v := .slice (some ⟨w1.heap.size, 0, none⟩) n n) (by simp [frA, execOp, Act.put, Act.eval, go_sem, e0, hmk]) ⟨⟨_, rfl, Ar.zeros w1 rfl, hb.size⟩, (Below.refl _ _).alloc (Nat.le_refl _) _, fun _ => ⟨_, rfl, Nat.le_refl _, by simp⟩⟩
      · intro o ho vals w1 hb hd hne
        cases ho
        exact .val (v := .int .i64 n) (w' := w1) (by simp [frA, execOp, Act.put, Act.eval, go_sem]) ⟨rfl, Below.refl _ _, fun q => by simp at q⟩
      · intro o ho vals w1 hb hd hne
        cases ho
        have e0 : vals 4 = _ := hd (4, 9) (.head _)
        exact .val (v := .slice (some ⟨w1.heap.size, 0, none⟩) n n) (by simp [frA, execOp, Act.put, Act.eval, go_sem, e0, hmk]) ⟨⟨_, rfl, Ar.zeros w1 rfl, hb.size⟩, (Below.refl _ _).alloc (Nat.le_refl _) _, fun _ => ⟨_, rfl, Nat.le_refl _, by simp⟩⟩
      · intro o ho vals w1 hb hd hne
        cases ho
        obtain ⟨bl, e1, h1, g1⟩ := hd (1, 6) (.head _)
        obtain ⟨bo, e3, h3, g3⟩ := hd (3, 8) (.tail _ (.head _))
        obtain ⟨bb, e5, h5, g5⟩ := hd (5, 10) (.tail _ (.tail _ (.head _)))
        have n1 := hne (1, 6) (.head _) (3, 8) (.tail _ (.head _)) (by simp) (by simp) (by simp)
        have n2 := hne (1, 6) (.head _) (5, 10) (.tail _ (.tail _ (.head _))) (by simp) (by simp) (by simp)
        have n3 := hne (3, 8) (.tail _ (.head _)) (5, 10) (.tail _ (.tail _ (.head _))) (by simp) (by simp) (by simp)
        simp only at e1 e3 e5 n1 n2 n3
        rw [e1, e3] at n1
        rw [e1, e5] at n2
        rw [e3, e5] at n3
        exact .val (v := .agg #[.slice (some ⟨bl, 0, none⟩) n n, .slice (some ⟨bo, 0, none⟩) n n, .slice (some ⟨bb, 0, none⟩) n n, .slice none 0 0]) (w' := w1) (by simp [frA, execOp, Act.put, Act.eval, go_sem, e1, e3, e5]) ⟨⟨bl, bo, bb, rfl, h1, h3, h5, ⟨fun e => n1 (by rw [e]), fun e => n2 (by rw [e]), fun e => n3 (by rw [e])⟩, g1, g3, g5⟩, Below.refl _ _, fun q => by simp at q⟩
      · intro o ho vals w1 hb hd hne
        cases ho
        obtain ⟨bl, bo, bb, e6, h1, h2, h3, h4, g1, g2, g3⟩ := hd (6, 11) (.head _)
        simp only at e6
        have ha := (Below.refl w1.heap.size w1).alloc (Nat.le_refl _) (.cells #[.slice (some ⟨bl, 0, none⟩) n n, .slice (some ⟨bo, 0, none⟩) n n, .slice (some ⟨bb, 0, none⟩) n n, .slice none 0 0] 122)
        exact .val (v := .pointer (some ⟨w1.heap.size, 0, none⟩)) (w' := w1.alloc (.cells #[.slice (some ⟨bl, 0, none⟩) n n, .slice (some ⟨bo, 0, none⟩) n n, .slice (some ⟨bb, 0, none⟩) n n, .slice none 0 0] 122)) (by simp [frA, execOp, Act.put, Act.eval, go_sem, e6]) ⟨⟨_, bl, bo, bb, rfl, ⟨BlkAt.new _ _ _, h1.keep ha, h2.keep ha, h3.keep ha, h4⟩, hb.size, g1, g2, g3⟩, ha, fun q => by simp at q⟩
    · intro vals ax w1 hI
      have e := hI.frame (by kernel_rfl) (by kernel_rfl)
      subst e
      have e0 : vals 0 = _ := hI.psi 0 (by omega) (by decide)
      have e2 : vals 2 = _ := hI.psi 2 (by omega) (by decide)
      have e4 : vals 4 = _ := hI.psi 4 (by omega) (by decide)
      obtain ⟨bF, bl, bo, bb, e7, h1, h2⟩ := hI.psi 7 (by omega) (by decide)
      have HI := Lib.hid hI
      have HH := Lib.hid (And.intro h1 h2)
      clear h1 h2 hI
      generalize vals 1 = v1 at *
      generalize vals 3 = v3 at *
      generalize vals 5 = v5 at *
      generalize vals 6 = v6 at *
      refine SeqH.step rfl rfl fun K hK => ?_
      simp only [frA, List.foldl, e0, e2, e4, e7]
      go_simp
      refine hK _ _ trivial (SeqH.done (NoPanic.normal ?_))
      go_wp2_with fail
      go_meet
      exact ⟨bF, bl, bo, bb, rfl, HH.out.1, HH.out.2.1, HH.out.2.2.1, HH.out.2.2.2.1, HH.out.2.2.2.2, (Below.refl _ _).drew.trans HI.out.below⟩
  case rest =>
    obtain ⟨bF, bl, bo, bb, rfl, hF, l0, l1, l2, l3, hB⟩ := hcut
    have HF := Lib.hid hF
    have HL := Lib.hid (And.intro l0 (And.intro l1 (And.intro l2 (And.intro l3 hB))))
    have HOFF := Lib.hid hF.off
    clear hF l0 l1 l2 l3 hB hmk hi hz0 hz1 hz2
    go_wp2
    go_loopw [15] (fun i wr => ∃ k : Nat, k ≤ n ∧ i = .int .i32 k ∧ FoAt bF bl bo bb n (fun j => if j < k then (j : Int) else 0) (fun j => if j < k then -1 else 0) (fun j => if j < k then (j : Int) else 0) (.slice none 0 0) wr ∧ Keeps (fun j => j = bl ∨ j = bo ∨ j = bb) wc wr) (fun i _ => n - (intOf i).toNat)
    case atStart => exact ⟨0, by omega, rfl, ⟨HF.out.box, HF.out.lo.eq fun i _ => by simp, HF.out.ov.eq fun i _ => by simp, HF.out.be.eq fun i _ => by simp, HF.out.ne⟩, Keeps.refl _ _⟩
    case round =>
      obtain ⟨k, hk, rfl, hA, hK⟩ := hrel
      have HA := Lib.hid hA
      have HK := Lib.hid hK
      have c0 := hA.box.cell 0
      have c1 := hA.box.cell 1
      have c2 := hA.box.cell 2
      by_cases hlt : k < n
      · have hlt' : (k : Int) < n := by omega
        have f0 := hA.lo.free k
        have f1 := hA.ov.free k
        have f2 := hA.be.free k
        have d0 := hA.lo.cell hlt
        have d1 := hA.ov.cell hlt
        have d2 := hA.be.cell hlt
        obtain ⟨n1, n2, n3⟩ := hA.ne
        have m1 : ¬ bl = bo := n1
        have m2 : ¬ bl = bb := n2
        have m3 : ¬ bo = bb := n3
        have m4 : ¬ bo = bl := fun e => n1 e.symm
        have m5 : ¬ bb = bl := fun e => n2 e.symm
        have m6 : ¬ bb = bo := fun e => n3 e.symm
        have hw : IntKind.i32.wrap ((k : Int) + 1) = (k : Int) + 1 := IntWalk.i32_in _ (by omega)
        clear hA hK hlt n1 n2 n3
        have o1 : ¬ bF = bl := fun e => HOFF.out.1 e.symm
        have o2 : ¬ bF = bo := fun e => HOFF.out.2.1 e.symm
        have o3 : ¬ bF = bb := fun e => HOFF.out.2.2 e.symm
        go_upto_region 5 with (fail)
        refine wp_region_seq [(0, 0, 19, 8), (1, 1, 20, 262144), (2, 2, 21, 524288), (3, 4, 22, 1048576), (4, 0, 23, 16), (5, 0, 24, 8), (6, 32, 25, 8388608), (7, 64, 26, 16777216), (8, 128, 27, 33554432), (9, 0, 28, 16), (10, 0, 29, 8), (11, 1024, 30, 268435456), (12, 2048, 31, 536870912), (13, 4096, 32, 1073741824), (14, 0, 33, 16), (15, 0, 34, 16), (16, 0, 35, 16), (17, 41247, 36, 6291456), (18, 172319, 0, 42949672960), (19, 435199, 37, 201326592), (20, 959487, 0, 68719476736), (21, 2097151, 38, 6442450944), (22, 4194303, 0, 154618822656)] [(true, 0, 1), (true, 1, 3), (true, 2, 7), (true, 3, 15), (true, 4, 31), (true, 5, 63), (true, 6, 127), (true, 7, 255), (true, 8, 511), (true, 9, 1023), (true, 10, 2047), (true, 11, 4095), (true, 12, 8191), (true, 13, 16383), (true, 14, 32767), (true, 15, 65535), (true, 16, 131071), (true, 17, 262143), (false, 18, 524287), (true, 19, 1048575), (false, 20, 2097151), (true, 21, 4194303), (false, 22, 8388607)] (fun w' => w'.cell? ⟨bF, 0, none⟩ = some (.slice (some ⟨bl, 0, none⟩) n n) ∧ w'.cell? ⟨bF, 1, none⟩ = some (.slice (some ⟨bo, 0, none⟩) n n) ∧ w'.cell? ⟨bF, 2, none⟩ = some (.slice (some ⟨bb, 0, none⟩) n n)) (by kernel_rfl) (by kernel_rfl) (by kernel_rfl) (by kernel_rfl) (by kernel_rfl) (⟨c0, c1, c2⟩) ?_
        (refine SeqH.take (v := ?_) rfl rfl ?_ ?_; rotate_left; (intro w' hw'; (try dsimp only at hw'); go_simp; try with_reducible rfl); go_simp)
        (refine SeqH.take (v := ?_) rfl rfl ?_ ?_; rotate_left; (intro w' hw'; (try dsimp only at hw'); go_simp; try with_reducible rfl); go_simp)
        (refine SeqH.take (v := ?_) rfl rfl ?_ ?_; rotate_left; (intro w' hw'; (try dsimp only at hw'); go_simp; try with_reducible rfl); go_simp)
        (refine SeqH.take (v := ?_) rfl rfl ?_ ?_; rotate_left; (intro w' hw'; (try dsimp only at hw'); go_simp; try with_reducible rfl); go_simp)
        (refine SeqH.take (v := ?_) rfl rfl ?_ ?_; rotate_left; (intro w' hw'; (try dsimp only at hw'); go_simp; try with_reducible rfl); go_simp)
        (refine SeqH.take (v := ?_) rfl rfl ?_ ?_; rotate_left; (intro w' hw'; (try dsimp only at hw'); go_simp; try with_reducible rfl); go_simp)
        (refine SeqH.take (v := ?_) rfl rfl ?_ ?_; rotate_left; (intro w' hw'; (try dsimp only at hw'); go_simp; try with_reducible rfl); go_simp)
        (refine SeqH.take (v := ?_) rfl rfl ?_ ?_; rotate_left; (intro w' hw'; (try dsimp only at hw'); go_simp; try with_reducible rfl); go_simp)
        (refine SeqH.take (v := ?_) rfl rfl ?_ ?_; rotate_left; (intro w' hw'; (try dsimp only at hw'); go_simp; try with_reducible rfl); go_simp)
        (refine SeqH.take (v := ?_) rfl rfl ?_ ?_; rotate_left; (intro w' hw'; (try dsimp only at hw'); go_simp; try with_reducible rfl); go_simp)
        (refine SeqH.take (v := ?_) rfl rfl ?_ ?_; rotate_left; (intro w' hw'; (try dsimp only at hw'); go_simp; try with_reducible rfl); go_simp)
        (refine SeqH.take (v := ?_) rfl rfl ?_ ?_; rotate_left; (intro w' hw'; (try dsimp only at hw'); go_simp; try with_reducible rfl); go_simp)
        (refine SeqH.take (v := ?_) rfl rfl ?_ ?_; rotate_left; (intro w' hw'; (try dsimp only at hw'); go_simp; try with_reducible rfl); go_simp)
        (refine SeqH.take (v := ?_) rfl rfl ?_ ?_; rotate_left; (intro w' hw'; (try dsimp only at hw'); go_simp; try with_reducible rfl); go_simp)
        (refine SeqH.take (v := ?_) rfl rfl ?_ ?_; rotate_left; (intro w' hw'; (try dsimp only at hw'); go_simp; try with_reducible rfl); go_simp)
        (refine SeqH.take (v := ?_) rfl rfl ?_ ?_; rotate_left; (intro w' hw'; (try dsimp only at hw'); go_simp; try with_reducible rfl); go_simp)
        (refine SeqH.take (v := ?_) rfl rfl ?_ ?_; rotate_left; (intro w' hw'; (try dsimp only at hw'); go_simp; try with_reducible rfl); go_simp)
        (refine SeqH.take (v := ?_) rfl rfl ?_ ?_; rotate_left; (intro w' hw'; (try dsimp only at hw'); go_simp; try with_reducible rfl); go_simp)
        refine SeqH.step rfl rfl (fun K hK => ?_)
        go_simp
        refine hK _ _ (⟨by go_cell, by go_cell, by go_cell⟩) ?_
        clear hK K
        (refine SeqH.take (v := ?_) rfl rfl ?_ ?_; rotate_left; (intro w' hw'; (try dsimp only at hw'); go_simp; try with_reducible rfl); go_simp)
        refine SeqH.step rfl rfl (fun K hK => ?_)
        go_simp
        refine hK _ _ (⟨by go_cell, by go_cell, by go_cell⟩) ?_
        clear hK K
        (refine SeqH.take (v := ?_) rfl rfl ?_ ?_; rotate_left; (intro w' hw'; (try dsimp only at hw'); go_simp; try with_reducible rfl); go_simp)
        refine SeqH.step rfl rfl (fun K hK => ?_)
        go_simp
        refine hK _ _ (⟨by go_cell, by go_cell, by go_cell⟩) ?_
        clear hK K
        refine SeqH.done (NoPanic.normal ?_)
        go_wp2
        go_roundw
        case rel =>
          have k1 := Keeps.set1 wr bl k (.int .i32 (k : Int))
          have k2 := Keeps.set1 (wr.setCell ⟨bl, k, none⟩ (.int .i32 (k : Int))) bo k (.int .i32 (-1))
          have k3 := Keeps.set1 ((wr.setCell ⟨bl, k, none⟩ (.int .i32 (k : Int))).setCell ⟨bo, k, none⟩ (.int .i32 (-1))) bb k (.int .i32 (k : Int))
          have kd : ∀ W : World, Keeps (fun _ => False) W W.drew := fun W => Keeps.of_below _ (Below.refl _ _).drew
          have hoff := HOFF.out
          refine ⟨k + 1, by omega, by go_num, ⟨(((HA.out.box.kept k1 (fun e => hoff.1 e.symm)).kept k2 (fun e => hoff.2.1 e.symm)).kept k3 (fun e => hoff.2.2 e.symm)).kept (kd _) id, ?_, ?_, ?_, HA.out.ne⟩, ?_⟩
          · refine ((((HA.out.lo.set k (k : Int)).kept k2 (fun e => m1 e)).kept k3 (fun e => m2 e)).kept (kd _) id).eq fun i _ => ?_
            unfold upn
            by_cases e : i = k
            · subst e; simp
            · rw [if_neg e]; by_cases q : i < k <;> simp [q, show (i < k + 1) = (i < k) from by simp; omega]
          · refine ((((HA.out.ov.kept k1 (fun e => m4 e)).set k (-1)).kept k3 (fun e => m3 e)).kept (kd _) id).eq fun i _ => ?_
            unfold upn
            by_cases e : i = k
            · subst e; simp
            · rw [if_neg e]; by_cases q : i < k <;> simp [q, show (i < k + 1) = (i < k) from by simp; omega]
          · refine ((((HA.out.be.kept k1 (fun e => m5 e)).kept k2 (fun e => m6 e)).set k (k : Int)).kept (kd _) id).eq fun i _ => ?_
            unfold upn
            by_cases e : i = k
            · subst e; simp
            · rw [if_neg e]; by_cases q : i < k <;> simp [q, show (i < k + 1) = (i < k) from by simp; omega]
          · exact (((HK.out.trans (k1.mono fun j _ e => .inl e)).trans (k2.mono fun j _ e => .inr (.inl e))).trans (k3.mono fun j _ e => .inr (.inr e))).next (kd _) fun j _ e => e.elim
        case measure => simp [intOf]; omega
      · obtain rfl : k = n := by omega
        clear hA hK hlt
        go_wp2
        go_ret
        have hl := HL.out
        refine ⟨bF, bl, bo, bb, rfl, ⟨HA.out.box, HA.out.lo.eq fun i hi => by simp [hi], HA.out.ov.eq fun i hi => by simp [hi], HA.out.be.eq fun i hi => by simp [hi], HA.out.ne⟩, hl.1, hl.2.1, hl.2.2.1, hl.2.2.2.1, HK.out.below hl.2.2.2.2 hl.2.2.2.2.size fun j e => by omega⟩

open Go.RowKit Go.IntWalk

/-- What newShelf makes at first. -/
def SheR (W : World) (n : Nat) (s3 : Value) (wx : World) : Prop := ∃ bS b1 b2, s3 = .pointer (some ⟨bS, 0, none⟩) ∧ BlkAt bS 119 #[.slice (some ⟨b1, 0, none⟩) n n, .slice (some ⟨b2, 0, none⟩) n n] wx ∧ ShAt b1 b2 n (fun _ => 0) (fun _ => 0) wx ∧ W.heap.size ≤ bS ∧ W.heap.size ≤ b1 ∧ W.heap.size ≤ b2 ∧ Below W.heap.size W wx
set_option maxRecDepth 100000 in
set_option maxHeartbeats 2000000 in
theorem graNewShelf_is (n : Nat) (w : World) (hn : n ≤ 60) : Calls Tryz.prog 61 #[.int .i64 n] w fun e w' => ∃ b1 b2, e = .returned (.agg #[.slice (some ⟨b1, 0, none⟩) n n, .slice (some ⟨b2, 0, none⟩) n n]) ∧
    ShAt b1 b2 n (fun _ => -1) (fun _ => 0) w' ∧ w.heap.size ≤ b1 ∧ w.heap.size ≤ b2 ∧ Below w.heap.size w w' := by
  obtain ⟨i0, hi, hz0, hz1, hz2⟩ := info_parts infoI32
  have hmk := run_zeros (P := Tryz.prog) 23 21 i0 Tryz.underlying23 hi hz0 hz1 n (by rw [hz2]; omega) (by unfold maxLen; omega) n rfl
  have hn' : (n : Int) ≤ 60 := by omega
  go_enter Tryz.func61, Tryz.ntmps61
  go_upto_region 1 with (fail)
  obtain ⟨W0, hW0⟩ : ∃ W0, w.alloc (.cells #[.slice none 0 0, .slice none 0 0] 119) = W0 := ⟨_, rfl⟩
  have HR0 := Lib.hid (show BlkAt w.heap.size 119 #[.slice none 0 0, .slice none 0 0] W0 from hW0 ▸ BlkAt.new _ _ _)
  have HB0 := Lib.hid (show Below w.heap.size w W0 from hW0 ▸ (Below.refl _ _).alloc (Nat.le_refl _) _)
  rw [hW0]
  clear hW0
  go_cut [3] (fun s3 wx => SheR W0 n s3 wx)
  case first =>
    refine wp_region_free (fun _ => True) [(0, 0, 6, 1), (1, 1, 7, 32), (2, 0, 8, 1), (3, 4, 9, 128), (4, 10, 10, 320), (5, 0, 4, 0), (6, 63, 0, 520)] 6 [(0, 5), (1, 6), (2, 7), (3, 8), (4, 9), (5, 3)] [(0, []), (1, [(0, 5)]), (2, []), (3, [(2, 7)]), (4, [(1, 6), (3, 8)]), (5, [])] [(false, 6, 127)] [1, 3, 5]
      (fun i v w' => match i with
        | 0 | 2 => v = .int .i64 n
        | 1 | 3 => ∃ b, v = .slice (some ⟨b, 0, none⟩) n n ∧ Ar .i32 21 b n (fun _ => 0) w' ∧ W0.heap.size ≤ b
        | 4 => ∃ b1 b2, v = .agg #[.slice (some ⟨b1, 0, none⟩) n n, .slice (some ⟨b2, 0, none⟩) n n] ∧ ShAt b1 b2 n (fun _ => 0) (fun _ => 0) w' ∧ W0.heap.size ≤ b1 ∧ W0.heap.size ≤ b2
        | 5 => ∃ b, v = .pointer (some ⟨b, 0, none⟩) ∧ BlkAt b 119 #[.slice none 0 0, .slice none 0 0] w' ∧ W0.heap.size ≤ b
        | _ => True) (by kernel_rfl) (by kernel_rfl) (by kernel_rfl) (by kernel_rfl) (by kernel_rfl) (fun _ _ => trivial) ?_ ?_ ?_
    · intro i v w1 w2 h hb
      match i, h with
      | 0, h | 2, h => exact h
      | 1, ⟨b, e, h, h'⟩ | 3, ⟨b, e, h, h'⟩ => exact ⟨b, e, h.keep hb, h'⟩
      | 4, ⟨b1, b2, e, h1, h4⟩ => exact ⟨b1, b2, e, h1.keep hb, h4⟩
      | 5, ⟨b, e, h, h'⟩ => exact ⟨b, e, h.keep hb, h'⟩
      | _ + 6, _ => trivial
    · refine ⟨?_, ?_, ?_, ?_, ?_, ?_, trivial⟩
      · intro o ho vals w1 hb hd hne
        cases ho
        exact .val (v := .int .i64 n) (w' := w1) (by simp [frA, execOp, Act.put, Act.eval, go_sem]) ⟨rfl, Below.refl _ _, fun q => by simp at q⟩
      · intro o ho vals w1 hb hd hne
        cases ho
        have e0 : vals 0 = _ := hd (0, 5) (.head _)
        exact .val (v := .slice (some ⟨w1.heap.size, 0, none⟩) n n) (by simp [frA, execOp, Act.put, Act.eval, go_sem, e0, hmk]) ⟨⟨_, rfl, Ar.zeros w1 rfl, hb.size⟩, (Below.refl _ _).alloc (Nat.le_refl _) _, fun _ => ⟨_, rfl, Nat.le_refl _, by simp⟩⟩
      · intro o ho vals w1 hb hd hne
        cases ho
        exact .val (v := .int .i64 n) (w' := w1) (by simp [frA, execOp, Act.put, Act.eval, go_sem]) ⟨rfl, Below.refl _ _, fun q => by simp at q⟩
      · intro o ho vals w1 hb hd hne
        cases ho
        have e0 : vals 2 = _ := hd (2, 7) (.head _)
        exact .val (v := .slice (some ⟨w1.heap.size, 0, none⟩) n n) (by simp [frA, execOp, Act.put, Act.eval, go_sem, e0, hmk]) ⟨⟨_, rfl, Ar.zeros w1 rfl, hb.size⟩, (Below.refl _ _).alloc (Nat.le_refl _) _, fun _ => ⟨_, rfl, Nat.le_refl _, by simp⟩⟩
      · intro o ho vals w1 hb hd hne
        cases ho
        obtain ⟨bl, e1, h1, g1⟩ := hd (1, 6) (.head _)
        obtain ⟨bo, e3, h3, g3⟩ := hd (3, 8) (.tail _ (.head _))
        have n1 := hne (1, 6) (.head _) (3, 8) (.tail _ (.head _)) (by simp) (by simp) (by simp)
        simp only at e1 e3 n1
        rw [e1, e3] at n1
        exact .val (v := .agg #[.slice (some ⟨bl, 0, none⟩) n n, .slice (some ⟨bo, 0, none⟩) n n]) (w' := w1) (by simp [frA, execOp, Act.put, Act.eval, go_sem, e1, e3]) ⟨⟨bl, bo, rfl, ⟨h1, h3, fun e => n1 (by rw [e])⟩, g1, g3⟩, Below.refl _ _, fun q => by simp at q⟩
      · intro o ho vals w1 hb hd hne
        cases ho
        exact .val (v := .pointer (some ⟨w1.heap.size, 0, none⟩)) (by simp [execOp, go_sem]) ⟨⟨_, rfl, BlkAt.new _ _ _, hb.size⟩, (Below.refl _ _).alloc (Nat.le_refl _) _, fun _ => ⟨_, rfl, Nat.le_refl _, by simp⟩⟩
    · intro vals ax w1 hI
      have e := hI.frame (by kernel_rfl) (by kernel_rfl)
      subst e
      have e0 : vals 0 = _ := hI.psi 0 (by omega) (by decide)
      have e2 : vals 2 = _ := hI.psi 2 (by omega) (by decide)
      obtain ⟨b1, b2, e4, h1, h2, h3⟩ := hI.psi 4 (by omega) (by decide)
      obtain ⟨bS, e5, h4, h5⟩ := hI.psi 5 (by omega) (by decide)
      have f0 := h4.free 0
      have f1 := h4.free 1
      have y0 := h4.cell 0
      have y1 := h4.cell 1
      have HI := Lib.hid hI
      have HH := Lib.hid (And.intro h1 (And.intro h2 (And.intro h3 (And.intro h4 h5))))
      clear h1 h2 h3 h4 h5 hI
      generalize vals 1 = v1 at *
      generalize vals 3 = v3 at *
      refine SeqH.step rfl rfl fun K hK => ?_
      simp only [frA, List.foldl, e0, e2, e4, e5]
      go_simp
      refine hK _ _ trivial (SeqH.done (NoPanic.normal ?_))
      go_wp2_with fail
      go_meet
      obtain ⟨h1, h2, h3, h4, h5⟩ := HH.out
      have kx : Keeps (fun j => j = bS) w1 ((w1.setCell ⟨bS, 0, none⟩ (.slice (some ⟨b1, 0, none⟩) n n)).setCell ⟨bS, 1, none⟩ (.slice (some ⟨b2, 0, none⟩) n n)) := (Keeps.set1 _ _ _ _).trans (Keeps.set1 _ _ _ _)
      have hb0 : Below W0.heap.size W0 w1 := (Below.refl _ _).drew.trans HI.out.below
      exact ⟨bS, b1, b2, rfl, ((h4.set 0 _).set 1 _).eq rfl, h1.kept kx (h1.fi.ne_blk h4 (by decide)) (h1.be.ne_blk h4 (by decide)), h5, h2, h3, kx.below hb0 hb0.size fun j e => by subst e; exact h5⟩
  case rest =>
    obtain ⟨bS, b1, b2, rfl, hbx, hS, l0, l1, l2, hB⟩ := hcut
    have HX := Lib.hid hbx
    have HS := Lib.hid hS
    have hr := HR0.out.keep hB
    have HR := Lib.hid hr
    have HB := Lib.hid (HB0.out.trans (hB.mono HB0.out.size))
    have HL := Lib.hid (show (w.heap.size < b1 ∧ w.heap.size < b2 ∧ w.heap.size < bS) ∧ (b1 ≠ bS ∧ b2 ≠ bS) from ⟨by have := HR0.out.lt; omega, hS.fi.ne_blk hbx (by decide), hS.be.ne_blk hbx (by decide)⟩)
    clear hbx hS l0 l1 l2 hB hmk hi hz0 hz1 hz2 hr
    go_wp2
    go_loopw [11] (fun i wr => ∃ k : Nat, k ≤ n ∧ i = .int .i64 k ∧ Ar .i32 21 b1 n (fun j => if j < k then -1 else 0) wr ∧ Keeps (fun j => j = b1) wc wr) (fun i _ => n - (intOf i).toNat)
    case atStart => exact ⟨0, by omega, rfl, HS.out.fi.eq fun i _ => by simp, Keeps.refl _ _⟩
    case round =>
      obtain ⟨k, hk, rfl, hA, hK⟩ := hrel
      have HA := Lib.hid hA
      have HK := Lib.hid hK
      have hx := HX.out.kept hK fun e => HL.out.2.1 e.symm
      have c0 := hx.cell 0
      by_cases hlt : k < n
      · have hlt' : (k : Int) < n := by omega
        have f0 := hA.free k
        have d0 := hA.cell hlt
        clear hA hK hlt hx
        go_wp2
        go_roundw
        case rel =>
          refine ⟨k + 1, by omega, by go_num, (HA.out.set k (-1)).eq fun i _ => ?_, HK.out.trans (Keeps.set1 _ _ _ _)⟩
          unfold upn
          by_cases e : i = k
          · subst e; simp
          · rw [if_neg e]; by_cases q : i < k <;> simp [q, show (i < k + 1) = (i < k) from by simp; omega]
        case measure => simp [intOf]; omega
      · obtain rfl : k = n := by omega
        have c1 := hx.cell 1
        have hr := HR.out.kept hK (by have := HL.out.1; omega)
        have r0 := hr.cell 0
        have r1 := hr.cell 1
        have g0 := hr.free 0
        have g1 := hr.free 1
        have nb : ¬ bS = w.heap.size := by have := HL.out.1; omega
        have nb2 : ¬ w.heap.size = bS := by have := HL.out.1; omega
        clear hA hK hlt hx hr
        go_wp2
        refine bodyPost_ret (v := .agg #[.slice (some ⟨b1, 0, none⟩) k k, .slice (some ⟨b2, 0, none⟩) k k]) (by simp [results, Tryz.results61, go_sem, r0, r1]) rfl ?_
        have kx : Keeps (fun j => j = w.heap.size) wr ((wr.setCell ⟨w.heap.size, 0, none⟩ (.slice (some ⟨b1, 0, none⟩) k k)).setCell ⟨w.heap.size, 1, none⟩ (.slice (some ⟨b2, 0, none⟩) k k)) := (Keeps.set1 _ _ _ _).trans (Keeps.set1 _ _ _ _)
        have hl := HL.out
        have hb := HB.out
        have hkb : Below w.heap.size w wr := HK.out.below hb hb.size fun j e => by omega
        exact ⟨b1, b2, rfl, ⟨(HA.out.kept kx (by omega)).eq fun i hi => by simp [hi], (HS.out.be.kept HK.out fun e => HS.out.ne e.symm).kept kx (by omega), HS.out.ne⟩, by omega, by omega, kx.below hkb hkb.size fun j e => by omega⟩
set_option maxRecDepth 100000 in
set_option maxHeartbeats 1000000 in
theorem graPut_is {b1 b2 n p k : Nat} {first behind : Nat → Int} {w : World} (h : ShAt b1 b2 n first behind w) (hn : n ≤ 60) (hp : p < n) (hk : k < n) :
    Calls Tryz.prog 63 #[.agg #[.slice (some ⟨b1, 0, none⟩) n n, .slice (some ⟨b2, 0, none⟩) n n], .int .i32 p, .int .i32 k] w fun e w' => e = .returned (.tuple #[]) ∧ ShAt b1 b2 n (upn first p (k : Nat)) (upn behind k (first p)) w' ∧ Keeps (fun j => j = b1 ∨ j = b2) w w' := by
  have hp' : (p : Int) < n := by omega
  have hk' : (k : Int) < n := by omega
  have hn' : (n : Int) ≤ 60 := by omega
  obtain ⟨v, hv⟩ : ∃ v, first p = v := ⟨_, rfl⟩
  obtain ⟨W, hW⟩ : ∃ W, w.alloc (.cells #[.slice (some ⟨b1, 0, none⟩) n n, .slice (some ⟨b2, 0, none⟩) n n] 119) = W := ⟨_, rfl⟩
  have hb0 : Below w.heap.size w W := hW ▸ (Below.refl _ _).alloc (Nat.le_refl _) _
  have hx : BlkAt w.heap.size 119 #[.slice (some ⟨b1, 0, none⟩) n n, .slice (some ⟨b2, 0, none⟩) n n] W := hW ▸ BlkAt.new _ _ _
  have hS := h.keep hb0
  have hlt := (And.intro h.fi.lt h.be.lt)
  have HX := Lib.hid hx
  have HS := Lib.hid hS
  have HB := Lib.hid (Keeps.of_below (fun j => j = b1 ∨ j = b2) hb0)
  have HV := Lib.hid hv
  have HLT := Lib.hid hlt
  have x0 : W.cell? ⟨w.heap.size, 0, none⟩ = some (.slice (some ⟨b1, 0, none⟩) n n) := hx.cell 0
  have x1 : W.cell? ⟨w.heap.size, 1, none⟩ = some (.slice (some ⟨b2, 0, none⟩) n n) := hx.cell 1
  have f1 := hS.fi.free p
  have f2 := hS.be.free k
  have c1 := hS.fi.cell hp
  have c2 := hS.be.cell hk
  rw [hv] at c1
  have n1 : ¬ b1 = b2 := hS.ne
  have n2 : ¬ b2 = b1 := fun e => hS.ne e.symm
  have n3 : ¬ w.heap.size = b2 := by omega
  have n4 : ¬ w.heap.size = b1 := by omega
  have HW := Lib.hid hW
  clear h hW hb0 hx hS hlt hv
  go_enter Tryz.func63, Tryz.ntmps63
  go_upto_region 1 with (fail)
  rw [HW.out]
  generalize w.heap.size = b0 at *
  refine wp_region_seq [(0, 0, 7, 8), (1, 1, 8, 64), (2, 0, 9, 4), (3, 0, 10, 8), (4, 8, 11, 512), (5, 0, 12, 2), (6, 48, 13, 3072), (7, 64, 14, 4096), (8, 255, 15, 384), (9, 511, 0, 24576)] [(true, 0, 1), (true, 1, 3), (true, 2, 7), (true, 3, 15), (true, 4, 31), (true, 5, 63), (true, 6, 127), (true, 7, 255), (true, 8, 511), (false, 9, 1023)] (fun w' => w'.cell? ⟨b0, 0, none⟩ = some (.slice (some ⟨b1, 0, none⟩) n n) ∧ w'.cell? ⟨b0, 1, none⟩ = some (.slice (some ⟨b2, 0, none⟩) n n) ∧ w'.cell? ⟨b1, p, none⟩ = some (.int .i32 v)) (by kernel_rfl) (by kernel_rfl) (by kernel_rfl) (by kernel_rfl) (by kernel_rfl) (⟨x0, x1, c1⟩) ?_
  (refine SeqH.take (v := ?_) rfl rfl ?_ ?_; rotate_left; (intro w' hw'; (try dsimp only at hw'); go_simp; try with_reducible rfl); go_simp)
  (refine SeqH.take (v := ?_) rfl rfl ?_ ?_; rotate_left; (intro w' hw'; (try dsimp only at hw'); go_simp; try with_reducible rfl); go_simp)
  (refine SeqH.take (v := ?_) rfl rfl ?_ ?_; rotate_left; (intro w' hw'; (try dsimp only at hw'); go_simp; try with_reducible rfl); go_simp)
  (refine SeqH.take (v := ?_) rfl rfl ?_ ?_; rotate_left; (intro w' hw'; (try dsimp only at hw'); go_simp; try with_reducible rfl); go_simp)
  (refine SeqH.take (v := ?_) rfl rfl ?_ ?_; rotate_left; (intro w' hw'; (try dsimp only at hw'); go_simp; try with_reducible rfl); go_simp)
  (refine SeqH.take (v := ?_) rfl rfl ?_ ?_; rotate_left; (intro w' hw'; (try dsimp only at hw'); go_simp; try with_reducible rfl); go_simp)
  (refine SeqH.take (v := ?_) rfl rfl ?_ ?_; rotate_left; (intro w' hw'; (try dsimp only at hw'); go_simp; try with_reducible rfl); go_simp)
  (refine SeqH.take (v := ?_) rfl rfl ?_ ?_; rotate_left; (intro w' hw'; (try dsimp only at hw'); go_simp; try with_reducible rfl); go_simp)
  (refine SeqH.take (v := ?_) rfl rfl ?_ ?_; rotate_left; (intro w' hw'; (try dsimp only at hw'); go_simp; try with_reducible rfl); go_simp)
  refine SeqH.step rfl rfl (fun K hK => ?_)
  go_simp
  refine hK _ _ (⟨by go_cell, by go_cell, by go_cell⟩) ?_
  clear hK K
  refine SeqH.done (NoPanic.normal ?_)
  go_wp2
  go_end0
  have k1 := Keeps.set1 W b2 k (.int .i32 v)
  have k2 := Keeps.set1 (W.setCell ⟨b2, k, none⟩ (.int .i32 v)) b1 p (.int .i32 (k : Int))
  rw [HV.out]
  have kk : Keeps (fun j => j = b1 ∨ j = b2) w ((W.setCell ⟨b2, k, none⟩ (.int .i32 v)).setCell ⟨b1, p, none⟩ (.int .i32 (k : Int))) := (HB.out.trans (k1.mono fun j _ e => .inr e)).trans (k2.mono fun j _ e => .inl e)
  have hA := (HS.out.fi.kept k1 n1).set p (k : Int)
  have hB := Ar.kept (HS.out.be.set k v) k2 n2
  exact ⟨rfl, ⟨hA, hB, HS.out.ne⟩, kk.next (Keeps.of_below (fun _ => False) (Below.refl _ _).drew) fun j _ e => e.elim⟩
set_option maxRecDepth 100000 in
set_option maxHeartbeats 1000000 in
theorem graTake_is {b1 b2 n p : Nat} {first behind : Nat → Int} {w : World} (h : ShAt b1 b2 n first behind w) (hn : n ≤ 60) (hp : p < n) :
    Calls Tryz.prog 64 #[.agg #[.slice (some ⟨b1, 0, none⟩) n n, .slice (some ⟨b2, 0, none⟩) n n], .int .i32 p] w fun e w' => e = .returned (.int .i32 (first p)) ∧ ShAt b1 b2 n (upn first p (-1)) behind w' ∧ Keeps (fun j => j = b1) w w' := by
  have hp' : (p : Int) < n := by omega
  have hn' : (n : Int) ≤ 60 := by omega
  obtain ⟨v, hv⟩ : ∃ v, first p = v := ⟨_, rfl⟩
  have ha := (Below.refl w.heap.size w).alloc (Nat.le_refl _) (.cells #[.slice (some ⟨b1, 0, none⟩) n n, .slice (some ⟨b2, 0, none⟩) n n] 119)
  have c1 := (h.keep ha).fi.cell hp
  have f1 := (h.keep ha).fi.free p
  have hlt := h.fi.lt
  have n3 : ¬ w.heap.size = b1 := by omega
  have n4 : ¬ b1 = w.heap.size := by omega
  rw [hv] at c1 ⊢
  have H := Lib.hid h
  clear h hv hlt ha
  go_enter Tryz.func64, Tryz.ntmps64
  go_wp2
  go_ret
  have ha := (Below.refl w.heap.size w).alloc (Nat.le_refl _) (.cells #[.slice (some ⟨b1, 0, none⟩) n n, .slice (some ⟨b2, 0, none⟩) n n] 119)
  have hS := H.out.keep ha
  have k1 := Keeps.set1 (w.alloc (.cells #[.slice (some ⟨b1, 0, none⟩) n n, .slice (some ⟨b2, 0, none⟩) n n] 119)) b1 p (.int .i32 (-1))
  exact ⟨rfl, ⟨hS.fi.set p (-1), hS.be.kept k1 (fun e => hS.ne e.symm), hS.ne⟩, (Keeps.of_below _ ha).trans k1⟩
/-- Which number each place has: the how manieth of a list, of its first k. -/
def numA (O : List Nat) : Nat → Nat → Int
  | 0 => fun _ => -1
  | k + 1 => upn (numA O k) (O.getD k 0) (k : Nat)
theorem numA_off {O : List Nat} {x : Nat} : ∀ {k : Nat}, k ≤ O.length → x ∉ O.take k → numA O k x = -1
  | 0, _, _ => rfl
  | k + 1, hk, h => by
    have hk' : k < O.length := hk
    rw [List.take_succ_eq_append_getElem hk', List.mem_append, List.mem_singleton] at h
    have e : O.getD k 0 = O[k] := by simp [List.getD, hk']
    show upn (numA O k) (O.getD k 0) (k : Nat) x = -1
    rw [e, upn_off _ _ fun q => h (.inr q)]
    exact numA_off (by omega) fun q => h (.inl q)
theorem numA_on {O : List Nat} (hn : O.Nodup) : ∀ {k : Nat}, k ≤ O.length → ∀ {i : Nat} (_ : i < k) (hO : i < O.length), numA O k O[i] = i
  | 0, _, i, hi, _ => by omega
  | k + 1, hk, i, hi, hO => by
    have hk' : k < O.length := hk
    have e : O.getD k 0 = O[k] := by simp [List.getD, hk']
    show upn (numA O k) (O.getD k 0) (k : Nat) O[i] = i
    rw [e]
    by_cases q : i = k
    · subst q; rw [upn_at]
    · rw [upn_off _ _ fun h => by
        have := (List.pairwise_iff_getElem.1 hn) i k hO hk' (by omega)
        exact this h]
      exact numA_on hn (by omega) (by omega) hO
set_option maxRecDepth 100000 in
set_option maxHeartbeats 1000000 in
theorem graNumbers_is {w0 w : World} {n c' k co : Nat} {x v0 v2 : Value} {a' ao : Option Addr} {O : List Nat} (hO : Ws .i32 w0 ao k co (O.map Int.ofNat)) (hn : n ≤ 60) (hx : ∀ y ∈ O, y < n) (hk : O.length ≤ 60) (hb : Below w0.heap.size w0 w) {bc c0 k0 bf cf kf : Nat} (e0 : v0 = .slice (some ⟨bc, 0, none⟩) c0 k0) (e2 : v2 = .slice (some ⟨bf, 0, none⟩) cf kf) {ax : Option Addr} {nx cx : Nat} (ex : x = .slice ax nx cx) :
    Calls Tryz.prog 59 #[.agg #[x, .slice a' (n + 1) c'], .agg #[v0, .slice ao k co, v2]] w fun e w' => ∃ b, e = .returned (.slice (some ⟨b, 0, none⟩) n n) ∧ Ar .i32 21 b n (numA O O.length) w' ∧ w.heap.size ≤ b ∧ Below w.heap.size w w' := by
  subst e0 e2 ex
  obtain ⟨i0, hi, hz0, hz1, hz2⟩ := info_parts infoI32
  have hmk := run_zeros (P := Tryz.prog) 23 21 i0 Tryz.underlying23 hi hz0 hz1 n (by rw [hz2]; omega) (by unfold maxLen; omega) n rfl
  have hn' : (n : Int) ≤ 60 := by omega
  have hkl := hO.len
  rw [List.length_map] at hkl
  have hk' : (k : Int) ≤ 60 := by omega
  have HO := Lib.hid hO
  have HB := Lib.hid hb
  have HX := Lib.hid (And.intro hx hk)
  have HKL := Lib.hid hkl
  clear hO hb hx hk hi hz0 hz1 hz2 hkl
  go_enter Tryz.func59, Tryz.ntmps59
  go_wp2_with (go_at_call 47; ((with_reducible refine (graSize_is (n := n) _ _ _ (by omega)).mono ?_); rintro e w2 ⟨rfl, hq⟩); have HQ := Lib.hid hq; clear hq)
  have hx0 : BlkAt (w.heap.size + 1) 58 #[.slice (some ⟨bc, 0, none⟩) c0 k0, .slice ao k co, .slice (some ⟨bf, 0, none⟩) cf kf] w2 := BlkAt.keep (BlkAt.newb _ _ _ (by simp)) HQ.out
  have hb2 : Below w.heap.size w w2 := ((((Below.refl _ _).alloc (Nat.le_refl _) _).alloc (by simp) _).trans (HQ.out.mono (by simp; omega)))
  have hs2 : w.heap.size + 2 ≤ w2.heap.size := by have := HQ.out.size; simpa using this
  have HX0 := Lib.hid hx0
  have HB2 := Lib.hid hb2
  have HS2 := Lib.hid hs2
  clear hx0 hb2 hs2 HQ
  obtain ⟨b, hb⟩ : ∃ b, w2.heap.size = b := ⟨_, rfl⟩
  have HA0 := Lib.hid (show Ar .i32 21 b n (fun _ => 0) (w2.alloc (.cells (fnArr n fun _ => .int .i32 0) 21)) from Ar.zeros w2 hb)
  have HK0 := Lib.hid ((Below.refl w2.heap.size w2).alloc (Nat.le_refl _) (.cells (fnArr n fun _ => .int .i32 0) 21))
  have HBE := Lib.hid hb
  rw [hb]
  obtain ⟨W, hW⟩ : ∃ W, w2.alloc (.cells (fnArr n fun _ => .int .i32 0) 21) = W := ⟨_, rfl⟩
  rw [hW] at HA0 HK0 ⊢
  clear hW hb hmk
  go_loopw [14] (fun i wr => ∃ j : Nat, j ≤ n ∧ i = .int .i64 j ∧ Ar .i32 21 b n (fun q => if q < j then -1 else 0) wr ∧ Keeps (fun q => q = b) W wr) (fun i _ => n - (intOf i).toNat)
  case atStart => exact ⟨0, by omega, rfl, HA0.out.eq fun i _ => by simp, Keeps.refl _ _⟩
  case round =>
    obtain ⟨j, hj, rfl, hA, hK⟩ := hrel
    have HA := Lib.hid hA
    have HK := Lib.hid hK
    by_cases hlt : j < n
    · have hlt' : (j : Int) < n := by omega
      have f0 := hA.free j
      have d0 := hA.cell hlt
      clear hA hK hlt
      go_wp2
      go_roundw
      case rel =>
        refine ⟨j + 1, by omega, by go_num, (HA.out.set j (-1)).eq fun i _ => ?_, HK.out.trans (Keeps.set1 _ _ _ _)⟩
        unfold upn
        by_cases e : i = j
        · subst e; simp
        · rw [if_neg e]; by_cases q : i < j <;> simp [q, show (i < j + 1) = (i < j) from by simp; omega]
      case measure => simp [intOf]; omega
    · obtain rfl : j = n := by omega
      have HA2 := Lib.hid (show Ar .i32 21 b j (numA O 0) wr from hA.eq fun i hi => by simp [hi, numA])
      have hkb := HK0.out
      have hx := (HX0.out.keep HK0.out).kept hK (by have := HS2.out; have := HBE.out; omega)
      have x1 := hx.cell 1
      clear hA hK hlt hx HA hkb
      go_wp2
      go_loopw [24] (fun i wr => ∃ i' : Nat, i' ≤ k ∧ i = .int .i64 i' ∧ Ar .i32 21 b j (numA O i') wr ∧ Keeps (fun q => q = b) W wr) (fun i _ => k - (intOf i).toNat)
      case atStart => exact ⟨0, by omega, rfl, HA2.out, HK.out⟩
      case round =>
        obtain ⟨i, hi, rfl, hA, hK⟩ := hrel
        have HA3 := Lib.hid hA
        have HK3 := Lib.hid hK
        by_cases hlt : i < k
        · have hlt' : (i : Int) < k := by omega
          have hOl : i < O.length := by have := HKL.out; omega
          have hold : Below w0.heap.size w0 wr := hK.below (HB.out.trans ((HB2.out.trans (HK0.out.mono HB2.out.size)).mono HB.out.size)) (by have := HB.out.size; have := HB2.out.size; have := HK0.out.size; omega) fun q e => by have := HBE.out; have := HB.out.size; have := HB2.out.size; omega
          obtain ⟨g, off, rfl, hc⟩ := (HO.out.keep hold).lie (by omega)
          have c0 := hc i hlt
          obtain ⟨y, hy⟩ : ∃ y, O[i] = y := ⟨_, rfl⟩
          have hby : byAt (O.map Int.ofNat) i = (y : Int) := by
            rw [← byAt_eq (by rw [List.length_map]; exact hOl), List.getElem_map, hy]; rfl
          rw [hby] at c0
          have hyn : y < j := HX.out.1 y (by rw [← hy]; exact List.getElem_mem _)
          have hy' : (y : Int) < j := by omega
          have f0 := hA.free y
          have d0 := hA.cell hyn
          have hg : O.getD i 0 = y := by rw [← hy]; simp [List.getD, hOl]
          have HG := Lib.hid hg
          have hw : IntKind.i32.wrap (i : Int) = (i : Int) := IntWalk.i32_in _ (by omega)
          obtain ⟨u, hu⟩ : ∃ u, numA O i y = u := ⟨_, rfl⟩
          rw [hu] at d0
          clear hA hK hlt hold hc hby hyn hy hg hu
          go_wp2
          go_roundw
          case rel =>
            refine ⟨i + 1, by omega, by go_num, (HA3.out.set y (i : Nat)).eq fun q _ => ?_, HK3.out.trans (Keeps.set1 _ _ _ _)⟩
            show _ = upn (numA O i) (O.getD i 0) (i : Nat) q
            rw [HG.out]
          case measure => simp [intOf]; omega
        · obtain rfl : i = k := by omega
          clear hA hK hlt
          go_wp2
          go_ret
          have h1 := HB2.out.size
          have h2 := HBE.out
          have hkl := HKL.out
          subst hkl
          exact ⟨b, rfl, HA3.out, by omega, HK3.out.below (HB2.out.trans (HK0.out.mono h1)) (by have := HK0.out.size; omega) fun q e => by omega⟩

open Go.RowKit Go.IntWalk Go.Shelf

attribute [local go_sem] Oper.semAt_some

/-- A list's numbers from its end, each with its place. -/
def backL (l : List Int) : List (Nat × Int) := (List.range l.length).reverse.map fun i => (i, byAt l i)
theorem backL_len (l : List Int) : (backL l).length = l.length := by simp [backL]
theorem backL_at {l : List Int} {k : Nat} (h : k < l.length) : (backL l)[k]'(by rw [backL_len]; exact h) = (l.length - 1 - k, byAt l (l.length - 1 - k)) := by
  simp [backL]
theorem backL_take {l : List Int} {k : Nat} (h : k < l.length) : (backL l).take (k + 1) = (backL l).take k ++ [(l.length - 1 - k, byAt l (l.length - 1 - k))] := by
  rw [List.take_succ_eq_append_getElem (by rw [backL_len]; exact h), backL_at h]
def bkV (x : Nat × Int) : Array Value := #[.int .i64 x.1, .int .i32 x.2]
theorem back_is (a : Option Addr) (n c : Nat) (w : World) :
    Calls Tryz.prog 73 #[.slice a n c] w fun e w' => e = .returned (.func (.func 79) #[] #[.pointer (some ⟨w.heap.size, 0, none⟩)]) ∧ w.alloc (.cells #[.slice a n c] 23) = w' := by
  go_enter Tryz.func73, Tryz.ntmps73
  go_wp2
  go_ret
  exact ⟨rfl, rfl⟩
/-- The blocks that the walk through a list reads. -/
def oneB (ba : Nat) (a : Option Addr) (n : Nat) (k : Nat) : Prop := k = ba ∨ (0 < n ∧ ∃ off, a = some ⟨k, off, none⟩)
theorem Ws.ltb {κ : IntKind} {w : World} {a : Option Addr} {n c : Nat} {l : List Int} (h : Ws κ w a n c l) (hn : 0 < n) : ∀ b off, a = some ⟨b, off, none⟩ → b < w.heap.size := by
  intro b off e
  obtain ⟨b', off', e', hc⟩ := h.lie hn
  obtain ⟨rfl, rfl⟩ : b = b' ∧ off = off' := by rw [e] at e'; simpa using e'
  exact cell_lt (hc 0 hn)
theorem Ws.calm {κ : IntKind} {K : Nat → Prop} {B : Nat} {o o' : Option Nat} {w w' : World} {a : Option Addr} {n c : Nat} {l : List Int} (h : Ws κ w a n c l) (hc : Calm K B o o' w w') (hK : ∀ k off, 0 < n → a = some ⟨k, off, none⟩ → (K k ∨ B ≤ k) ∧ o ≠ some k) : Ws κ w' a n c l := by
  refine ⟨h.len, h.cap, h.big, h.nil, fun hn => ?_⟩
  obtain ⟨b, off, e, hcell⟩ := h.lie hn
  have := hK b off hn e
  exact ⟨b, off, e, fun i hi => hc.cell this.1 this.2 (hcell i hi)⟩
set_option maxRecDepth 100000 in
set_option maxHeartbeats 1000000 in
theorem back_seq (m ba n c : Nat) (a : Option Addr) (l : List Int) (w : World) (hm : 1 ≤ m) (hba : ba < w.heap.size) (hca : w.cell? ⟨ba, 0, none⟩ = some (.slice a n c)) (hL : Ws .i32 w a n c l) (hn : n ≤ 1000) :
    SeqA Fence.wide m Tryz.prog 79 #[.pointer (some ⟨ba, 0, none⟩)] bkV (oneB ba a n) (fun xs => xs = backL l) (fun pre => pre <+: backL l) (fun p => p <+: backL l) w := fun L J Jx o W hW hJ hJx hJo hoK hY hJ0 => by
  have hca1 := (hW.cell (p := ⟨ba, 0, none⟩) hba).trans hca
  have hK1 := hL.keep hW
  have hKlt : ∀ q, oneB ba a n q → q < W.heap.size := by
    rintro q (rfl | ⟨h0, off, e⟩)
    · have := hW.size; omega
    · exact hK1.ltb h0 _ _ e
  have hlen := hL.len
  have hn' : (n : Int) ≤ 1000 := by omega
  have HE := Lib.hid (show (backL l).take n = backL l from List.take_of_length_le (by rw [backL_len]; omega))
  have HY := Lib.hid hY
  have HK1 := Lib.hid hK1
  have HLT := Lib.hid hKlt
  have HJ := Lib.hid hJ
  have HLN := Lib.hid hlen
  clear hca hL hK1 hY hKlt hlen hJ
  refine callsIn_of_wp Tryz.func79 rfl trivial ?_ rfl
  simp only [Tryz.ntmps79, List.size_toArray, List.length_cons, List.length_nil, Nat.reduceAdd, Nat.reduceSub, Array.replicate_succ, Array.replicate_zero, List.push_toArray, List.append_toArray, List.nil_append, List.cons_append]
  gi_wp2
  gi_loopw [3] (fun v wr => ∃ j : Nat, j ≤ n ∧ v = .int .i64 ((j : Int) - 1) ∧ ∃ o', J o' ((backL l).take (n - j)) wr ∧ Calm (oneB ba a n) W.heap.size o o' W wr) (fun v _ => (intOf v + 1).toNat)
  case atStart => exact ⟨n, by omega, rfl, o, by rw [Nat.sub_self, List.take_zero]; exact hJ0, Calm.refl _ _ _ _⟩
  case round =>
    obtain ⟨j, hj, rfl, o', hJk, hcal⟩ := hrel
    by_cases hlt : 0 < j
    · obtain ⟨i, rfl⟩ : ∃ i, j = i + 1 := ⟨j - 1, by omega⟩
      have hok : ∀ q, oneB ba a n q → o' ≠ some q := fun q hq => hcal.off (HLT.out q hq) (hoK q hq)
      have hca := hcal.cell (b := ba) (.inl (.inl rfl)) (hoK _ (.inl rfl)) hca1
      obtain ⟨g, off, ea, hc⟩ := (HK1.out.calm hcal fun q f h0 e => ⟨.inl (.inr ⟨h0, f, e⟩), hoK q (.inr ⟨h0, f, e⟩)⟩).lie (by omega)
      have c0 := hc i (by omega)
      rw [ea] at hca
      have HZ := Lib.hid (show (backL l).take (n - i) = (backL l).take (n - (i + 1)) ++ [(i, byAt l i)] from by
        have h1 := backL_take (l := l) (k := n - (i + 1)) (by have := HLN.out; omega)
        rw [show n - (i + 1) + 1 = n - i by omega, HLN.out, show n - 1 - (n - (i + 1)) = i by omega] at h1
        exact h1)
      obtain ⟨fn, tmps, assign, body, hy, hR⟩ := HY.out o' _ (i, byAt l i) wr hJk (by rw [← HZ.out]; exact List.take_prefix _ _)
      have HR := Lib.hid hR
      have HC2 := Lib.hid hcal
      have hin : (i : Int) < n := by omega
      have e1 : IntKind.i64.wrap (((i + 1 : Nat) : Int) - 1 - 1) = (i : Int) - 1 := by rw [IntWalk.i64_in _ (by omega)]; omega
      have e2 : (((i + 1 : Nat) : Int) - 1) = (i : Int) := by omega
      clear hc hR hcal hJk ea hca1 hJ0 hok
      simp only [bkV] at hy
      generalize byAt l i = u at *
      rw [e2]
      gi_wp2_with fail
      refine HR.out.mono ?_
      rintro e W3 ⟨o2, hc2, (⟨rfl, hJ3⟩ | ⟨rfl, hJ3⟩)⟩
      · gi_wp2
        go_roundw
        case rel => exact ⟨i, by omega, rfl, o2, by rw [HZ.out]; exact hJ3, HC2.out.trans hc2⟩
        case measure => simp [intOf]
      · gi_wp2
        refine bodyPost_ret (results_none rfl _ _ _) rfl ?_
        exact ⟨⟨_, rfl⟩, o2, .inr ⟨_, by rw [← HZ.out]; exact List.take_prefix _ _, hJ3⟩⟩
    · obtain rfl : j = 0 := by omega
      gi_wp2
      go_end0
      exact ⟨⟨_, rfl⟩, o', .inl ⟨_, rfl, by rw [Nat.sub_zero, HE.out] at hJk; exact hJk⟩⟩

open Go.RowKit Go.IntWalk Go.Shelf

attribute [local go_sem] Oper.semAt_some

namespace Gra
/-- A way up that was noted: each number stands under the one noted behind it (the last one first). -/
def Up (over : Nat → Int) : List Nat → Nat → Prop
  | [], _ => True
  | x :: Q, y => over x = (y : Nat) ∧ y < x ∧ Up over Q x
def bot : List Nat → Nat → Nat
  | [], y => y
  | x :: Q, _ => bot Q x
theorem Up.gt {over : Nat → Int} : ∀ {Q : List Nat} {y : Nat}, Up over Q y → ∀ z ∈ Q, y < z
  | x :: Q, y, h, z, hz => by
    rcases List.mem_cons.1 hz with rfl | hz
    · exact h.2.1
    · have := Up.gt h.2.2 z hz
      have := h.2.1
      omega
theorem Up.congr {f g : Nat → Int} : ∀ {Q : List Nat} {y : Nat}, Up f Q y → (∀ z ∈ Q, g z = f z) → Up g Q y
  | [], _, _, _ => trivial
  | x :: Q, y, h, e => ⟨(e x (by simp)).trans h.1, h.2.1, h.2.2.congr fun z hz => e z (List.mem_cons_of_mem _ hz)⟩
theorem Up.bot_le {over : Nat → Int} : ∀ {Q : List Nat} {y : Nat}, Up over Q y → Q.length + y ≤ bot Q y
  | [], y, _ => by simp [bot]
  | x :: Q, y, h => by
    have := Up.bot_le h.2.2
    have := h.2.1
    simp only [bot, List.length_cons]
    omega
end Gra
theorem own_len (a : Option Addr) (m m' c c' : Nat) : (Value.slice a m c).ownBlock = (Value.slice a m' c').ownBlock := by cases a <;> rfl
theorem OwnW.cut0 {κ : IntKind} {w : World} {base m c : Nat} {a : Option Addr} {e : TypeId} {l : List Int} (h : OwnW κ w base e (.slice a m c) l) : OwnW κ w base e (.slice a 0 c) [] := by
  obtain ⟨h1, h2⟩ := h
  refine ⟨by simp, ?_⟩
  rcases h2 with ⟨h2, h3⟩ | ⟨g, cap, cur, h2, h3, h4, h5, h6, h7, h8⟩
  · simp only [Value.slice.injEq] at h2
    obtain ⟨rfl, -, rfl⟩ := h2
    exact .inl ⟨rfl, rfl⟩
  · simp only [Value.slice.injEq] at h2
    obtain ⟨rfl, -, rfl⟩ := h2
    exact .inr ⟨g, c, cur, rfl, h3, h4, Nat.zero_le _, h6, h7, by simp⟩
theorem calm_keeps {K F : Nat → Prop} {B : Nat} {X Y : World} (k : Keeps F X Y) (h : ∀ q, F q → ¬ K q ∧ q < B) : Calm K B none none X Y :=
  ⟨k.size, fun q hq hl _ => k.block q hl fun f => hq.elim (h q f).1 fun e => by have := (h q f).2; omega, .inl rfl⟩
theorem Gra.Up.le_bot {over : Nat → Int} : ∀ {Q : List Nat} {y : Nat}, Gra.Up over Q y → ∀ z ∈ Q, z ≤ Gra.bot Q y
  | x :: Q, y, h, z, hz => by
    have h1 := Gra.Up.bot_le h.2.2
    rcases List.mem_cons.1 hz with rfl | hz
    · simp only [Gra.bot]; omega
    · exact Gra.Up.le_bot h.2.2 z hz
/-- The way up while it is shortened from above: so many have been looked at. -/
def LeaR (bF bl bo bb n t k : Nat) (par : Nat → Nat) (low : Nat → Int) (pv : Value) (Q : List Nat) (W : World) (bx c : Nat) (X : World) : Prop :=
  ∃ (over best : Nat → Int) (Q' : List Nat) (y : Nat), FoAt bF bl bo bb n low over best pv X ∧ Gra.ForI n par t low over best ∧ t < y ∧ y < n ∧ over y ≤ t ∧ Gra.Up over Q' y ∧ Gra.bot Q' y = k ∧ Q' = Q.drop c ∧
    BlkAt bx 116 #[.pointer (some ⟨bF, 0, none⟩)] X ∧ Keeps (fun j => j = bo ∨ j = bb) W X
/-- What least needs and keeps: the forest in memory, as numbers tell it. -/
structure LeaI (bF bl bo bb n base t : Nat) (par : Nat → Nat) (low over best : Nat → Int) (pv : Value) (pl : List Int) (w : World) : Prop where
  fo : FoAt bF bl bo bb n low over best pv w
  ow : OwnW .i32 w base 21 pv pl
  fi : Gra.ForI n par t low over best
  lt : bF < base ∧ bl < base ∧ bo < base ∧ bb < base ∧ base ≤ w.heap.size
/-- Who is the least. -/
def LeaU (t : Nat) (par : Nat → Nat) (low : Nat → Int) (k u : Nat) : Prop := (k ≤ t ∧ u = k) ∨ (t < k ∧ Gra.LeastU par t low k u)
set_option maxRecDepth 100000 in
set_option maxHeartbeats 4000000 in
theorem graLeast_is {E : Nat → Nat → Prop} {bF bl bo bb n base t k : Nat} {par : Nat → Nat} {low over best : Nat → Int} {pv : Value} {pl : List Int} {w : World} (D : Gra.Deep n E par) (h : LeaI bF bl bo bb n base t par low over best pv pl w) (hn : n ≤ 60) (hk : k < n) :
    Calls Tryz.prog 62 #[.pointer (some ⟨bF, 0, none⟩), .int .i32 k] w fun e w' => ∃ u over' best' pv' pl', e = .returned (.int .i32 (u : Nat)) ∧ LeaI bF bl bo bb n base t par low over' best' pv' pl' w' ∧ u < n ∧ LeaU t par low k u ∧ Keeps (fun j => j = bF ∨ j = bo ∨ j = bb ∨ pv.ownBlock = some j) w w' ∧ Nexts w pv pv' := by
  have hn' : (n : Int) ≤ 60 := by omega
  have hk' : (k : Int) < n := by omega
  have hb0 := (Below.refl w.heap.size w).alloc (Nat.le_refl _) (.cells #[.pointer (some ⟨bF, 0, none⟩)] 116)
  have hx0 : BlkAt w.heap.size 116 #[.pointer (some ⟨bF, 0, none⟩)] (w.alloc (.cells #[.pointer (some ⟨bF, 0, none⟩)] 116)) := BlkAt.new _ _ _
  have hf0 := h.fo.keep hb0
  have c0 := hf0.box.cell 1
  have c1 := hf0.ov.cell hk
  have c2 := hx0.cell 0
  obtain ⟨v, hv⟩ : ∃ v, over k = v := ⟨_, rfl⟩
  rw [hv] at c1
  have H := Lib.hid h
  have HV := Lib.hid hv
  clear hb0 hx0 hf0 h hv
  refine (callsIn_wide (n := 8)).1 ?_
  refine callsIn_of_wp_marks Tryz.func62 rfl trivial ?_ rfl
  simp only [Tryz.ntmps62, List.size_toArray, List.length_cons, List.length_nil, Nat.reduceAdd, Nat.reduceSub, Array.replicate_succ, Array.replicate_zero, List.push_toArray, List.append_toArray, List.nil_append, List.cons_append]
  by_cases ht : k ≤ t
  · have hv1 : v = -1 := by rw [← HV.out]; exact (H.out.fi.un k ht hk).1
    subst hv1
    gi_wp2
    refine ⟨_, results_tmp rfl _ _ _, ?_⟩
    have hb := (Below.refl w.heap.size w).alloc (Nat.le_refl _) (.cells #[.pointer (some ⟨bF, 0, none⟩)] 116)
    exact ⟨k, over, best, pv, pl, rfl, ⟨H.out.fo.keep hb, H.out.ow.keep hb, H.out.fi, by have := H.out.lt; simp; omega⟩, hk, .inl ⟨ht, rfl⟩, Keeps.of_below _ hb, Nexts.refl _ _⟩
  · have htk : t < k := by omega
    obtain ⟨a0, ha0, hA1, ha1, ha2, b9, hb9, hb8⟩ := H.out.fi.ov k htk hk
    have hv1 : v = (a0 : Int) := by rw [← HV.out]; exact ha0
    subst hv1
    obtain ⟨ap, cp, rfl, hpv⟩ := H.out.ow.wsn (m := pl.length) rfl
    have hrun : ∀ w, (Instr.slice 23 (.slice ap pl.length cp) none (some (.int .i64 0)) none).run Tryz.prog w = .ok (.slice ap 0 cp) w := fun w => by
      have := run_cut_to (P := Tryz.prog) 23 Tryz.underlying23 (s := 1) (fun w => Tryz.sizeOf21 w) ap pl.length cp 0 (by omega) w
      rw [sliced_to] at this
      exact this
    have hb0 := (Below.refl w.heap.size w).alloc (Nat.le_refl _) (.cells #[.pointer (some ⟨bF, 0, none⟩)] 116)
    have hx0 : BlkAt w.heap.size 116 #[.pointer (some ⟨bF, 0, none⟩)] (w.alloc (.cells #[.pointer (some ⟨bF, 0, none⟩)] 116)) := BlkAt.new _ _ _
    have hL0 : LeaI bF bl bo bb n base t par low over best (.slice ap pl.length cp) pl (w.alloc (.cells #[.pointer (some ⟨bF, 0, none⟩)] 116)) := ⟨H.out.fo.keep hb0, H.out.ow.keep hb0, H.out.fi, by have := H.out.lt; simp only [World.size_alloc]; omega⟩
    have c3 := hL0.fo.box.cell 3
    have HL0 := Lib.hid hL0
    have HX0 := Lib.hid hx0
    have HB0 := Lib.hid hb0
    have HLT := Lib.hid H.out.lt
    have HD := Lib.hid D
    have HA := Lib.hid (And.intro ha0 (And.intro hA1 ha1))
    have ha0' : (a0 : Int) ≠ -1 := by omega
    have hne : ((a0 : Int) == -1) = false := by simp
    clear hb0 hx0 hL0 hpv ha0 hA1 ha1 ha2 hb9 hb8 ht
    obtain ⟨W0, hW0⟩ : ∃ W0, w.alloc (.cells #[.pointer (some ⟨bF, 0, none⟩)] 116) = W0 := ⟨_, rfl⟩
    rw [hW0] at HL0 HX0 HB0
    obtain ⟨bx, hbx⟩ : ∃ bx, w.heap.size = bx := ⟨_, rfl⟩
    have HBX := Lib.hid hbx
    have HW0 := Lib.hid hW0
    rw [hbx] at HX0
    clear hW0 hbx
    gi_wp2
    rw [HW0.out, HBX.out]
    clear c0 c1 c2 c3
    gi_loopw [5, 6] (fun v5 v6 wr => ∃ (Q : List Nat) (y : Nat), v6 = .int .i32 y ∧ t < y ∧ y < n ∧ Gra.Up over Q y ∧ Gra.bot Q y = k ∧ OwnW .i32 wr base 21 v5 (Q.reverse.map Int.ofNat) ∧ Keeps (fun j => (Value.slice ap pl.length cp).ownBlock = some j) W0 wr ∧ Nexts W0 (.slice ap pl.length cp) v5) (fun _ v6 _ => (intOf v6).toNat)
    case atStart => exact ⟨[], k, rfl, htk, hk, trivial, rfl, HL0.out.ow.cut0, Keeps.refl _ _, fun j e => .inl (by rw [own_len ap pl.length 0 cp cp]; exact e)⟩
    case round =>
      obtain ⟨Q, y, rfl, hty, hyn, hup, hbot, hown, hK, hnx⟩ := hrel
      obtain ⟨y1, e1, g1, g2, g3, g4⟩ := HL0.out.fi.ov y hty hyn
      have hoff : ∀ {j : Nat}, (Value.slice ap pl.length cp).ownBlock = some j → base ≤ j := fun e => (HL0.out.ow.lt _ e).1
      have hf := HL0.out.fo.kept hK (fun e => by have := hoff e; have := HLT.out; omega) (fun e => by have := hoff e; have := HLT.out; omega) (fun e => by have := hoff e; have := HLT.out; omega) (fun e => by have := hoff e; have := HLT.out; omega)
      have hx := (HX0.out.kept hK fun e => by have := (H.out.ow.lt _ e).2; have := HBX.out; omega)
      have c0 := hf.box.cell 1
      have c1 := hf.ov.cell hyn
      have c2 := hx.cell 0
      rw [e1] at c1
      have hyn' : (y : Int) < n := by omega
      have hy1n : (y1 : Int) < n := by omega
      have c4 := hf.ov.cell (i := y1) (by omega)
      have HF := Lib.hid hf
      have HX := Lib.hid hx
      have HK := Lib.hid hK
      have HNX := Lib.hid hnx
      have HOW := Lib.hid hown
      have HUP := Lib.hid hup
      have HY := Lib.hid (And.intro e1 (And.intro g1 (And.intro g2 (And.intro g3 g4))))
      obtain ⟨z, hz⟩ : ∃ z, over y1 = z := ⟨_, rfl⟩
      rw [hz] at c4
      have hy1y : y1 < y := g2
      obtain ⟨a5, c5, rfl, -⟩ := hown.wsn (m := Q.length) (by simp)
      obtain ⟨i0, hi, hz0, hz1, hz2⟩ := info_parts infoI32
      have HIO := Lib.hid (And.intro hi (And.intro hz0 (And.intro hz1 hz2)))
      have HQL := Lib.hid (show Q.length ≤ 60 from by have := hup.bot_le; omega)
      have HOFF := Lib.hid (fun (j : Nat) (e : (Value.slice a5 Q.length c5).ownBlock = some j) => (show base ≤ j ∧ ¬ bx = j from ⟨(hown.lt j e).1, fun q => by
        have h1 := HBX.out
        have h2 : bx < W0.heap.size := HX0.out.lt
        rcases hnx j e with h | h
        · have := (H.out.ow.lt _ h).2; omega
        · omega⟩))
      have HYN := Lib.hid hyn
      have HBW := Lib.hid (show base ≤ wr.heap.size from by have := hK.size; have := HL0.out.lt; omega)
      clear hf hx hK hnx hown hup e1 g1 g2 g3 g4 hoff hi hz0 hz1 hz2
      by_cases hyt : t < y1
      · obtain ⟨z1, hz1, -⟩ := HL0.out.fi.ov y1 hyt (by omega)
        have hzz : z = (z1 : Int) := by rw [← hz]; exact hz1
        subst hzz
        have HZ := Lib.hid (And.intro hz hyt)
        clear hz hz1 hyt
        have hne2 : ((z1 : Int) == -1) = false := by simp
        gi_wp2
        refine wpIn_wide.2 ?_
        go_quiet (fail)
        gi_wp2_with (gi_at_builtin; refine wpListIn_append_next _ rfl _ _ 23 rfl base 21 i0 (.int .i32 0) 4 Tryz.underlying23 HIO.out.1 HIO.out.2.1 HIO.out.2.2.1 HIO.out.2.2.2 rfl _ _ _ rfl (OwnW.keep (w := wr.drewN _) HOW.out ((Below.refl _ _).alloc (Nat.le_refl _) _)) ⟨wr.heap.size, 0, none⟩ 1 (.int .i32 y) rfl ((BlkAt.newb _ _ _ (by simp)).cell 0) (by simp [Value.oneCell']) (by unfold maxLen; have := HQL.out; simp; omega) (by have := HQL.out; simp; omega) (by have := HBW.out; simp; omega) ?_; intro v' w1 hown' hgrow hnext; have kg : Keeps (fun j => (Value.slice a5 Q.length c5).ownBlock = some j) wr w1 := ((Keeps.of_below _ (below_drewN (Below.refl _ _) _)).trans (Keeps.of_below _ ((Below.refl _ _).alloc (Nat.le_refl _) _))).trans (Keeps.of_grown hgrow fun j e => e); have KG := Lib.hid kg; have hf1 := HF.out.kept kg (fun e => by have := HOFF.out _ e; have := HLT.out; omega) (fun e => by have := HOFF.out _ e; have := HLT.out; omega) (fun e => by have := HOFF.out _ e; have := HLT.out; omega) (fun e => by have := HOFF.out _ e; have := HLT.out; omega); have hx1 := HX.out.kept kg (fun e => by have := HOFF.out _ e; omega); have d0 := hf1.box.cell 1; have d1 := hf1.ov.cell HYN.out; rw [HY.out.1] at d1; have d2 := hx1.cell 0; have HOW1 := Lib.hid hown'; have HNX1 := Lib.hid hnext; clear hgrow kg hf1 hx1 hown' hnext)
        go_roundw
        case rel =>
          refine ⟨y :: Q, y1, rfl, HZ.out.2, by omega, ⟨HY.out.1, hy1y, HUP.out⟩, hbot, ?_, ?_, ?_⟩
          · have := HOW1.out
            unfold OwnW
            simp only [List.reverse_cons, List.map_append, List.map_cons, List.map_nil, List.length_append, List.length_cons, List.length_nil, List.length_map, List.length_reverse] at this ⊢
            exact this
          · exact HK.out.next KG.out fun j hj e => (HNX.out j e).elim id fun e => absurd e (by omega)
          · exact fun j e => by
              rcases HNX1.out with q | q
              · exact HNX.out j (Eq.trans (Eq.symm q) e)
              · rw [q] at e
                simp only [Option.some.injEq] at e
                exact .inr (by rw [← e]; have := HK.out.size; simp; omega)
        case measure => simp [intOf]; omega
      · have hzz : z = -1 := by rw [← hz]; exact (HL0.out.fi.un y1 (by omega) (by omega)).1
        subst hzz
        have HZ := Lib.hid (And.intro hz hyt)
        clear hz hyt hne
        gi_wp2
        refine wpIn_wide.2 ?_
        go_quiet (fail)
        gi_wp2_with fail
        refine ⟨trivial, (callsIn_wide.2 (back_is a5 Q.length c5 _)).mono ?_⟩
        rintro e W ⟨rfl, hW⟩
        have hkW : Below wr.heap.size wr W := hW ▸ (below_drewN (Below.refl _ _) _).alloc (by simp) _
        have hsW : W.heap.size = wr.heap.size + 1 := by rw [← hW]; simp
        have cW : W.cell? ⟨wr.heap.size, 0, none⟩ = some (.slice a5 Q.length c5) := by rw [← hW]; exact (BlkAt.newb _ _ _ (by simp)).cell 0
        have hls : Ws .i32 W a5 Q.length c5 (Q.reverse.map Int.ofNat) := by
          obtain ⟨a6, c6, e6, h6⟩ := (HOW.out.keep hkW).wsn (m := Q.length) (by simp)
          simp only [Value.slice.injEq] at e6
          obtain ⟨rfl, -, rfl⟩ := e6
          exact h6
        have hfW := HF.out.keep hkW
        have hxW := HX.out.keep hkW
        have hz3 : (wr.drewN nq).heap.size = wr.heap.size := by simp
        rw [hz3]
        clear hW
        have HKB := Lib.hid (show ∀ q, oneB wr.heap.size a5 Q.length q → q < W.heap.size ∧ q ≠ bF ∧ q ≠ bo ∧ q ≠ bb from fun q hq => by
          have hlt := HLT.out
          have hlw := HF.out.lt
          rcases hq with rfl | ⟨h0, off, e⟩
          · have h1 := HBW.out; omega
          · have h1 := hls.ltb h0 _ _ e
            have h2 := (HOFF.out q (by rw [e]; rfl)).1
            omega)
        gi_wp2
        have hQr : (Q.reverse.map Int.ofNat).length = Q.length := by simp
        have HQR := Lib.hid (show ∀ p, p < Q.length → byAt (Q.reverse.map Int.ofNat) (Q.length - 1 - p) = ((Q.getD p 0 : Nat) : Int) from fun p hp => by
          rw [← byAt_eq (by rw [hQr]; omega), List.getElem_map, List.getElem_reverse]
          simp only [List.getD, List.getElem?_eq_getElem hp, Option.getD_some]
          show ((Q[Q.length - 1 - (Q.length - 1 - p)] : Nat) : Int) = _
          congr 2
          omega)
        have HQN := Lib.hid (show ∀ z ∈ Q, z < n from fun z hz => Nat.lt_of_le_of_lt (HUP.out.le_bot z hz) (by rw [hbot]; exact hk))
        have hsW2 : bx < W.heap.size ∧ bF < W.heap.size ∧ bl < W.heap.size ∧ bo < W.heap.size ∧ bb < W.heap.size := ⟨hxW.lt, hfW.lt.1, hfW.lt.2.1, hfW.lt.2.2.1, hfW.lt.2.2.2⟩
        have HSW := Lib.hid hsW2
        refine wpIn_rangeA rfl (by decide) (gf := 79) (lb := #[.pointer (some ⟨wr.heap.size, 0, none⟩)]) rfl trivial (enters_of Tryz.func79 (by kernel_rfl) rfl)
          (back_seq 7 wr.heap.size Q.length c5 a5 (Q.reverse.map Int.ofNat) W (by omega) (by omega) cW hls (by have := HQL.out; omega)) (Below.refl _ _) (fun q hq => (HKB.out q hq).1) (fun _ => rfl)
          (fun o pre X => o = none ∧ LeaR bF bl bo bb n t k par low (.slice ap pl.length cp) Q W bx pre.length X)
          (fun _ _ _ _ => False)
          ?hI ?hIx (fun o xs X h q hq => by rw [h.1] at hq; cases hq) none (fun _ _ h => by cases h) ⟨rfl, ?h0⟩
          ?a1 (fun _ X => X) (fun _ X => ⟨rfl, rfl, rfl, Nat.le_refl _, fun _ _ _ => rfl⟩) ?assign ?body ?done ?stop
        case assign =>
          rintro l2 x X Kc hKc
          simp only [bkV]
          gi_wp2
          exact hKc
        case h0 => exact ⟨over, best, Q, y, hfW, HL0.out.fi, hty, hyn, by have := HY.out.1; have := HZ.out.2; omega, HUP.out, hbot, by simp, hxW, Keeps.refl _ _⟩
        case hI =>
          rintro o s X Y row ⟨rfl, over', best', Q', y', i1, i2, i3, i4, i5, i6, i7, i8, i9, i10⟩ hg hr
          have hsW3 := HSW.out
          have hkk : Keeps (fun j => row = some j) X Y := Keeps.of_grown hg fun j e => e
          have hno : ∀ {q}, q < W.heap.size → ¬ row = some q := fun hq e => by have := (hr _ e).1; omega
          exact ⟨rfl, over', best', Q', y', i1.kept hkk (hno (by omega)) (hno (by omega)) (hno (by omega)) (hno (by omega)), i2, i3, i4, i5, i6, i7, i8, i9.kept hkk (hno (by omega)), i10.next hkk fun j hj e => absurd e (hno hj)⟩
        case hIx => exact fun _ _ _ _ _ _ h => h.elim
        case stop => exact fun _ _ _ _ _ _ _ h => h.elim
        case body =>
          rintro l2 o pre ⟨i, u⟩ V X ⟨rfl, over', best', Q', y', i1, i2, i3, i4, i5, i6, i7, i8, i9, i10⟩ hT hV1 hV2 hsz hnew
          have hpl : pre.length < Q.length := by
            have := hT.length_le
            rw [backL_len] at this
            simp at this
            omega
          have hxe := hT.getElem (i := pre.length) (by simp)
          rw [List.getElem_append_right (Nat.le_refl _)] at hxe
          simp only [Nat.sub_self, List.getElem_cons_zero] at hxe
          rw [backL_at (by rw [hQr]; exact hpl), hQr] at hxe
          obtain ⟨rfl, hu⟩ := Prod.mk.inj hxe
          rw [HQR.out _ hpl] at hu
          obtain ⟨j, hj⟩ : ∃ j, Q.getD pre.length 0 = j := ⟨_, rfl⟩
          rw [hj] at hu
          subst hu
          have hdr : Q.drop pre.length = j :: Q.drop (pre.length + 1) := by
            rw [List.drop_eq_getElem_cons hpl, ← hj]
            simp [List.getD, hpl]
          rw [i8, hdr] at i6 i7
          have hjn : j < n := HQN.out j (by rw [← hj]; simp [List.getD, hpl])
          obtain ⟨o1, o2, o3⟩ := i6
          have htj : t < j := by omega
          obtain ⟨z1, z2, z3, z4, z5, bj, z6, z7, z8, z9⟩ := i2.ov j htj hjn
          obtain ⟨q1, q2, q3, q4, q5, ba, q6, q7, q8, q9⟩ := i2.ov y' i3 i4
          obtain ⟨r, r1, r2, r3⟩ := i2.short HD.out htj hjn o1 i3 z6 q6
          have hbjn : bj < n := by have := HD.out.anc_le z7 hjn; omega
          have hban : ba < n := by have := HD.out.anc_le q7 i4; omega
          have m1 := i1.ov.cell hjn
          have m2 := i1.ov.cell i4
          have m3 := i1.be.cell hjn
          have m4 := i1.be.cell i4
          have m5 := i1.lo.cell hbjn
          have m6 := i1.lo.cell hban
          rw [o1] at m1
          rw [r1] at m2
          rw [z6] at m3
          rw [q6] at m4
          have b0 := i1.box.cell 0
          have b1 := i1.box.cell 1
          have b2 := i1.box.cell 2
          have x0 := i9.cell 0
          have fo := i1.ov.free j
          have fb := i1.be.free j
          obtain ⟨lj, hlj⟩ : ∃ v, low bj = v := ⟨_, rfl⟩
          obtain ⟨la, hla⟩ : ∃ v, low ba = v := ⟨_, rfl⟩
          rw [hlj] at m5 r3
          rw [hla] at m6 r3
          have jn' : (j : Int) < n := by omega
          have yn' : (y' : Int) < n := by omega
          have bjn' : (bj : Int) < n := by omega
          have ban' : (ba : Int) < n := by omega
          obtain ⟨n1, n2, n3⟩ := i1.ne
          have e1 : ¬ bl = bo := n1
          have e2 : ¬ bl = bb := n2
          have e3 : ¬ bo = bb := n3
          have e4 : ¬ bb = bo := fun q => n3 q.symm
          have e5 : ¬ bF = bb := fun q => i1.off.2.2 q.symm
          have e6 : ¬ bF = bo := fun q => i1.off.2.1 q.symm
          have hbxt : bx ≠ bb ∧ bx ≠ bo := ⟨fun q => i1.be.ne_blk i9 (by decide) q.symm, fun q => i1.ov.ne_blk i9 (by decide) q.symm⟩
          have e7 : ¬ bx = bb := hbxt.1
          have e8 : ¬ bx = bo := hbxt.2
          have HI := Lib.hid (And.intro i1 (And.intro r2 (And.intro r3 (And.intro i9 (And.intro i10 (And.intro i4 (And.intro o3 (And.intro i7 htj))))))))
          have HRY := Lib.hid (show r ≤ t ∧ y' < j from by omega)
          have HYL := Lib.hid (And.intro i4 (And.intro o1 r1))
          clear i1 i2 i3 i4 i5 i7 i8 i9 i10 o1 o2 o3 htj z1 z2 z3 z4 z5 z6 z7 z8 z9 q1 q2 q3 q4 q5 q6 q7 q8 q9 r1 r2 r3 hbjn hban n1 n2 n3 hbxt hdr hT hxe hnew hlj hla
          by_cases hlt : la < lj
          · gi_wp2
            refine wpIn_round_tail 26 (by kernel_rfl) (by kernel_rfl) (by kernel_rfl) ?_
            simp only [List.take_succ_cons, List.take_zero, List.drop_succ_cons, List.drop_zero]
            repeat still_step
            refine wpStill_nil ?_
            gi_wp2
            obtain ⟨X1, hX1⟩ : ∃ X1, X.drew = X1 := ⟨_, rfl⟩
            rw [hX1]
            replace m1 : X1.cell? ⟨bo, j, none⟩ = some (.int .i32 y') := by rw [← hX1]; exact m1
            replace m2 : X1.cell? ⟨bo, y', none⟩ = some (.int .i32 r) := by rw [← hX1]; exact m2
            replace m3 : X1.cell? ⟨bb, j, none⟩ = some (.int .i32 bj) := by rw [← hX1]; exact m3
            replace m4 : X1.cell? ⟨bb, y', none⟩ = some (.int .i32 ba) := by rw [← hX1]; exact m4
            replace m5 : X1.cell? ⟨bl, bj, none⟩ = some (.int .i32 lj) := by rw [← hX1]; exact m5
            replace m6 : X1.cell? ⟨bl, ba, none⟩ = some (.int .i32 la) := by rw [← hX1]; exact m6
            replace b0 : X1.cell? ⟨bF, 0, none⟩ = some (.slice (some ⟨bl, 0, none⟩) n n) := by rw [← hX1]; exact b0
            replace b1 : X1.cell? ⟨bF, 1, none⟩ = some (.slice (some ⟨bo, 0, none⟩) n n) := by rw [← hX1]; exact b1
            replace b2 : X1.cell? ⟨bF, 2, none⟩ = some (.slice (some ⟨bb, 0, none⟩) n n) := by rw [← hX1]; exact b2
            replace x0 : X1.cell? ⟨bx, 0, none⟩ = some (.pointer (some ⟨bF, 0, none⟩)) := by rw [← hX1]; exact x0
            replace fo : X1.frozen? ⟨bo, j, none⟩ = false := by rw [← hX1]; exact fo
            replace fb : X1.frozen? ⟨bb, j, none⟩ = false := by rw [← hX1]; exact fb
            have HX1 := Lib.hid hX1
            clear hX1
            refine wpIn_round_tail 12 (by kernel_rfl) (by kernel_rfl) (by kernel_rfl) ?_
            simp only [List.take_succ_cons, List.take_zero, List.drop_succ_cons, List.drop_zero]
            repeat still_step
            refine wpStill_nil ?_
            gi_wp2
            obtain ⟨X2, hX2⟩ : ∃ X2, (X1.setCell ⟨bb, j, none⟩ (.int .i32 ba)).drew = X2 := ⟨_, rfl⟩
            rw [hX2]
            clear m1 m2 m3 m4 m5 m6 b0 b1 b2 x0 fo fb
            rw [← HX1.out] at hX2
            have k1 : Keeps (fun q => q = bb) X X2 := by rw [← hX2]; exact ((Keeps.of_below _ (Below.refl _ _).drew).trans (Keeps.set1 _ _ _ _)).trans (Keeps.of_below _ (Below.refl _ _).drew)
            have hbe2 : Ar .i32 21 bb n (upn best' j (ba : Nat)) X2 := by rw [← hX2]; exact HI.out.1.be.set j ba
            have hov2 := HI.out.1.ov.kept k1 e3
            have hlo2 := HI.out.1.lo.kept k1 e2
            have hbox2 := HI.out.1.box.kept k1 e5
            have hx2 := HI.out.2.2.2.1.kept k1 e7
            have m1 := hov2.cell hjn
            have m2 := hov2.cell HYL.out.1
            rw [HYL.out.2.1] at m1
            rw [HYL.out.2.2] at m2
            have b1 := hbox2.cell 1
            have x0 := hx2.cell 0
            have fo := hov2.free j
            have H2 := Lib.hid (And.intro k1 (And.intro hbe2 (And.intro hov2 (And.intro hlo2 (And.intro hbox2 hx2)))))
            clear hX2 k1 hbe2 hov2 hlo2 hbox2 hx2
            refine wpIn_round_tail 12 (by kernel_rfl) (by kernel_rfl) (by kernel_rfl) ?_
            simp only [List.take_succ_cons, List.take_zero, List.drop_succ_cons, List.drop_zero]
            repeat still_step
            refine wpStill_nil ?_
            gi_wp2
            obtain ⟨k1, hbe2, hov2, hlo2, hbox2, hx2⟩ := H2.out
            obtain ⟨i1, r2, r3, i9, i10, i4, o3, i7, htj⟩ := HI.out
            have k2 : Keeps (fun q => q = bo) X2 ((X2.setCell ⟨bo, j, none⟩ (.int .i32 r)).drew) := (Keeps.set1 _ _ _ _).next (Keeps.of_below (fun _ => False) (Below.refl _ _).drew) fun q _ e => e.elim
            have k3 : Keeps (fun q => q = bo ∨ q = bb) X ((X2.setCell ⟨bo, j, none⟩ (.int .i32 r)).drew) := (k1.mono fun q _ e => .inr e).trans (k2.mono fun q _ e => .inl e)
            have hov3 : Ar .i32 21 bo n (upn over' j (r : Nat)) ((X2.setCell ⟨bo, j, none⟩ (.int .i32 r)).drew) := hov2.set j r
            rw [if_pos hlt] at r3
            refine ⟨none, calm_keeps k3 fun q hq => ?_, rfl, upn over' j (r : Nat), upn best' j (ba : Nat), Q.drop (pre.length + 1), j, ⟨hbox2.kept k2 e6, hlo2.kept k2 e1, hov3, hbe2.kept k2 e4, i1.ne⟩, r3, htj, hjn, ?_, ?_, i7, by simp, hx2.kept k2 e8, i10.trans k3⟩
            · exact ⟨fun hK => by have := HKB.out q hK; omega, by have := HSW.out; omega⟩
            · rw [upn_at]; have := HRY.out; omega
            · exact o3.congr fun z hz => upn_off _ _ (by have := o3.gt z hz; omega)
          · gi_wp2
            refine wpIn_round_tail 26 (by kernel_rfl) (by kernel_rfl) (by kernel_rfl) ?_
            simp only [List.take_succ_cons, List.take_zero, List.drop_succ_cons, List.drop_zero]
            repeat still_step
            refine wpStill_nil ?_
            gi_wp2
            obtain ⟨X2, hX2⟩ : ∃ X2, X.drew = X2 := ⟨_, rfl⟩
            rw [hX2]
            clear m1 m2 m3 m4 m5 m6 b0 b1 b2 x0 fo fb
            have k1 : Keeps (fun q => q = bb) X X2 := by rw [← hX2]; exact Keeps.of_below _ (Below.refl _ _).drew
            have hbe2 : Ar .i32 21 bb n (best') X2 := by rw [← hX2]; exact HI.out.1.be
            have hov2 := HI.out.1.ov.kept k1 e3
            have hlo2 := HI.out.1.lo.kept k1 e2
            have hbox2 := HI.out.1.box.kept k1 e5
            have hx2 := HI.out.2.2.2.1.kept k1 e7
            have m1 := hov2.cell hjn
            have m2 := hov2.cell HYL.out.1
            rw [HYL.out.2.1] at m1
            rw [HYL.out.2.2] at m2
            have b1 := hbox2.cell 1
            have x0 := hx2.cell 0
            have fo := hov2.free j
            have H2 := Lib.hid (And.intro k1 (And.intro hbe2 (And.intro hov2 (And.intro hlo2 (And.intro hbox2 hx2)))))
            clear hX2 k1 hbe2 hov2 hlo2 hbox2 hx2
            refine wpIn_round_tail 12 (by kernel_rfl) (by kernel_rfl) (by kernel_rfl) ?_
            simp only [List.take_succ_cons, List.take_zero, List.drop_succ_cons, List.drop_zero]
            repeat still_step
            refine wpStill_nil ?_
            gi_wp2
            obtain ⟨k1, hbe2, hov2, hlo2, hbox2, hx2⟩ := H2.out
            obtain ⟨i1, r2, r3, i9, i10, i4, o3, i7, htj⟩ := HI.out
            have k2 : Keeps (fun q => q = bo) X2 ((X2.setCell ⟨bo, j, none⟩ (.int .i32 r)).drew) := (Keeps.set1 _ _ _ _).next (Keeps.of_below (fun _ => False) (Below.refl _ _).drew) fun q _ e => e.elim
            have k3 : Keeps (fun q => q = bo ∨ q = bb) X ((X2.setCell ⟨bo, j, none⟩ (.int .i32 r)).drew) := (k1.mono fun q _ e => .inr e).trans (k2.mono fun q _ e => .inl e)
            have hov3 : Ar .i32 21 bo n (upn over' j (r : Nat)) ((X2.setCell ⟨bo, j, none⟩ (.int .i32 r)).drew) := hov2.set j r
            rw [if_neg (show ¬ la < lj by omega)] at r3
            refine ⟨none, calm_keeps k3 fun q hq => ?_, rfl, upn over' j (r : Nat), best', Q.drop (pre.length + 1), j, ⟨hbox2.kept k2 e6, hlo2.kept k2 e1, hov3, hbe2.kept k2 e4, i1.ne⟩, r3, htj, hjn, ?_, ?_, i7, by simp, hx2.kept k2 e8, i10.trans k3⟩
            · exact ⟨fun hK => by have := HKB.out q hK; omega, by have := HSW.out; omega⟩
            · rw [upn_at]; have := HRY.out; omega
            · exact o3.congr fun z hz => upn_off _ _ (by have := o3.gt z hz; omega)
        case done =>
          rintro DD o xs X hD rfl ⟨rfl, over', best', Q', y', i1, i2, i3, i4, i5, i6, i7, i8, i9, i10⟩ hdef hne
          rw [backL_len, hQr, List.drop_length] at i8
          subst i8
          have hyk : y' = k := i7
          subst hyk
          have hrow : over' y' ≤ (t : Int) := i5
          obtain ⟨ub, u1, u2, u3⟩ := i2.bestU HD.out i3 i4 hrow
          have hlow := (And.intro i2 (And.intro u2 u3))
          have HI := Lib.hid (And.intro i1 (And.intro i2 (And.intro u2 (And.intro u3 i10))))
          have b2 := i1.box.cell 2
          have b3 := i1.box.cell 3
          have f3 := i1.box.free 3
          have x0 := i9.cell 0
          have m1 := i1.be.cell i4
          rw [u1] at m1
          obtain ⟨n1, n2, n3⟩ := i1.off
          have e1 : ¬ bb = bF := n3
          have e2 : ¬ bF = bb := fun q => n3 q.symm
          have hbx : bx ≠ bF := fun q => by
            have hx : BlkAt bF 116 #[.pointer (some ⟨bF, 0, none⟩)] X := q ▸ i9
            exact absurd (BlkAt.type_eq hx i1.box) (by decide)
          have e3 : ¬ bx = bF := hbx
          have HDEF := Lib.hid hdef
          have HDN := Lib.hid hD
          clear i1 i2 i3 i5 i6 i7 i9 i10 hrow u1 u2 u3 hlow n1 n2 n3 hbx hdef hne hD
          gi_wp2
          have hZd : (X.setCell ⟨bF, 3, none⟩ (.slice a5 Q.length c5)).heap[DD]? = some (.deferred (some [])) := (Below.heap_setCell _ _ _ _ (show DD ≠ bF by have := HDN.out; have := HSW.out; omega)).trans HDEF.out
          refine ⟨by simp, .inl ⟨_, _, rfl, run_takeDeferred hZd, ?_⟩⟩
          refine ⟨_, results_tmp rfl _ _ _, ?_⟩
          have hdn := HDN.out
          have hsw := HSW.out
          have k1 := Keeps.set1 X bF 3 (.slice a5 Q.length c5)
          have k2 : Keeps (fun j => j = DD) (X.setCell ⟨bF, 3, none⟩ (.slice a5 Q.length c5)) ((X.setCell ⟨bF, 3, none⟩ (.slice a5 Q.length c5)).putObj DD (.deferred Option.none)) := ⟨rfl, rfl, rfl, by simp [World.putObj], fun j hj hn => World.putObj_heap_other hn⟩
          obtain ⟨i1, i2, u2, u3, i10⟩ := HI.out
          have hbox : BlkAt bF 122 #[.slice (some ⟨bl, 0, none⟩) n n, .slice (some ⟨bo, 0, none⟩) n n, .slice (some ⟨bb, 0, none⟩) n n, .slice a5 Q.length c5] (X.setCell ⟨bF, 3, none⟩ (.slice a5 Q.length c5)) := (i1.box.set 3 _).eq rfl
          have hown : OwnW .i32 (X.setCell ⟨bF, 3, none⟩ (.slice a5 Q.length c5)) base 21 (.slice a5 Q.length c5) (Q.reverse.map Int.ofNat) := ((HOW.out.keep hkW).kept i10 fun q e f => by
            have h1 := (HOW.out.lt q e).1
            have h2 := HLT.out
            omega).kept k1 fun q e f => by
            have h1 := (HOW.out.lt q e).1
            have h2 := HLT.out
            omega
          have hown2 := hown.kept k2 fun q e f => by
            have h1 := (HOW.out.lt q e).2
            omega
          refine ⟨ub, over', best', .slice a5 Q.length c5, Q.reverse.map Int.ofNat, rfl, ⟨⟨hbox.kept k2 (by omega), (i1.lo.kept k1 i1.off.1).kept k2 (by omega), (i1.ov.kept k1 i1.off.2.1).kept k2 (by omega), (i1.be.kept k1 i1.off.2.2).kept k2 (by omega), i1.ne⟩, hown2, i2, ?_⟩, u2, .inr ⟨htk, u3⟩, ?_, ?_⟩
          · have h1 := HLT.out
            have h2 := hown2.lt
            have h3 := k2.size
            have h4 := k1.size
            have h5 := i10.size
            have h6 := HBW.out
            omega
          · have c1 : Keeps (fun j => (Value.slice ap pl.length cp).ownBlock = some j) w W := ((Keeps.of_below _ HB0.out).trans HK.out).trans (Keeps.of_below _ hkW)
            have c2 := (c1.mono (G := fun j => j = bF ∨ j = bo ∨ j = bb ∨ (Value.slice ap pl.length cp).ownBlock = some j) fun j _ e => .inr (.inr (.inr e))).trans (i10.mono fun j _ e => e.elim (fun e => .inr (.inl e)) fun e => .inr (.inr (.inl e)))
            have hww := c1.size
            exact (c2.trans (k1.mono fun j _ e => .inl e)).next k2 fun j hj e => by omega
          · intro q e
            rcases HNX.out q e with h | h
            · exact .inl h
            · exact .inr (by have := HB0.out.size; omega)

end Go.Proofs.YtggiaopdgijgnaaGreatDoor
