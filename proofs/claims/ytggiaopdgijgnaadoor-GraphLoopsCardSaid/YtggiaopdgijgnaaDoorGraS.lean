/- Package graph's forest, shelf and numbers: how they lie in memory, and their small functions. Conditions: no more than 60 numbers. -/
import Derived.Test.YtggiaopdgijgnaaDoorGraQ
import Derived.Test.YtggiaopdgijgnaaDoorGraT
namespace Go.Proofs.YtggiaopdgijgnaaDoor
open Go.RowKit Go.IntWalk

/-- A forest in memory. -/
structure FoAt (bF bl bo bb n : Nat) (low over best : Nat → Int) (pv : Value) (w : World) : Prop where
  box : BlkAt bF 97 #[.slice (some ⟨bl, 0, none⟩) n n, .slice (some ⟨bo, 0, none⟩) n n, .slice (some ⟨bb, 0, none⟩) n n, pv] w
  lo : Ar .i32 21 bl n low w
  ov : Ar .i32 21 bo n over w
  be : Ar .i32 21 bb n best w
  ne : bl ≠ bo ∧ bl ≠ bb ∧ bo ≠ bb
theorem FoAt.keep {bF bl bo bb n : Nat} {low over best : Nat → Int} {pv : Value} {w w' : World} (h : FoAt bF bl bo bb n low over best pv w) (k : Below w.heap.size w w') : FoAt bF bl bo bb n low over best pv w' := ⟨h.box.keep k, h.lo.keep k, h.ov.keep k, h.be.keep k, h.ne⟩
theorem FoAt.kept {F : Nat → Prop} {bF bl bo bb n : Nat} {low over best : Nat → Int} {pv : Value} {w w' : World} (h : FoAt bF bl bo bb n low over best pv w) (k : Keeps F w w') (h0 : ¬ F bF) (h1 : ¬ F bl) (h2 : ¬ F bo) (h3 : ¬ F bb) : FoAt bF bl bo bb n low over best pv w' :=
  ⟨h.box.kept k h0, h.lo.kept k h1, h.ov.kept k h2, h.be.kept k h3, h.ne⟩
theorem FoAt.off {bF bl bo bb n : Nat} {low over best : Nat → Int} {pv : Value} {w : World} (h : FoAt bF bl bo bb n low over best pv w) : bl ≠ bF ∧ bo ≠ bF ∧ bb ≠ bF := ⟨h.lo.ne_blk h.box (by decide), h.ov.ne_blk h.box (by decide), h.be.ne_blk h.box (by decide)⟩
theorem FoAt.lt {bF bl bo bb n : Nat} {low over best : Nat → Int} {pv : Value} {w : World} (h : FoAt bF bl bo bb n low over best pv w) : bF < w.heap.size ∧ bl < w.heap.size ∧ bo < w.heap.size ∧ bb < w.heap.size := ⟨h.box.lt, h.lo.lt, h.ov.lt, h.be.lt⟩
/-- A shelf in memory. -/
structure ShAt (b1 b2 n : Nat) (first behind : Nat → Int) (w : World) : Prop where
  fi : Ar .i32 21 b1 n first w
  be : Ar .i32 21 b2 n behind w
  ne : b1 ≠ b2
theorem ShAt.keep {b1 b2 n : Nat} {first behind : Nat → Int} {w w' : World} (h : ShAt b1 b2 n first behind w) (k : Below w.heap.size w w') : ShAt b1 b2 n first behind w' := ⟨h.fi.keep k, h.be.keep k, h.ne⟩
theorem ShAt.kept {F : Nat → Prop} {b1 b2 n : Nat} {first behind : Nat → Int} {w w' : World} (h : ShAt b1 b2 n first behind w) (k : Keeps F w w') (h1 : ¬ F b1) (h2 : ¬ F b2) : ShAt b1 b2 n first behind w' := ⟨h.fi.kept k h1, h.be.kept k h2, h.ne⟩
/-- What newForest makes at first. -/
def ForR (W : World) (n : Nat) (s3 : Value) (wx : World) : Prop := ∃ bF bl bo bb, s3 = .pointer (some ⟨bF, 0, none⟩) ∧ FoAt bF bl bo bb n (fun _ => 0) (fun _ => 0) (fun _ => 0) (.slice none 0 0) wx ∧ W.heap.size ≤ bF ∧ W.heap.size ≤ bl ∧ W.heap.size ≤ bo ∧ W.heap.size ≤ bb ∧ Below W.heap.size W wx
set_option maxRecDepth 100000 in
set_option maxHeartbeats 2000000 in
theorem graNewForest_is (n : Nat) (w : World) (hn : n ≤ 60) : Calls Tryd.prog 57 #[.int .i64 n] w fun e w' => ∃ bF bl bo bb, e = .returned (.pointer (some ⟨bF, 0, none⟩)) ∧
    FoAt bF bl bo bb n (fun j => (j : Int)) (fun _ => -1) (fun j => (j : Int)) (.slice none 0 0) w' ∧ w.heap.size ≤ bF ∧ w.heap.size ≤ bl ∧ w.heap.size ≤ bo ∧ w.heap.size ≤ bb ∧ Below w.heap.size w w' := by
  obtain ⟨i0, hi, hz0, hz1, hz2⟩ := info_parts infoI32
  have hmk := run_zeros (P := Tryd.prog) 38 21 i0 Tryd.underlying38 hi hz0 hz1 n (by rw [hz2]; omega) (by unfold maxLen; omega) n rfl
  have hn' : (n : Int) ≤ 60 := by omega
  go_enter Tryd.func57, Tryd.ntmps57
  go_upto_region 1 with (fail)
  go_cut [3] (fun s3 wx => ForR w n s3 wx)
  case first =>
    refine wp_region_free (fun _ => True) [(0, 0, 6, 1), (1, 1, 7, 32), (2, 0, 8, 1), (3, 4, 9, 128), (4, 0, 10, 1), (5, 16, 11, 512), (6, 42, 12, 1344), (7, 64, 13, 2048), (8, 255, 4, 4096)] 8 [(0, 5), (1, 6), (2, 7), (3, 8), (4, 9), (5, 10), (6, 11), (7, 12)] [(0, []), (1, [(0, 5)]), (2, []), (3, [(2, 7)]), (4, []), (5, [(4, 9)]), (6, [(1, 6), (3, 8), (5, 10)]), (7, [(6, 11)])] [(false, 8, 511)] [1, 3, 5]
      (fun i v w' => match i with
        | 0 | 2 | 4 => v = .int .i64 n
        | 1 | 3 | 5 => ∃ b, v = .slice (some ⟨b, 0, none⟩) n n ∧ Ar .i32 21 b n (fun _ => 0) w' ∧ w.heap.size ≤ b
        | 6 => ∃ bl bo bb, v = .agg #[.slice (some ⟨bl, 0, none⟩) n n, .slice (some ⟨bo, 0, none⟩) n n, .slice (some ⟨bb, 0, none⟩) n n, .slice none 0 0] ∧ Ar .i32 21 bl n (fun _ => 0) w' ∧ Ar .i32 21 bo n (fun _ => 0) w' ∧ Ar .i32 21 bb n (fun _ => 0) w' ∧ (bl ≠ bo ∧ bl ≠ bb ∧ bo ≠ bb) ∧ w.heap.size ≤ bl ∧ w.heap.size ≤ bo ∧ w.heap.size ≤ bb
        | 7 => ∃ bF bl bo bb, v = .pointer (some ⟨bF, 0, none⟩) ∧ FoAt bF bl bo bb n (fun _ => 0) (fun _ => 0) (fun _ => 0) (.slice none 0 0) w' ∧ w.heap.size ≤ bF ∧ w.heap.size ≤ bl ∧ w.heap.size ≤ bo ∧ w.heap.size ≤ bb
        | _ => True) (by kernel_rfl) (by kernel_rfl) (by kernel_rfl) (by kernel_rfl) (by kernel_rfl) (fun _ _ => trivial) ?_ ?_ ?_
    · intro i v w1 w2 h hb
      match i, h with
      | 0, h | 2, h | 4, h => exact h
      | 1, ⟨b, e, h, h'⟩ | 3, ⟨b, e, h, h'⟩ | 5, ⟨b, e, h, h'⟩ => exact ⟨b, e, h.keep hb, h'⟩
      | 6, ⟨bl, bo, bb, e, h1, h2, h3, h4⟩ => exact ⟨bl, bo, bb, e, h1.keep hb, h2.keep hb, h3.keep hb, h4⟩
      | 7, ⟨bF, bl, bo, bb, e, h1, h2⟩ => exact ⟨bF, bl, bo, bb, e, h1.keep hb, h2⟩
      | _ + 8, _ => trivial
    · refine ⟨?_, ?_, ?_, ?_, ?_, ?_, ?_, ?_, trivial⟩
      · intro o ho vals w1 hb hd hne
        cases ho
        exact .val (v := .int .i64 n) (w' := w1) (by simp [frA, execOp, Act.put, Act.eval, go_sem]) ⟨rfl, Below.refl _ _, fun q => by simp at q⟩
      · intro o ho vals w1 hb hd hne
        cases ho
        have e0 : vals 0 = _ := hd (0, 5) (.head _)
        exact .val (v := .slice (some ⟨w1.heap.size, 0, none⟩) n n) (by simp [frA, execOp, Act.put, Act.eval, go_sem, e0, hmk]) ⟨⟨_, rfl, Ar.zeros w1 rfl, hb.size⟩, (Below.refl _ _).alloc (Nat.le_refl _) _, fun _ => ⟨_, rfl, Nat.le_refl _, by simp⟩⟩
      · intro o ho vals w1 hb hd hne
        cases ho
        exact .val (v := .int .i64 n) (w' := w1) (by simp [frA, execOp, Act.put, Act.eval, go_sem]) ⟨rfl, Below.refl _ _, fun q => by simp at q⟩
      · intro o ho vals w1 hb hd hne
        cases ho
        have e0 : vals 2 = _ := hd (2, 7) (.head _)
        exact .val (v := .slice (some ⟨w1.heap.size, 0, none⟩) n n) (by simp [frA, execOp, Act.put, Act.eval, go_sem, e0, hmk]) ⟨⟨_, rfl, Ar.zeros w1 rfl, hb.size⟩, (Below.refl _ _).alloc (Nat.le_refl _) _, fun _ => ⟨_, rfl, Nat.le_refl _, by simp⟩⟩
      · intro o ho vals w1 hb hd hne
        cases ho
        exact .val (v := .int .i64 n) (w' := w1) (by simp [frA, execOp, Act.put, Act.eval, go_sem]) ⟨rfl, Below.refl _ _, fun q => by simp at q⟩
      · intro o ho vals w1 hb hd hne
        cases ho
        have e0 : vals 4 = _ := hd (4, 9) (.head _)
        exact .val (v := .slice (some ⟨w1.heap.size, 0, none⟩) n n) (by simp [frA, execOp, Act.put, Act.eval, go_sem, e0, hmk]) ⟨⟨_, rfl, Ar.zeros w1 rfl, hb.size⟩, (Below.refl _ _).alloc (Nat.le_refl _) _, fun _ => ⟨_, rfl, Nat.le_refl _, by simp⟩⟩
      · intro o ho vals w1 hb hd hne
        cases ho
        obtain ⟨bl, e1, h1, g1⟩ := hd (1, 6) (.head _)
        obtain ⟨bo, e3, h3, g3⟩ := hd (3, 8) (.tail _ (.head _))
        obtain ⟨bb, e5, h5, g5⟩ := hd (5, 10) (.tail _ (.tail _ (.head _)))
        have n1 := hne (1, 6) (.head _) (3, 8) (.tail _ (.head _)) (by simp) (by simp) (by simp)
        have n2 := hne (1, 6) (.head _) (5, 10) (.tail _ (.tail _ (.head _))) (by simp) (by simp) (by simp)
        have n3 := hne (3, 8) (.tail _ (.head _)) (5, 10) (.tail _ (.tail _ (.head _))) (by simp) (by simp) (by simp)
        simp only at e1 e3 e5 n1 n2 n3
        rw [e1, e3] at n1
        rw [e1, e5] at n2
        rw [e3, e5] at n3
        exact .val (v := .agg #[.slice (some ⟨bl, 0, none⟩) n n, .slice (some ⟨bo, 0, none⟩) n n, .slice (some ⟨bb, 0, none⟩) n n, .slice none 0 0]) (w' := w1) (by simp [frA, execOp, Act.put, Act.eval, go_sem, e1, e3, e5]) ⟨⟨bl, bo, bb, rfl, h1, h3, h5, ⟨fun e => n1 (by rw [e]), fun e => n2 (by rw [e]), fun e => n3 (by rw [e])⟩, g1, g3, g5⟩, Below.refl _ _, fun q => by simp at q⟩
      · intro o ho vals w1 hb hd hne
        cases ho
        obtain ⟨bl, bo, bb, e6, h1, h2, h3, h4, g1, g2, g3⟩ := hd (6, 11) (.head _)
        simp only at e6
        have ha := (Below.refl w1.heap.size w1).alloc (Nat.le_refl _) (.cells #[.slice (some ⟨bl, 0, none⟩) n n, .slice (some ⟨bo, 0, none⟩) n n, .slice (some ⟨bb, 0, none⟩) n n, .slice none 0 0] 97)
        exact .val (v := .pointer (some ⟨w1.heap.size, 0, none⟩)) (w' := w1.alloc (.cells #[.slice (some ⟨bl, 0, none⟩) n n, .slice (some ⟨bo, 0, none⟩) n n, .slice (some ⟨bb, 0, none⟩) n n, .slice none 0 0] 97)) (by simp [frA, execOp, Act.put, Act.eval, go_sem, e6]) ⟨⟨_, bl, bo, bb, rfl, ⟨BlkAt.new _ _ _, h1.keep ha, h2.keep ha, h3.keep ha, h4⟩, hb.size, g1, g2, g3⟩, ha, fun q => by simp at q⟩
    · intro vals ax w1 hI
      have e := hI.frame (by kernel_rfl) (by kernel_rfl)
      subst e
      have e0 : vals 0 = _ := hI.psi 0 (by omega) (by decide)
      have e2 : vals 2 = _ := hI.psi 2 (by omega) (by decide)
      have e4 : vals 4 = _ := hI.psi 4 (by omega) (by decide)
      obtain ⟨bF, bl, bo, bb, e7, h1, h2⟩ := hI.psi 7 (by omega) (by decide)
      have HI := Lib.hid hI
      have HH := Lib.hid (And.intro h1 h2)
      clear h1 h2 hI
      generalize vals 1 = v1 at *
      generalize vals 3 = v3 at *
      generalize vals 5 = v5 at *
      generalize vals 6 = v6 at *
      refine SeqH.step rfl rfl fun K hK => ?_
      simp only [frA, List.foldl, e0, e2, e4, e7]
      go_simp
      refine hK _ _ trivial (SeqH.done (NoPanic.normal ?_))
      go_wp2_with fail
      go_meet
      exact ⟨bF, bl, bo, bb, rfl, HH.out.1, HH.out.2.1, HH.out.2.2.1, HH.out.2.2.2.1, HH.out.2.2.2.2, (Below.refl _ _).drew.trans HI.out.below⟩
  case rest =>
    obtain ⟨bF, bl, bo, bb, rfl, hF, l0, l1, l2, l3, hB⟩ := hcut
    have HF := Lib.hid hF
    have HL := Lib.hid (And.intro l0 (And.intro l1 (And.intro l2 (And.intro l3 hB))))
    have HOFF := Lib.hid hF.off
    clear hF l0 l1 l2 l3 hB hmk hi hz0 hz1 hz2
    go_wp2
    go_loopw [15] (fun i wr => ∃ k : Nat, k ≤ n ∧ i = .int .i32 k ∧ FoAt bF bl bo bb n (fun j => if j < k then (j : Int) else 0) (fun j => if j < k then -1 else 0) (fun j => if j < k then (j : Int) else 0) (.slice none 0 0) wr ∧ Keeps (fun j => j = bl ∨ j = bo ∨ j = bb) wc wr) (fun i _ => n - (intOf i).toNat)
    case atStart => exact ⟨0, by omega, rfl, ⟨HF.out.box, HF.out.lo.eq fun i _ => by simp, HF.out.ov.eq fun i _ => by simp, HF.out.be.eq fun i _ => by simp, HF.out.ne⟩, Keeps.refl _ _⟩
    case round =>
      obtain ⟨k, hk, rfl, hA, hK⟩ := hrel
      have HA := Lib.hid hA
      have HK := Lib.hid hK
      have c0 := hA.box.cell 0
      have c1 := hA.box.cell 1
      have c2 := hA.box.cell 2
      by_cases hlt : k < n
      · have hlt' : (k : Int) < n := by omega
        have f0 := hA.lo.free k
        have f1 := hA.ov.free k
        have f2 := hA.be.free k
        have d0 := hA.lo.cell hlt
        have d1 := hA.ov.cell hlt
        have d2 := hA.be.cell hlt
        obtain ⟨n1, n2, n3⟩ := hA.ne
        have m1 : ¬ bl = bo := n1
        have m2 : ¬ bl = bb := n2
        have m3 : ¬ bo = bb := n3
        have m4 : ¬ bo = bl := fun e => n1 e.symm
        have m5 : ¬ bb = bl := fun e => n2 e.symm
        have m6 : ¬ bb = bo := fun e => n3 e.symm
        have hw : IntKind.i32.wrap ((k : Int) + 1) = (k : Int) + 1 := IntWalk.i32_in _ (by omega)
        clear hA hK hlt n1 n2 n3
        have o1 : ¬ bF = bl := fun e => HOFF.out.1 e.symm
        have o2 : ¬ bF = bo := fun e => HOFF.out.2.1 e.symm
        have o3 : ¬ bF = bb := fun e => HOFF.out.2.2 e.symm
        go_upto_region 5 with (fail)
        refine wp_region_seq [(0, 0, 19, 8), (1, 1, 20, 262144), (2, 2, 21, 524288), (3, 4, 22, 1048576), (4, 0, 23, 16), (5, 0, 24, 8), (6, 32, 25, 8388608), (7, 64, 26, 16777216), (8, 128, 27, 33554432), (9, 0, 28, 16), (10, 0, 29, 8), (11, 1024, 30, 268435456), (12, 2048, 31, 536870912), (13, 4096, 32, 1073741824), (14, 0, 33, 16), (15, 0, 34, 16), (16, 0, 35, 16), (17, 41247, 36, 6291456), (18, 172319, 0, 42949672960), (19, 435199, 37, 201326592), (20, 959487, 0, 68719476736), (21, 2097151, 38, 6442450944), (22, 4194303, 0, 154618822656)] [(true, 0, 1), (true, 1, 3), (true, 2, 7), (true, 3, 15), (true, 4, 31), (true, 5, 63), (true, 6, 127), (true, 7, 255), (true, 8, 511), (true, 9, 1023), (true, 10, 2047), (true, 11, 4095), (true, 12, 8191), (true, 13, 16383), (true, 14, 32767), (true, 15, 65535), (true, 16, 131071), (true, 17, 262143), (false, 18, 524287), (true, 19, 1048575), (false, 20, 2097151), (true, 21, 4194303), (false, 22, 8388607)] (fun w' => w'.cell? ⟨bF, 0, none⟩ = some (.slice (some ⟨bl, 0, none⟩) n n) ∧ w'.cell? ⟨bF, 1, none⟩ = some (.slice (some ⟨bo, 0, none⟩) n n) ∧ w'.cell? ⟨bF, 2, none⟩ = some (.slice (some ⟨bb, 0, none⟩) n n)) (by kernel_rfl) (by kernel_rfl) (by kernel_rfl) (by kernel_rfl) (by kernel_rfl) (⟨c0, c1, c2⟩) ?_
        (refine SeqH.take (v := ?_) rfl rfl ?_ ?_; rotate_left; (intro w' hw'; (try dsimp only at hw'); go_simp; try with_reducible rfl); go_simp)
        (refine SeqH.take (v := ?_) rfl rfl ?_ ?_; rotate_left; (intro w' hw'; (try dsimp only at hw'); go_simp; try with_reducible rfl); go_simp)
        (refine SeqH.take (v := ?_) rfl rfl ?_ ?_; rotate_left; (intro w' hw'; (try dsimp only at hw'); go_simp; try with_reducible rfl); go_simp)
        (refine SeqH.take (v := ?_) rfl rfl ?_ ?_; rotate_left; (intro w' hw'; (try dsimp only at hw'); go_simp; try with_reducible rfl); go_simp)
        (refine SeqH.take (v := ?_) rfl rfl ?_ ?_; rotate_left; (intro w' hw'; (try dsimp only at hw'); go_simp; try with_reducible rfl); go_simp)
        (refine SeqH.take (v := ?_) rfl rfl ?_ ?_; rotate_left; (intro w' hw'; (try dsimp only at hw'); go_simp; try with_reducible rfl); go_simp)
        (refine SeqH.take (v := ?_) rfl rfl ?_ ?_; rotate_left; (intro w' hw'; (try dsimp only at hw'); go_simp; try with_reducible rfl); go_simp)
        (refine SeqH.take (v := ?_) rfl rfl ?_ ?_; rotate_left; (intro w' hw'; (try dsimp only at hw'); go_simp; try with_reducible rfl); go_simp)
        (refine SeqH.take (v := ?_) rfl rfl ?_ ?_; rotate_left; (intro w' hw'; (try dsimp only at hw'); go_simp; try with_reducible rfl); go_simp)
        (refine SeqH.take (v := ?_) rfl rfl ?_ ?_; rotate_left; (intro w' hw'; (try dsimp only at hw'); go_simp; try with_reducible rfl); go_simp)
        (refine SeqH.take (v := ?_) rfl rfl ?_ ?_; rotate_left; (intro w' hw'; (try dsimp only at hw'); go_simp; try with_reducible rfl); go_simp)
        (refine SeqH.take (v := ?_) rfl rfl ?_ ?_; rotate_left; (intro w' hw'; (try dsimp only at hw'); go_simp; try with_reducible rfl); go_simp)
        (refine SeqH.take (v := ?_) rfl rfl ?_ ?_; rotate_left; (intro w' hw'; (try dsimp only at hw'); go_simp; try with_reducible rfl); go_simp)
        (refine SeqH.take (v := ?_) rfl rfl ?_ ?_; rotate_left; (intro w' hw'; (try dsimp only at hw'); go_simp; try with_reducible rfl); go_simp)
        (refine SeqH.take (v := ?_) rfl rfl ?_ ?_; rotate_left; (intro w' hw'; (try dsimp only at hw'); go_simp; try with_reducible rfl); go_simp)
        (refine SeqH.take (v := ?_) rfl rfl ?_ ?_; rotate_left; (intro w' hw'; (try dsimp only at hw'); go_simp; try with_reducible rfl); go_simp)
        (refine SeqH.take (v := ?_) rfl rfl ?_ ?_; rotate_left; (intro w' hw'; (try dsimp only at hw'); go_simp; try with_reducible rfl); go_simp)
        (refine SeqH.take (v := ?_) rfl rfl ?_ ?_; rotate_left; (intro w' hw'; (try dsimp only at hw'); go_simp; try with_reducible rfl); go_simp)
        refine SeqH.step rfl rfl (fun K hK => ?_)
        go_simp
        refine hK _ _ (⟨by go_cell, by go_cell, by go_cell⟩) ?_
        clear hK K
        (refine SeqH.take (v := ?_) rfl rfl ?_ ?_; rotate_left; (intro w' hw'; (try dsimp only at hw'); go_simp; try with_reducible rfl); go_simp)
        refine SeqH.step rfl rfl (fun K hK => ?_)
        go_simp
        refine hK _ _ (⟨by go_cell, by go_cell, by go_cell⟩) ?_
        clear hK K
        (refine SeqH.take (v := ?_) rfl rfl ?_ ?_; rotate_left; (intro w' hw'; (try dsimp only at hw'); go_simp; try with_reducible rfl); go_simp)
        refine SeqH.step rfl rfl (fun K hK => ?_)
        go_simp
        refine hK _ _ (⟨by go_cell, by go_cell, by go_cell⟩) ?_
        clear hK K
        refine SeqH.done (NoPanic.normal ?_)
        go_wp2
        go_roundw
        case rel =>
          have k1 := Keeps.set1 wr bl k (.int .i32 (k : Int))
          have k2 := Keeps.set1 (wr.setCell ⟨bl, k, none⟩ (.int .i32 (k : Int))) bo k (.int .i32 (-1))
          have k3 := Keeps.set1 ((wr.setCell ⟨bl, k, none⟩ (.int .i32 (k : Int))).setCell ⟨bo, k, none⟩ (.int .i32 (-1))) bb k (.int .i32 (k : Int))
          have kd : ∀ W : World, Keeps (fun _ => False) W W.drew := fun W => Keeps.of_below _ (Below.refl _ _).drew
          have hoff := HOFF.out
          refine ⟨k + 1, by omega, by go_num, ⟨(((HA.out.box.kept k1 (fun e => hoff.1 e.symm)).kept k2 (fun e => hoff.2.1 e.symm)).kept k3 (fun e => hoff.2.2 e.symm)).kept (kd _) id, ?_, ?_, ?_, HA.out.ne⟩, ?_⟩
          · refine ((((HA.out.lo.set k (k : Int)).kept k2 (fun e => m1 e)).kept k3 (fun e => m2 e)).kept (kd _) id).eq fun i _ => ?_
            unfold upn
            by_cases e : i = k
            · subst e; simp
            · rw [if_neg e]; by_cases q : i < k <;> simp [q, show (i < k + 1) = (i < k) from by simp; omega]
          · refine ((((HA.out.ov.kept k1 (fun e => m4 e)).set k (-1)).kept k3 (fun e => m3 e)).kept (kd _) id).eq fun i _ => ?_
            unfold upn
            by_cases e : i = k
            · subst e; simp
            · rw [if_neg e]; by_cases q : i < k <;> simp [q, show (i < k + 1) = (i < k) from by simp; omega]
          · refine ((((HA.out.be.kept k1 (fun e => m5 e)).kept k2 (fun e => m6 e)).set k (k : Int)).kept (kd _) id).eq fun i _ => ?_
            unfold upn
            by_cases e : i = k
            · subst e; simp
            · rw [if_neg e]; by_cases q : i < k <;> simp [q, show (i < k + 1) = (i < k) from by simp; omega]
          · exact (((HK.out.trans (k1.mono fun j _ e => .inl e)).trans (k2.mono fun j _ e => .inr (.inl e))).trans (k3.mono fun j _ e => .inr (.inr e))).next (kd _) fun j _ e => e.elim
        case measure => simp [intOf]; omega
      · obtain rfl : k = n := by omega
        clear hA hK hlt
        go_wp2
        go_ret
        have hl := HL.out
        refine ⟨bF, bl, bo, bb, rfl, ⟨HA.out.box, HA.out.lo.eq fun i hi => by simp [hi], HA.out.ov.eq fun i hi => by simp [hi], HA.out.be.eq fun i hi => by simp [hi], HA.out.ne⟩, hl.1, hl.2.1, hl.2.2.1, hl.2.2.2.1, HK.out.below hl.2.2.2.2 hl.2.2.2.2.size fun j e => by omega⟩
end Go.Proofs.YtggiaopdgijgnaaDoor
