/- Package graph's shelf, numbers, spans: their small functions. Conditions: no more than 60 numbers. -/
import Derived.Test.YtggiaopdgijgnaaDoorGraS
namespace Go.Proofs.YtggiaopdgijgnaaDoor
open Go.RowKit Go.IntWalk

/-- What newShelf makes at first. -/
def SheR (W : World) (n : Nat) (s3 : Value) (wx : World) : Prop := ∃ bS b1 b2, s3 = .pointer (some ⟨bS, 0, none⟩) ∧ BlkAt bS 94 #[.slice (some ⟨b1, 0, none⟩) n n, .slice (some ⟨b2, 0, none⟩) n n] wx ∧ ShAt b1 b2 n (fun _ => 0) (fun _ => 0) wx ∧ W.heap.size ≤ bS ∧ W.heap.size ≤ b1 ∧ W.heap.size ≤ b2 ∧ Below W.heap.size W wx
set_option maxRecDepth 100000 in
set_option maxHeartbeats 2000000 in
theorem graNewShelf_is (n : Nat) (w : World) (hn : n ≤ 60) : Calls Tryd.prog 58 #[.int .i64 n] w fun e w' => ∃ b1 b2, e = .returned (.agg #[.slice (some ⟨b1, 0, none⟩) n n, .slice (some ⟨b2, 0, none⟩) n n]) ∧
    ShAt b1 b2 n (fun _ => -1) (fun _ => 0) w' ∧ w.heap.size ≤ b1 ∧ w.heap.size ≤ b2 ∧ Below w.heap.size w w' := by
  obtain ⟨i0, hi, hz0, hz1, hz2⟩ := info_parts infoI32
  have hmk := run_zeros (P := Tryd.prog) 38 21 i0 Tryd.underlying38 hi hz0 hz1 n (by rw [hz2]; omega) (by unfold maxLen; omega) n rfl
  have hn' : (n : Int) ≤ 60 := by omega
  go_enter Tryd.func58, Tryd.ntmps58
  go_upto_region 1 with (fail)
  obtain ⟨W0, hW0⟩ : ∃ W0, w.alloc (.cells #[.slice none 0 0, .slice none 0 0] 94) = W0 := ⟨_, rfl⟩
  have HR0 := Lib.hid (show BlkAt w.heap.size 94 #[.slice none 0 0, .slice none 0 0] W0 from hW0 ▸ BlkAt.new _ _ _)
  have HB0 := Lib.hid (show Below w.heap.size w W0 from hW0 ▸ (Below.refl _ _).alloc (Nat.le_refl _) _)
  rw [hW0]
  clear hW0
  go_cut [3] (fun s3 wx => SheR W0 n s3 wx)
  case first =>
    refine wp_region_free (fun _ => True) [(0, 0, 6, 1), (1, 1, 7, 32), (2, 0, 8, 1), (3, 4, 9, 128), (4, 10, 10, 320), (5, 0, 4, 0), (6, 63, 0, 520)] 6 [(0, 5), (1, 6), (2, 7), (3, 8), (4, 9), (5, 3)] [(0, []), (1, [(0, 5)]), (2, []), (3, [(2, 7)]), (4, [(1, 6), (3, 8)]), (5, [])] [(false, 6, 127)] [1, 3, 5]
      (fun i v w' => match i with
        | 0 | 2 => v = .int .i64 n
        | 1 | 3 => ∃ b, v = .slice (some ⟨b, 0, none⟩) n n ∧ Ar .i32 21 b n (fun _ => 0) w' ∧ W0.heap.size ≤ b
        | 4 => ∃ b1 b2, v = .agg #[.slice (some ⟨b1, 0, none⟩) n n, .slice (some ⟨b2, 0, none⟩) n n] ∧ ShAt b1 b2 n (fun _ => 0) (fun _ => 0) w' ∧ W0.heap.size ≤ b1 ∧ W0.heap.size ≤ b2
        | 5 => ∃ b, v = .pointer (some ⟨b, 0, none⟩) ∧ BlkAt b 94 #[.slice none 0 0, .slice none 0 0] w' ∧ W0.heap.size ≤ b
        | _ => True) (by kernel_rfl) (by kernel_rfl) (by kernel_rfl) (by kernel_rfl) (by kernel_rfl) (fun _ _ => trivial) ?_ ?_ ?_
    · intro i v w1 w2 h hb
      match i, h with
      | 0, h | 2, h => exact h
      | 1, ⟨b, e, h, h'⟩ | 3, ⟨b, e, h, h'⟩ => exact ⟨b, e, h.keep hb, h'⟩
      | 4, ⟨b1, b2, e, h1, h4⟩ => exact ⟨b1, b2, e, h1.keep hb, h4⟩
      | 5, ⟨b, e, h, h'⟩ => exact ⟨b, e, h.keep hb, h'⟩
      | _ + 6, _ => trivial
    · refine ⟨?_, ?_, ?_, ?_, ?_, ?_, trivial⟩
      · intro o ho vals w1 hb hd hne
        cases ho
        exact .val (v := .int .i64 n) (w' := w1) (by simp [frA, execOp, Act.put, Act.eval, go_sem]) ⟨rfl, Below.refl _ _, fun q => by simp at q⟩
      · intro o ho vals w1 hb hd hne
        cases ho
        have e0 : vals 0 = _ := hd (0, 5) (.head _)
        exact .val (v := .slice (some ⟨w1.heap.size, 0, none⟩) n n) (by simp [frA, execOp, Act.put, Act.eval, go_sem, e0, hmk]) ⟨⟨_, rfl, Ar.zeros w1 rfl, hb.size⟩, (Below.refl _ _).alloc (Nat.le_refl _) _, fun _ => ⟨_, rfl, Nat.le_refl _, by simp⟩⟩
      · intro o ho vals w1 hb hd hne
        cases ho
        exact .val (v := .int .i64 n) (w' := w1) (by simp [frA, execOp, Act.put, Act.eval, go_sem]) ⟨rfl, Below.refl _ _, fun q => by simp at q⟩
      · intro o ho vals w1 hb hd hne
        cases ho
        have e0 : vals 2 = _ := hd (2, 7) (.head _)
        exact .val (v := .slice (some ⟨w1.heap.size, 0, none⟩) n n) (by simp [frA, execOp, Act.put, Act.eval, go_sem, e0, hmk]) ⟨⟨_, rfl, Ar.zeros w1 rfl, hb.size⟩, (Below.refl _ _).alloc (Nat.le_refl _) _, fun _ => ⟨_, rfl, Nat.le_refl _, by simp⟩⟩
      · intro o ho vals w1 hb hd hne
        cases ho
        obtain ⟨bl, e1, h1, g1⟩ := hd (1, 6) (.head _)
        obtain ⟨bo, e3, h3, g3⟩ := hd (3, 8) (.tail _ (.head _))
        have n1 := hne (1, 6) (.head _) (3, 8) (.tail _ (.head _)) (by simp) (by simp) (by simp)
        simp only at e1 e3 n1
        rw [e1, e3] at n1
        exact .val (v := .agg #[.slice (some ⟨bl, 0, none⟩) n n, .slice (some ⟨bo, 0, none⟩) n n]) (w' := w1) (by simp [frA, execOp, Act.put, Act.eval, go_sem, e1, e3]) ⟨⟨bl, bo, rfl, ⟨h1, h3, fun e => n1 (by rw [e])⟩, g1, g3⟩, Below.refl _ _, fun q => by simp at q⟩
      · intro o ho vals w1 hb hd hne
        cases ho
        exact .val (v := .pointer (some ⟨w1.heap.size, 0, none⟩)) (by simp [execOp, go_sem]) ⟨⟨_, rfl, BlkAt.new _ _ _, hb.size⟩, (Below.refl _ _).alloc (Nat.le_refl _) _, fun _ => ⟨_, rfl, Nat.le_refl _, by simp⟩⟩
    · intro vals ax w1 hI
      have e := hI.frame (by kernel_rfl) (by kernel_rfl)
      subst e
      have e0 : vals 0 = _ := hI.psi 0 (by omega) (by decide)
      have e2 : vals 2 = _ := hI.psi 2 (by omega) (by decide)
      obtain ⟨b1, b2, e4, h1, h2, h3⟩ := hI.psi 4 (by omega) (by decide)
      obtain ⟨bS, e5, h4, h5⟩ := hI.psi 5 (by omega) (by decide)
      have f0 := h4.free 0
      have f1 := h4.free 1
      have y0 := h4.cell 0
      have y1 := h4.cell 1
      have HI := Lib.hid hI
      have HH := Lib.hid (And.intro h1 (And.intro h2 (And.intro h3 (And.intro h4 h5))))
      clear h1 h2 h3 h4 h5 hI
      generalize vals 1 = v1 at *
      generalize vals 3 = v3 at *
      refine SeqH.step rfl rfl fun K hK => ?_
      simp only [frA, List.foldl, e0, e2, e4, e5]
      go_simp
      refine hK _ _ trivial (SeqH.done (NoPanic.normal ?_))
      go_wp2_with fail
      go_meet
      obtain ⟨h1, h2, h3, h4, h5⟩ := HH.out
      have kx : Keeps (fun j => j = bS) w1 ((w1.setCell ⟨bS, 0, none⟩ (.slice (some ⟨b1, 0, none⟩) n n)).setCell ⟨bS, 1, none⟩ (.slice (some ⟨b2, 0, none⟩) n n)) := (Keeps.set1 _ _ _ _).trans (Keeps.set1 _ _ _ _)
      have hb0 : Below W0.heap.size W0 w1 := (Below.refl _ _).drew.trans HI.out.below
      exact ⟨bS, b1, b2, rfl, ((h4.set 0 _).set 1 _).eq rfl, h1.kept kx (h1.fi.ne_blk h4 (by decide)) (h1.be.ne_blk h4 (by decide)), h5, h2, h3, kx.below hb0 hb0.size fun j e => by subst e; exact h5⟩
  case rest =>
    obtain ⟨bS, b1, b2, rfl, hbx, hS, l0, l1, l2, hB⟩ := hcut
    have HX := Lib.hid hbx
    have HS := Lib.hid hS
    have hr := HR0.out.keep hB
    have HR := Lib.hid hr
    have HB := Lib.hid (HB0.out.trans (hB.mono HB0.out.size))
    have HL := Lib.hid (show (w.heap.size < b1 ∧ w.heap.size < b2 ∧ w.heap.size < bS) ∧ (b1 ≠ bS ∧ b2 ≠ bS) from ⟨by have := HR0.out.lt; omega, hS.fi.ne_blk hbx (by decide), hS.be.ne_blk hbx (by decide)⟩)
    clear hbx hS l0 l1 l2 hB hmk hi hz0 hz1 hz2 hr
    go_wp2
    go_loopw [11] (fun i wr => ∃ k : Nat, k ≤ n ∧ i = .int .i64 k ∧ Ar .i32 21 b1 n (fun j => if j < k then -1 else 0) wr ∧ Keeps (fun j => j = b1) wc wr) (fun i _ => n - (intOf i).toNat)
    case atStart => exact ⟨0, by omega, rfl, HS.out.fi.eq fun i _ => by simp, Keeps.refl _ _⟩
    case round =>
      obtain ⟨k, hk, rfl, hA, hK⟩ := hrel
      have HA := Lib.hid hA
      have HK := Lib.hid hK
      have hx := HX.out.kept hK fun e => HL.out.2.1 e.symm
      have c0 := hx.cell 0
      by_cases hlt : k < n
      · have hlt' : (k : Int) < n := by omega
        have f0 := hA.free k
        have d0 := hA.cell hlt
        clear hA hK hlt hx
        go_wp2
        go_roundw
        case rel =>
          refine ⟨k + 1, by omega, by go_num, (HA.out.set k (-1)).eq fun i _ => ?_, HK.out.trans (Keeps.set1 _ _ _ _)⟩
          unfold upn
          by_cases e : i = k
          · subst e; simp
          · rw [if_neg e]; by_cases q : i < k <;> simp [q, show (i < k + 1) = (i < k) from by simp; omega]
        case measure => simp [intOf]; omega
      · obtain rfl : k = n := by omega
        have c1 := hx.cell 1
        have hr := HR.out.kept hK (by have := HL.out.1; omega)
        have r0 := hr.cell 0
        have r1 := hr.cell 1
        have g0 := hr.free 0
        have g1 := hr.free 1
        have nb : ¬ bS = w.heap.size := by have := HL.out.1; omega
        have nb2 : ¬ w.heap.size = bS := by have := HL.out.1; omega
        clear hA hK hlt hx hr
        go_wp2
        refine bodyPost_ret (v := .agg #[.slice (some ⟨b1, 0, none⟩) k k, .slice (some ⟨b2, 0, none⟩) k k]) (by simp [results, Tryd.results58, go_sem, r0, r1]) rfl ?_
        have kx : Keeps (fun j => j = w.heap.size) wr ((wr.setCell ⟨w.heap.size, 0, none⟩ (.slice (some ⟨b1, 0, none⟩) k k)).setCell ⟨w.heap.size, 1, none⟩ (.slice (some ⟨b2, 0, none⟩) k k)) := (Keeps.set1 _ _ _ _).trans (Keeps.set1 _ _ _ _)
        have hl := HL.out
        have hb := HB.out
        have hkb : Below w.heap.size w wr := HK.out.below hb hb.size fun j e => by omega
        exact ⟨b1, b2, rfl, ⟨(HA.out.kept kx (by omega)).eq fun i hi => by simp [hi], (HS.out.be.kept HK.out fun e => HS.out.ne e.symm).kept kx (by omega), HS.out.ne⟩, by omega, by omega, kx.below hkb hkb.size fun j e => by omega⟩
set_option maxRecDepth 100000 in
set_option maxHeartbeats 1000000 in
theorem graPut_is {b1 b2 n p k : Nat} {first behind : Nat → Int} {w : World} (h : ShAt b1 b2 n first behind w) (hn : n ≤ 60) (hp : p < n) (hk : k < n) :
    Calls Tryd.prog 60 #[.agg #[.slice (some ⟨b1, 0, none⟩) n n, .slice (some ⟨b2, 0, none⟩) n n], .int .i32 p, .int .i32 k] w fun e w' => e = .returned (.tuple #[]) ∧ ShAt b1 b2 n (upn first p (k : Nat)) (upn behind k (first p)) w' ∧ Keeps (fun j => j = b1 ∨ j = b2) w w' := by
  have hp' : (p : Int) < n := by omega
  have hk' : (k : Int) < n := by omega
  have hn' : (n : Int) ≤ 60 := by omega
  obtain ⟨v, hv⟩ : ∃ v, first p = v := ⟨_, rfl⟩
  obtain ⟨W, hW⟩ : ∃ W, w.alloc (.cells #[.slice (some ⟨b1, 0, none⟩) n n, .slice (some ⟨b2, 0, none⟩) n n] 94) = W := ⟨_, rfl⟩
  have hb0 : Below w.heap.size w W := hW ▸ (Below.refl _ _).alloc (Nat.le_refl _) _
  have hx : BlkAt w.heap.size 94 #[.slice (some ⟨b1, 0, none⟩) n n, .slice (some ⟨b2, 0, none⟩) n n] W := hW ▸ BlkAt.new _ _ _
  have hS := h.keep hb0
  have hlt := (And.intro h.fi.lt h.be.lt)
  have HX := Lib.hid hx
  have HS := Lib.hid hS
  have HB := Lib.hid (Keeps.of_below (fun j => j = b1 ∨ j = b2) hb0)
  have HV := Lib.hid hv
  have HLT := Lib.hid hlt
  have x0 : W.cell? ⟨w.heap.size, 0, none⟩ = some (.slice (some ⟨b1, 0, none⟩) n n) := hx.cell 0
  have x1 : W.cell? ⟨w.heap.size, 1, none⟩ = some (.slice (some ⟨b2, 0, none⟩) n n) := hx.cell 1
  have f1 := hS.fi.free p
  have f2 := hS.be.free k
  have c1 := hS.fi.cell hp
  have c2 := hS.be.cell hk
  rw [hv] at c1
  have n1 : ¬ b1 = b2 := hS.ne
  have n2 : ¬ b2 = b1 := fun e => hS.ne e.symm
  have n3 : ¬ w.heap.size = b2 := by omega
  have n4 : ¬ w.heap.size = b1 := by omega
  have HW := Lib.hid hW
  clear h hW hb0 hx hS hlt hv
  go_enter Tryd.func60, Tryd.ntmps60
  go_upto_region 1 with (fail)
  rw [HW.out]
  generalize w.heap.size = b0 at *
  refine wp_region_seq [(0, 0, 7, 8), (1, 1, 8, 64), (2, 0, 9, 4), (3, 0, 10, 8), (4, 8, 11, 512), (5, 0, 12, 2), (6, 48, 13, 3072), (7, 64, 14, 4096), (8, 255, 15, 384), (9, 511, 0, 24576)] [(true, 0, 1), (true, 1, 3), (true, 2, 7), (true, 3, 15), (true, 4, 31), (true, 5, 63), (true, 6, 127), (true, 7, 255), (true, 8, 511), (false, 9, 1023)] (fun w' => w'.cell? ⟨b0, 0, none⟩ = some (.slice (some ⟨b1, 0, none⟩) n n) ∧ w'.cell? ⟨b0, 1, none⟩ = some (.slice (some ⟨b2, 0, none⟩) n n) ∧ w'.cell? ⟨b1, p, none⟩ = some (.int .i32 v)) (by kernel_rfl) (by kernel_rfl) (by kernel_rfl) (by kernel_rfl) (by kernel_rfl) (⟨x0, x1, c1⟩) ?_
  (refine SeqH.take (v := ?_) rfl rfl ?_ ?_; rotate_left; (intro w' hw'; (try dsimp only at hw'); go_simp; try with_reducible rfl); go_simp)
  (refine SeqH.take (v := ?_) rfl rfl ?_ ?_; rotate_left; (intro w' hw'; (try dsimp only at hw'); go_simp; try with_reducible rfl); go_simp)
  (refine SeqH.take (v := ?_) rfl rfl ?_ ?_; rotate_left; (intro w' hw'; (try dsimp only at hw'); go_simp; try with_reducible rfl); go_simp)
  (refine SeqH.take (v := ?_) rfl rfl ?_ ?_; rotate_left; (intro w' hw'; (try dsimp only at hw'); go_simp; try with_reducible rfl); go_simp)
  (refine SeqH.take (v := ?_) rfl rfl ?_ ?_; rotate_left; (intro w' hw'; (try dsimp only at hw'); go_simp; try with_reducible rfl); go_simp)
  (refine SeqH.take (v := ?_) rfl rfl ?_ ?_; rotate_left; (intro w' hw'; (try dsimp only at hw'); go_simp; try with_reducible rfl); go_simp)
  (refine SeqH.take (v := ?_) rfl rfl ?_ ?_; rotate_left; (intro w' hw'; (try dsimp only at hw'); go_simp; try with_reducible rfl); go_simp)
  (refine SeqH.take (v := ?_) rfl rfl ?_ ?_; rotate_left; (intro w' hw'; (try dsimp only at hw'); go_simp; try with_reducible rfl); go_simp)
  (refine SeqH.take (v := ?_) rfl rfl ?_ ?_; rotate_left; (intro w' hw'; (try dsimp only at hw'); go_simp; try with_reducible rfl); go_simp)
  refine SeqH.step rfl rfl (fun K hK => ?_)
  go_simp
  refine hK _ _ (⟨by go_cell, by go_cell, by go_cell⟩) ?_
  clear hK K
  refine SeqH.done (NoPanic.normal ?_)
  go_wp2
  go_end0
  have k1 := Keeps.set1 W b2 k (.int .i32 v)
  have k2 := Keeps.set1 (W.setCell ⟨b2, k, none⟩ (.int .i32 v)) b1 p (.int .i32 (k : Int))
  rw [HV.out]
  have kk : Keeps (fun j => j = b1 ∨ j = b2) w ((W.setCell ⟨b2, k, none⟩ (.int .i32 v)).setCell ⟨b1, p, none⟩ (.int .i32 (k : Int))) := (HB.out.trans (k1.mono fun j _ e => .inr e)).trans (k2.mono fun j _ e => .inl e)
  have hA := (HS.out.fi.kept k1 n1).set p (k : Int)
  have hB := Ar.kept (HS.out.be.set k v) k2 n2
  exact ⟨rfl, ⟨hA, hB, HS.out.ne⟩, kk.next (Keeps.of_below (fun _ => False) (Below.refl _ _).drew) fun j _ e => e.elim⟩
set_option maxRecDepth 100000 in
set_option maxHeartbeats 1000000 in
theorem graTake_is {b1 b2 n p : Nat} {first behind : Nat → Int} {w : World} (h : ShAt b1 b2 n first behind w) (hn : n ≤ 60) (hp : p < n) :
    Calls Tryd.prog 61 #[.agg #[.slice (some ⟨b1, 0, none⟩) n n, .slice (some ⟨b2, 0, none⟩) n n], .int .i32 p] w fun e w' => e = .returned (.int .i32 (first p)) ∧ ShAt b1 b2 n (upn first p (-1)) behind w' ∧ Keeps (fun j => j = b1) w w' := by
  have hp' : (p : Int) < n := by omega
  have hn' : (n : Int) ≤ 60 := by omega
  obtain ⟨v, hv⟩ : ∃ v, first p = v := ⟨_, rfl⟩
  have ha := (Below.refl w.heap.size w).alloc (Nat.le_refl _) (.cells #[.slice (some ⟨b1, 0, none⟩) n n, .slice (some ⟨b2, 0, none⟩) n n] 94)
  have c1 := (h.keep ha).fi.cell hp
  have f1 := (h.keep ha).fi.free p
  have hlt := h.fi.lt
  have n3 : ¬ w.heap.size = b1 := by omega
  have n4 : ¬ b1 = w.heap.size := by omega
  rw [hv] at c1 ⊢
  have H := Lib.hid h
  clear h hv hlt ha
  go_enter Tryd.func61, Tryd.ntmps61
  go_wp2
  go_ret
  have ha := (Below.refl w.heap.size w).alloc (Nat.le_refl _) (.cells #[.slice (some ⟨b1, 0, none⟩) n n, .slice (some ⟨b2, 0, none⟩) n n] 94)
  have hS := H.out.keep ha
  have k1 := Keeps.set1 (w.alloc (.cells #[.slice (some ⟨b1, 0, none⟩) n n, .slice (some ⟨b2, 0, none⟩) n n] 94)) b1 p (.int .i32 (-1))
  exact ⟨rfl, ⟨hS.fi.set p (-1), hS.be.kept k1 (fun e => hS.ne e.symm), hS.ne⟩, (Keeps.of_below _ ha).trans k1⟩
/-- Which number each place has: the how manieth of a list, of its first k. -/
def numA (O : List Nat) : Nat → Nat → Int
  | 0 => fun _ => -1
  | k + 1 => upn (numA O k) (O.getD k 0) (k : Nat)
theorem numA_off {O : List Nat} {x : Nat} : ∀ {k : Nat}, k ≤ O.length → x ∉ O.take k → numA O k x = -1
  | 0, _, _ => rfl
  | k + 1, hk, h => by
    have hk' : k < O.length := hk
    rw [List.take_succ_eq_append_getElem hk', List.mem_append, List.mem_singleton] at h
    have e : O.getD k 0 = O[k] := by simp [List.getD, hk']
    show upn (numA O k) (O.getD k 0) (k : Nat) x = -1
    rw [e, upn_off _ _ fun q => h (.inr q)]
    exact numA_off (by omega) fun q => h (.inl q)
theorem numA_on {O : List Nat} (hn : O.Nodup) : ∀ {k : Nat}, k ≤ O.length → ∀ {i : Nat} (_ : i < k) (hO : i < O.length), numA O k O[i] = i
  | 0, _, i, hi, _ => by omega
  | k + 1, hk, i, hi, hO => by
    have hk' : k < O.length := hk
    have e : O.getD k 0 = O[k] := by simp [List.getD, hk']
    show upn (numA O k) (O.getD k 0) (k : Nat) O[i] = i
    rw [e]
    by_cases q : i = k
    · subst q; rw [upn_at]
    · rw [upn_off _ _ fun h => by
        have := (List.pairwise_iff_getElem.1 hn) i k hO hk' (by omega)
        exact this h]
      exact numA_on hn (by omega) (by omega) hO
set_option maxRecDepth 100000 in
set_option maxHeartbeats 1000000 in
theorem graNumbers_is {w0 w : World} {n c' k co : Nat} {x v0 v2 : Value} {a' ao : Option Addr} {O : List Nat} (hO : Ws .i32 w0 ao k co (O.map Int.ofNat)) (hn : n ≤ 60) (hx : ∀ y ∈ O, y < n) (hk : O.length ≤ 60) (hb : Below w0.heap.size w0 w) {bc c0 k0 bf cf kf : Nat} (e0 : v0 = .slice (some ⟨bc, 0, none⟩) c0 k0) (e2 : v2 = .slice (some ⟨bf, 0, none⟩) cf kf) {ax : Option Addr} {nx cx : Nat} (ex : x = .slice ax nx cx) :
    Calls Tryd.prog 56 #[.agg #[x, .slice a' (n + 1) c'], .agg #[v0, .slice ao k co, v2]] w fun e w' => ∃ b, e = .returned (.slice (some ⟨b, 0, none⟩) n n) ∧ Ar .i32 21 b n (numA O O.length) w' ∧ w.heap.size ≤ b ∧ Below w.heap.size w w' := by
  subst e0 e2 ex
  obtain ⟨i0, hi, hz0, hz1, hz2⟩ := info_parts infoI32
  have hmk := run_zeros (P := Tryd.prog) 38 21 i0 Tryd.underlying38 hi hz0 hz1 n (by rw [hz2]; omega) (by unfold maxLen; omega) n rfl
  have hn' : (n : Int) ≤ 60 := by omega
  have hkl := hO.len
  rw [List.length_map] at hkl
  have hk' : (k : Int) ≤ 60 := by omega
  have HO := Lib.hid hO
  have HB := Lib.hid hb
  have HX := Lib.hid (And.intro hx hk)
  have HKL := Lib.hid hkl
  clear hO hb hx hk hi hz0 hz1 hz2 hkl
  go_enter Tryd.func56, Tryd.ntmps56
  go_wp2_with (go_at_call 47; ((with_reducible refine (graSize_is (n := n) _ _ _ (by omega)).mono ?_); rintro e w2 ⟨rfl, hq⟩); have HQ := Lib.hid hq; clear hq)
  have hx0 : BlkAt (w.heap.size + 1) 49 #[.slice (some ⟨bc, 0, none⟩) c0 k0, .slice ao k co, .slice (some ⟨bf, 0, none⟩) cf kf] w2 := BlkAt.keep (BlkAt.newb _ _ _ (by simp)) HQ.out
  have hb2 : Below w.heap.size w w2 := ((((Below.refl _ _).alloc (Nat.le_refl _) _).alloc (by simp) _).trans (HQ.out.mono (by simp; omega)))
  have hs2 : w.heap.size + 2 ≤ w2.heap.size := by have := HQ.out.size; simpa using this
  have HX0 := Lib.hid hx0
  have HB2 := Lib.hid hb2
  have HS2 := Lib.hid hs2
  clear hx0 hb2 hs2 HQ
  obtain ⟨b, hb⟩ : ∃ b, w2.heap.size = b := ⟨_, rfl⟩
  have HA0 := Lib.hid (show Ar .i32 21 b n (fun _ => 0) (w2.alloc (.cells (fnArr n fun _ => .int .i32 0) 21)) from Ar.zeros w2 hb)
  have HK0 := Lib.hid ((Below.refl w2.heap.size w2).alloc (Nat.le_refl _) (.cells (fnArr n fun _ => .int .i32 0) 21))
  have HBE := Lib.hid hb
  rw [hb]
  obtain ⟨W, hW⟩ : ∃ W, w2.alloc (.cells (fnArr n fun _ => .int .i32 0) 21) = W := ⟨_, rfl⟩
  rw [hW] at HA0 HK0 ⊢
  clear hW hb hmk
  go_loopw [14] (fun i wr => ∃ j : Nat, j ≤ n ∧ i = .int .i64 j ∧ Ar .i32 21 b n (fun q => if q < j then -1 else 0) wr ∧ Keeps (fun q => q = b) W wr) (fun i _ => n - (intOf i).toNat)
  case atStart => exact ⟨0, by omega, rfl, HA0.out.eq fun i _ => by simp, Keeps.refl _ _⟩
  case round =>
    obtain ⟨j, hj, rfl, hA, hK⟩ := hrel
    have HA := Lib.hid hA
    have HK := Lib.hid hK
    by_cases hlt : j < n
    · have hlt' : (j : Int) < n := by omega
      have f0 := hA.free j
      have d0 := hA.cell hlt
      clear hA hK hlt
      go_wp2
      go_roundw
      case rel =>
        refine ⟨j + 1, by omega, by go_num, (HA.out.set j (-1)).eq fun i _ => ?_, HK.out.trans (Keeps.set1 _ _ _ _)⟩
        unfold upn
        by_cases e : i = j
        · subst e; simp
        · rw [if_neg e]; by_cases q : i < j <;> simp [q, show (i < j + 1) = (i < j) from by simp; omega]
      case measure => simp [intOf]; omega
    · obtain rfl : j = n := by omega
      have HA2 := Lib.hid (show Ar .i32 21 b j (numA O 0) wr from hA.eq fun i hi => by simp [hi, numA])
      have hkb := HK0.out
      have hx := (HX0.out.keep HK0.out).kept hK (by have := HS2.out; have := HBE.out; omega)
      have x1 := hx.cell 1
      clear hA hK hlt hx HA hkb
      go_wp2
      go_loopw [24] (fun i wr => ∃ i' : Nat, i' ≤ k ∧ i = .int .i64 i' ∧ Ar .i32 21 b j (numA O i') wr ∧ Keeps (fun q => q = b) W wr) (fun i _ => k - (intOf i).toNat)
      case atStart => exact ⟨0, by omega, rfl, HA2.out, HK.out⟩
      case round =>
        obtain ⟨i, hi, rfl, hA, hK⟩ := hrel
        have HA3 := Lib.hid hA
        have HK3 := Lib.hid hK
        by_cases hlt : i < k
        · have hlt' : (i : Int) < k := by omega
          have hOl : i < O.length := by have := HKL.out; omega
          have hold : Below w0.heap.size w0 wr := hK.below (HB.out.trans ((HB2.out.trans (HK0.out.mono HB2.out.size)).mono HB.out.size)) (by have := HB.out.size; have := HB2.out.size; have := HK0.out.size; omega) fun q e => by have := HBE.out; have := HB.out.size; have := HB2.out.size; omega
          obtain ⟨g, off, rfl, hc⟩ := (HO.out.keep hold).lie (by omega)
          have c0 := hc i hlt
          obtain ⟨y, hy⟩ : ∃ y, O[i] = y := ⟨_, rfl⟩
          have hby : byAt (O.map Int.ofNat) i = (y : Int) := by
            rw [← byAt_eq (by rw [List.length_map]; exact hOl), List.getElem_map, hy]; rfl
          rw [hby] at c0
          have hyn : y < j := HX.out.1 y (by rw [← hy]; exact List.getElem_mem _)
          have hy' : (y : Int) < j := by omega
          have f0 := hA.free y
          have d0 := hA.cell hyn
          have hg : O.getD i 0 = y := by rw [← hy]; simp [List.getD, hOl]
          have HG := Lib.hid hg
          have hw : IntKind.i32.wrap (i : Int) = (i : Int) := IntWalk.i32_in _ (by omega)
          obtain ⟨u, hu⟩ : ∃ u, numA O i y = u := ⟨_, rfl⟩
          rw [hu] at d0
          clear hA hK hlt hold hc hby hyn hy hg hu
          go_wp2
          go_roundw
          case rel =>
            refine ⟨i + 1, by omega, by go_num, (HA3.out.set y (i : Nat)).eq fun q _ => ?_, HK3.out.trans (Keeps.set1 _ _ _ _)⟩
            show _ = upn (numA O i) (O.getD i 0) (i : Nat) q
            rw [HG.out]
          case measure => simp [intOf]; omega
        · obtain rfl : i = k := by omega
          clear hA hK hlt
          go_wp2
          go_ret
          have h1 := HB2.out.size
          have h2 := HBE.out
          have hkl := HKL.out
          subst hkl
          exact ⟨b, rfl, HA3.out, by omega, HK3.out.below (HB2.out.trans (HK0.out.mono h1)) (by have := HK0.out.size; omega) fun q e => by omega⟩
end Go.Proofs.YtggiaopdgijgnaaDoor
