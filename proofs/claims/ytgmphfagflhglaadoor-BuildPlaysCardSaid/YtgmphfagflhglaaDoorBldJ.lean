/- Layer 21's law: does, on both builders: each kind of act. (The walks of its regions are written by a program.) -/
import Derived.Test.YtgmphfagflhglaaDoorBldI
import Derived.Test.YtgmphfagflhglaaDoorRgS
import Derived.Deep.CutRange
namespace Go.Proofs.YtgmphfagflhglaaDoor
open Go.RowKit Go.Maps Go.IntWalk

/-- The document's builder has opened a loop (or refused it), what it said stands in a box. -/
structure OpIn (B t b d x be : Nat) (ev : Int) (s so : Bst) (G1 G2 H2 : Nat → Prop) (W wx : World) : Prop where
  two : TwoIn B wx t b d x s so G1 H2
  grow : Grow2 t G1 G2 W G1 H2 wx
  eb : BlkAt be 42 #[.int .i64 ev] wx
  ge : W.heap.size ≤ be
  nb : ¬ H2 be
theorem opA {B t b d x : Nat} {ev : Int} {s so : Bst} {G1 G2 H2 : Nat → Prop} {W w3 : World} (T : TwoIn B W t b d x s s G1 G2) (h : RbAt B w3 x so H2) (g : Grows G2 W H2 w3) : OpIn B t b d x w3.heap.size ev s so G1 G2 H2 W (w3.alloc (.cells #[.int .i64 ev] 42)) := by
  have al := (Below.refl w3.heap.size w3).alloc (Nat.le_refl _) (.cells #[.int .i64 ev] 42)
  exact ⟨(T.two h g).keep al, (Grow2.two g).trans (Grow2.below al), BlkAt.new _ _ _, g.keeps.size, fun q => Nat.lt_irrefl _ (h.low _ q).2⟩
theorem opB {B t b d x : Nat} {ev : Int} {s so : Bst} {G1 G2 H2 : Nat → Prop} {W w3 : World} (T : TwoIn B W t b d x s s G1 G2) (h : RbAt B w3 x so H2) (g : Grows G2 (W.alloc (.cells #[.int .i64 0] 42)) H2 w3) :
    OpIn B t b d x W.heap.size ev s so G1 G2 H2 W (w3.setCell ⟨W.heap.size, 0, none⟩ (.int .i64 ev)) ∧ BlkAt W.heap.size 42 #[.int .i64 0] w3 := by
  have al := (Below.refl W.heap.size W).alloc (Nat.le_refl _) (.cells #[.int .i64 0] 42)
  have hs : (W.alloc (.cells #[.int .i64 0] 42)).heap.size = W.heap.size + 1 := by simp
  obtain ⟨n1, n2, n3⟩ := T.fresh (Nat.le_refl _)
  have nb : ¬ H2 W.heap.size := fun q => by
    rcases g.new _ q with e | e
    · exact n2 e
    · omega
  have e3 : BlkAt W.heap.size 42 #[.int .i64 0] w3 := (BlkAt.new W 42 #[.int .i64 0]).kept g.keeps n2
  have T3 := (T.keep al).two h g
  refine ⟨⟨T3.box (fun q => ?_) 0 _, ((Grow2.below al).trans (Grow2.two g)).box (Nat.le_refl _) 0 _, (e3.set 0 _).eq rfl, Nat.le_refl _, nb⟩, e3⟩
  rcases q with q | q | q
  · exact n1 q
  · exact nb q
  · exact n3 q
theorem open_bad {s : Bst} {c l n : Int} {nm : ByteArray} (h : ¬ (loopOk c l n ∧ defE s.ds nm = 0)) : openE s c l n nm ≠ 0 := by
  unfold openE
  split
  · rename_i q; exact fun e => h ⟨q, e⟩
  · decide
theorem def_same {ds : Df} {nm : ByteArray} (h : defE ds nm ≠ 0) (p : Int) : defS ds nm p = ds := by
  cases hN : nameB nm
  · exact (def_no p hN).2
  · cases hp : plB ds nm
    · exact absurd (def_yes p hN hp).1 h
    · exact (def_twice p hN hp).2
theorem bldLoop_bad {B b d : Nat} {s : Bst} {F : Nat → Prop} (c l n : Int) (nm : ByteArray) (fv : Value) (w : World) (h : BldAt B w b d s F) (hs : nm.size ≤ maxLen) (hn : s.L.length ≤ 900) (hd : s.ds.length ≤ 1000) (hu : s.us.length ≤ 1000) (hB : B ≤ w.heap.size) (hk : ¬ (loopOk c l n ∧ defE s.ds nm = 0)) :
    Calls Tryd.prog 12 #[.pointer (some ⟨b, 0, none⟩), .int .i64 c, .int .i64 l, .int .i64 n, .string nm, fv] w (BldTo B b d (openE s c l n nm) s F w) := by
  by_cases ho : loopOk c l n
  · have he : defE s.ds nm ≠ 0 := fun e => hk ⟨ho, e⟩
    have e1 : openE s c l n nm = defE s.ds nm := by unfold openE; rw [if_pos ho]
    rw [e1]
    exact bldLoop_dup c l n _ nm fv w h hs hn hd hu hB ho rfl he (def_same he)
  · have e1 : openE s c l n nm = 6 := by unfold openE; rw [if_neg ho]
    rw [e1]
    exact bldLoop_no c l n nm fv w h ho
section
variable {B t b d x n c : Nat} {a : Option Addr} {l : List Ab}
set_option maxRecDepth 100000 in
set_option maxHeartbeats 4000000 in
theorem does_step (i depth : Nat) (s : Bst) (F1 F2 : Nat → Prop) (w : World) (hn : n ≤ 60) (hd : depth ≤ 6) (hi : i ≤ n) (hL : ElAt abK w a n c l) (hok : ∀ y ∈ l, AbOk y) (hla : ∀ la off, a = some ⟨la, off, none⟩ → 0 < n → la < B) (hg : 1 < B) (hB : B ≤ w.heap.size)
    (h : TwoIn B w t b d x s s F1 F2) (hS : ShapesLaid w) (hI : Inv s i depth)
    (hrec : depth ≤ 5 → ∀ i' s' G1 G2 w', i' ≤ n → ElAt abK w' a n c l → B ≤ w'.heap.size → TwoIn B w' t b d x s' s' G1 G2 → ShapesLaid w' → Inv s' i' (depth + 1) → Calls Tryd.prog 6 #[.pointer (some ⟨t, 0, none⟩), .slice a n c, .int .i64 i', .int .i64 ((depth : Int) + 1)] w' (DoesTo B t b d x n i' (depth + 1) G1 G2 w')) :
    Calls Tryd.prog 6 #[.pointer (some ⟨t, 0, none⟩), .slice a n c, .int .i64 i, .int .i64 depth] w (DoesTo B t b d x n i depth F1 F2 w) := by
  have HBX := Lib.hid (DoBox.new w t a n c i depth)
  have HT := Lib.hid h
  have HLL := Lib.hid hL
  have HOK := Lib.hid hok
  have HLA := Lib.hid hla
  have HSL := Lib.hid hS
  have HI := Lib.hid hI
  have HREC := Lib.hid hrec
  have hln := hL.len
  clear h hL hok hla hS hI hrec
  go_enter Tryd.func6, Tryd.ntmps6
  go_wp2
  go_loopw [9] (fun _ wr => ∃ m s' G1 G2, DoW B t b d x n c i depth a l F1 F2 w wr m s' G1 G2) (fun _ wr => n - atOf (w.heap.size + 2) wr)
  case atStart =>
    refine ⟨i, s, F1, F2, Nat.le_refl _, hi, HBX.out, HT.out.keep (((((Below.refl w.heap.size w).alloc (Nat.le_refl _) _).alloc (by simp) _).alloc (by simp; omega) _).alloc (by simp; omega) _), Grow2.below (((((Below.refl w.heap.size w).alloc (Nat.le_refl _) _).alloc (by simp) _).alloc (by simp; omega) _).alloc (by simp; omega) _), HI.out, fun j q => ?_⟩
    obtain ⟨f1, f2, f3⟩ := HT.out.fresh q.1
    exact ⟨f1, f2, f3, by simp; have := q.2; omega⟩
  case round =>
    obtain ⟨m, s', G1, G2, hW⟩ := hrel
    have HW := Lib.hid hW
    have b0 := hW.box.b0.cell 0
    have b1 := hW.box.b1.cell 0
    have b2 := hW.box.b2.cell 0
    have b3 := hW.box.b3.cell 0
    have t2 := hW.two.blk.cell 2
    have f2 := hW.box.b2.free 0
    clear hW
    by_cases hlt : m < n
    · have hlt' : (m : Int) < n := by omega
      obtain ⟨X, hX⟩ : ∃ X, el l m = X := ⟨_, rfl⟩
      obtain ⟨kd, ⟨io, id, ia, ib, iN⟩, nm, rc, rl, rn⟩ := X
      obtain ⟨la, lo, rfl, d0, d1, d2, d3, d4, d5, d6, d7, d8, d9⟩ := (HLL.out.kept HW.out.grow.keeps fun la lo e => by
        have := HLA.out la lo e (by omega)
        rintro (q | q | q)
        · have := (HT.out.low1 _ q).1; omega
        · have := (HT.out.low2 _ q).1; omega
        · have := HT.out.tb; omega).ab hlt hX
      have hAO := HOK.out (el l m) (by rw [← el_eq (by omega)]; exact List.getElem_mem _)
      rw [hX] at hAO
      simp only at d1 d2 d3 d4 d5
      have HAO := Lib.hid hAO
      have hw1 : wrap64 ((m : Int) + 1) = ((m + 1 : Nat) : Int) := by unfold wrap64; omega
      have HNX := Lib.hid (HW.out.next (cs := #[.int .i64 kd, .int .i64 io, .int .i64 id, .int .i64 ia, .int .i64 ib, .int .i64 iN, .string nm, .int .i64 rc, .int .i64 rl, .int .i32 rn]) (T := 27) hlt)
      have hqn : w.heap.size + 2 < wr.heap.size := by have := HW.out.room; omega
      clear hAO hX
      go_upto_region 4 with (fail)
      have hrm := HW.out.room
      obtain ⟨W, hW⟩ : ∃ W, (wr.setCell ⟨w.heap.size + 1 + 1, 0, none⟩ (.int .i64 ((m : Int) + 1))).alloc (.cells #[.int .i64 kd, .int .i64 io, .int .i64 id, .int .i64 ia, .int .i64 ib, .int .i64 iN, .string nm, .int .i64 rc, .int .i64 rl, .int .i32 rn] 27) = W := ⟨_, rfl⟩
      obtain ⟨ba, hba⟩ : ∃ q, wr.heap.size = q := ⟨_, rfl⟩
      rw [hW, hba] at HNX
      rw [hW]
      simp only [hba]
      have hWs : ba < W.heap.size := HNX.out.2.1.lt
      have hqb : w.heap.size + 4 ≤ ba := by omega
      have HN := Lib.hid HNX.out.1
      have HA := Lib.hid HNX.out.2.1
      have HF := Lib.hid HNX.out.2.2
      have a0 := HA.out.cell 0
      clear HNX hW b0 b1 b2 b3 t2 f2 d0 d1 d2 d3 d4 d5 d6 d7 d8 d9 hqn hw1
      have b0 := HN.out.box.b0.cell 0
      have b1 := HN.out.box.b1.cell 0
      have b2 := HN.out.box.b2.cell 0
      have b3 := HN.out.box.b3.cell 0
      have t0 := HN.out.two.blk.cell 0
      have t1 := HN.out.two.blk.cell 1
      have t2 := HN.out.two.blk.cell 2
      have hBW : B ≤ W.heap.size := Nat.le_trans hB HN.out.grow.keeps.size
      have HSW := Lib.hid (HSL.out.grow2 HN.out.grow HT.out.low1 HT.out.low2 HT.out.tb hg)
      have HIP := Lib.hid HW.out.inv
      have n1 := HN.out.inv.nL
      have n2 := HN.out.inv.nd
      have n3 := HN.out.inv.nu
      have n4 := HN.out.hi
      rcases (show kd = 0 ∨ kd = 1 ∨ kd = 2 ∨ kd = 3 ∨ kd = 4 ∨ kd = 5 ∨ (((kd == 0) = false ∧ (kd == 1) = false ∧ (kd == 2) = false) ∧ (kd == 3) = false ∧ (kd == 4) = false ∧ (kd == 5) = false) by simp; omega) with rfl | rfl | rfl | rfl | rfl | rfl | ⟨⟨e0, e1, e2⟩, e3, e4, e5⟩
      · as_aux_lemma =>
        go_upto_region 6 with (fail)
        have dk : Below W.heap.size W W.drew := (Below.refl _ _).drew
        have T2 := Lib.hid (HN.out.two.keep dk)
        have Q2 := Lib.hid (Grow2.below (t := t) (F1 := G1) (F2 := G2) dk)
        have F2' := Lib.hid (HF.out.next Q2.out)
        have A2 := Lib.hid (HA.out.keep dk)
        have X2 := Lib.hid (HN.out.box.keep dk)
        have L2 := Lib.hid (HSW.out.below dk HSW.out.lt)
        have hBd : B ≤ W.drew.heap.size := hBW
        have K1 := Lib.hid (bldIns_is io id ia ib iN W.drew T2.out.bl L2.out (by omega) hBd)
        obtain ⟨ev, hev⟩ : ∃ z, insE (io, id, ia, ib, iN) = z := ⟨_, rfl⟩
        obtain ⟨sv, hsv⟩ : ∃ z, s'.ins (io, id, ia, ib, iN) = z := ⟨_, rfl⟩
        have K2 := Lib.hid (fun w3 G1' (q : TwoIn B w3 t b d x (s'.ins (io, id, ia, ib, iN)) s' G1' G2) (k : B ≤ w3.heap.size) => refBIns_is B x s' G2 io id ia ib iN w3 q.rb (by omega) k)
        rw [hev, hsv] at K1 K2
        have HIV := Lib.hid (HIP.out.ins (io, id, ia, ib, iN))
        rw [hsv] at HIV
        have hne : (ev == ev) = true := by simp
        clear dk hev hsv b0 b1 b2 b3 t0 t1 t2 a0
        refine wp_region_seq [(0, 0, 34, 16), (1, 0, 35, 16), (2, 2, 36, 17179869184), (3, 4, 37, 34359738368), (4, 8, 38, 68719476736), (5, 0, 39, 512), (6, 32, 40, 274877906944), (7, 80, 41, 687194767360), (8, 0, 42, 16), (9, 256, 43, 2199023255552), (10, 512, 44, 4398046511104), (11, 1024, 45, 8796093022208), (12, 0, 46, 512), (13, 4096, 47, 35184372088832), (14, 10368, 48, 87960930222080), (15, 16512, 49, 141836999983104), (16, 65535, 50, 8589934592), (17, 131071, 51, 562949953421312), (18, 196607, 0, 1407374883553280)] [(true, 0, 1), (true, 1, 3), (true, 2, 7), (true, 3, 15), (true, 4, 31), (true, 5, 63), (true, 6, 127), (true, 8, 383), (true, 9, 895), (true, 10, 1919), (true, 11, 3967), (true, 12, 8063), (true, 13, 16255), (false, 7, 16383), (false, 14, 32767), (true, 15, 65535), (true, 16, 131071), (true, 17, 262143), (false, 18, 524287)] (fun W' => W'.cell? ⟨w.heap.size, 0, none⟩ = some (.pointer (some ⟨t, 0, none⟩)) ∧ W'.cell? ⟨t, 0, none⟩ = some (.pointer (some ⟨b, 0, none⟩)) ∧ W'.cell? ⟨t, 1, none⟩ = some (.pointer (some ⟨x, 0, none⟩)) ∧ W'.cell? ⟨ba, 1, none⟩ = some (.int .i64 io) ∧ W'.cell? ⟨ba, 2, none⟩ = some (.int .i64 id) ∧ W'.cell? ⟨ba, 3, none⟩ = some (.int .i64 ia) ∧ W'.cell? ⟨ba, 4, none⟩ = some (.int .i64 ib) ∧ W'.cell? ⟨ba, 5, none⟩ = some (.int .i64 iN)) (by kernel_rfl) (by kernel_rfl) (by kernel_rfl) (by kernel_rfl) (by kernel_rfl) (⟨X2.out.b0.cell 0, T2.out.blk.cell 0, T2.out.blk.cell 1, A2.out.cell 1, A2.out.cell 2, A2.out.cell 3, A2.out.cell 4, A2.out.cell 5⟩) ?_
        (refine SeqH.take (v := ?_) rfl rfl ?_ ?_; rotate_left; (intro w' hw'; (try dsimp only at hw'); go_simp; try with_reducible rfl); go_simp)
        (refine SeqH.take (v := ?_) rfl rfl ?_ ?_; rotate_left; (intro w' hw'; (try dsimp only at hw'); go_simp; try with_reducible rfl); go_simp)
        (refine SeqH.take (v := ?_) rfl rfl ?_ ?_; rotate_left; (intro w' hw'; (try dsimp only at hw'); go_simp; try with_reducible rfl); go_simp)
        (refine SeqH.take (v := ?_) rfl rfl ?_ ?_; rotate_left; (intro w' hw'; (try dsimp only at hw'); go_simp; try with_reducible rfl); go_simp)
        (refine SeqH.take (v := ?_) rfl rfl ?_ ?_; rotate_left; (intro w' hw'; (try dsimp only at hw'); go_simp; try with_reducible rfl); go_simp)
        (refine SeqH.take (v := ?_) rfl rfl ?_ ?_; rotate_left; (intro w' hw'; (try dsimp only at hw'); go_simp; try with_reducible rfl); go_simp)
        (refine SeqH.take (v := ?_) rfl rfl ?_ ?_; rotate_left; (intro w' hw'; (try dsimp only at hw'); go_simp; try with_reducible rfl); go_simp)
        (refine SeqH.take (v := ?_) rfl rfl ?_ ?_; rotate_left; (intro w' hw'; (try dsimp only at hw'); go_simp; try with_reducible rfl); go_simp)
        (refine SeqH.take (v := ?_) rfl rfl ?_ ?_; rotate_left; (intro w' hw'; (try dsimp only at hw'); go_simp; try with_reducible rfl); go_simp)
        (refine SeqH.take (v := ?_) rfl rfl ?_ ?_; rotate_left; (intro w' hw'; (try dsimp only at hw'); go_simp; try with_reducible rfl); go_simp)
        (refine SeqH.take (v := ?_) rfl rfl ?_ ?_; rotate_left; (intro w' hw'; (try dsimp only at hw'); go_simp; try with_reducible rfl); go_simp)
        (refine SeqH.take (v := ?_) rfl rfl ?_ ?_; rotate_left; (intro w' hw'; (try dsimp only at hw'); go_simp; try with_reducible rfl); go_simp)
        (refine SeqH.take (v := ?_) rfl rfl ?_ ?_; rotate_left; (intro w' hw'; (try dsimp only at hw'); go_simp; try with_reducible rfl); go_simp)
        refine SeqH.step rfl rfl (fun KK hKK => ?_)
        go_simp
        refine (K1.out).mono ?_
        rintro e w3 ⟨G1', rfl, h3, g3⟩
        (try dsimp only)
        have Q3 := Lib.hid (Q2.out.trans (Grow2.one g3))
        have F3' := Lib.hid (F2'.out.next (Grow2.one g3))
        have T3 := Lib.hid (T2.out.one h3 g3)
        have A3 := Lib.hid (F2'.out.blk (Grow2.one g3) (.inr rfl) A2.out)
        have X3 := Lib.hid (X2.out.kept F2'.out (Grow2.one g3))
        have hB3 := g3.keeps.size
        clear h3 g3
        refine hKK _ _ ⟨X3.out.b0.cell 0, T3.out.blk.cell 0, T3.out.blk.cell 1, A3.out.cell 1, A3.out.cell 2, A3.out.cell 3, A3.out.cell 4, A3.out.cell 5⟩ ?_
        clear hKK KK
        refine SeqH.step rfl rfl (fun KK hKK => ?_)
        go_simp
        refine (K2.out _ _ T3.out (Nat.le_trans hBd hB3)).mono ?_
        rintro e w4 ⟨G2', rfl, h4, g4⟩
        (try dsimp only)
        have Q4 := Lib.hid (Q3.out.trans (Grow2.two g4))
        have F4' := Lib.hid (F3'.out.next (Grow2.two g4))
        have T4 := Lib.hid (T3.out.two h4 g4)
        have A4 := Lib.hid (F3'.out.blk (Grow2.two g4) (.inr rfl) A3.out)
        have X4 := Lib.hid (X3.out.kept F3'.out (Grow2.two g4))
        have tc := T4.out.blk.cell 2
        have tf := T4.out.blk.free 2
        clear h4 g4
        refine hKK _ _ ⟨X4.out.b0.cell 0, T4.out.blk.cell 0, T4.out.blk.cell 1, A4.out.cell 1, A4.out.cell 2, A4.out.cell 3, A4.out.cell 4, A4.out.cell 5⟩ ?_
        clear hKK KK
        (refine SeqH.take (v := ?_) rfl rfl ?_ ?_; rotate_left; (intro w' hw'; (try dsimp only at hw'); go_simp; try with_reducible rfl); go_simp)
        (refine SeqH.take (v := ?_) rfl rfl ?_ ?_; rotate_left; (intro w' hw'; (try dsimp only at hw'); go_simp; try with_reducible rfl); go_simp)
        (refine SeqH.take (v := ?_) rfl rfl ?_ ?_; rotate_left; (intro w' hw'; (try dsimp only at hw'); go_simp; try with_reducible rfl); go_simp)
        refine SeqH.step rfl rfl (fun KK hKK => ?_)
        go_simp
        have Q5 := Lib.hid (Q4.out.trans (Grow2.set 2 (.bool true)))
        have T5 := Lib.hid T4.out.fine
        have A5 := Lib.hid (F4'.out.blk (Grow2.set 2 (.bool true)) (.inr rfl) A4.out)
        have X5 := Lib.hid (X4.out.kept F4'.out (Grow2.set 2 (.bool true)))
        clear tc tf
        refine hKK _ _ ⟨X5.out.b0.cell 0, T5.out.blk.cell 0, T5.out.blk.cell 1, A5.out.cell 1, A5.out.cell 2, A5.out.cell 3, A5.out.cell 4, A5.out.cell 5⟩ ?_
        clear hKK KK
        refine SeqH.done (NoPanic.normal ?_)
        go_wp2
        go_roundw
        case rel => exact ⟨m + 1, sv, G1', G2', HN.out.after Q5.out T5.out HIV.out⟩
        case measure => rw [(HN.out.after Q5.out T5.out HIV.out).box.at, HW.out.box.at]; omega
      · as_aux_lemma =>
        go_upto_region 8 with (fail)
        have dk : Below W.heap.size W W.drew := (Below.refl _ _).drew
        have T2 := Lib.hid (HN.out.two.keep dk)
        have Q2 := Lib.hid (Grow2.below (t := t) (F1 := G1) (F2 := G2) dk)
        have F2' := Lib.hid (HF.out.next Q2.out)
        have A2 := Lib.hid (HA.out.keep dk)
        have X2 := Lib.hid (HN.out.box.keep dk)
        have L2 := Lib.hid (HSW.out.below dk HSW.out.lt)
        have hBd : B ≤ W.drew.heap.size := hBW
        have K1 := Lib.hid (bldLabel_is nm W.drew T2.out.bl HAO.out.1 (by omega) (by omega) hBd)
        obtain ⟨ev, hev⟩ : ∃ z, defE s'.ds nm = z := ⟨_, rfl⟩
        obtain ⟨sv, hsv⟩ : ∃ z, s'.lab nm s'.L.length = z := ⟨_, rfl⟩
        have K2 := Lib.hid (fun w3 G1' (q : TwoIn B w3 t b d x (s'.lab nm s'.L.length) s' G1' G2) (k : B ≤ w3.heap.size) => refBLabel_is B x s' G2 nm w3 q.rb HAO.out.1 (by omega) k)
        rw [hev, hsv] at K1 K2
        have HIV := Lib.hid (HIP.out.lab nm s'.L.length)
        rw [hsv] at HIV
        have hne : (ev == ev) = true := by simp
        clear dk hev hsv b0 b1 b2 b3 t0 t1 t2 a0
        refine wp_region_seq [(0, 0, 54, 16), (1, 0, 55, 16), (2, 2, 56, 18014398509481984), (3, 4, 57, 36028797018963968), (4, 8, 58, 72057594037927936), (5, 0, 59, 512), (6, 32, 60, 288230376151711744), (7, 80, 61, 720575940379279360), (8, 0, 62, 16), (9, 256, 63, 2305843009213693952), (10, 512, 64, 4611686018427387904), (11, 1024, 65, 9223372036854775808), (12, 0, 66, 512), (13, 4096, 67, 36893488147419103232), (14, 10368, 68, 92233720368547758080), (15, 16512, 69, 148726874094283259904), (16, 65535, 70, 9007199254740992), (17, 131071, 71, 590295810358705651712), (18, 196607, 0, 1475739525896764129280)] [(true, 0, 1), (true, 1, 3), (true, 2, 7), (true, 3, 15), (true, 4, 31), (true, 5, 63), (true, 6, 127), (true, 8, 383), (true, 9, 895), (true, 10, 1919), (true, 11, 3967), (true, 12, 8063), (true, 13, 16255), (false, 7, 16383), (false, 14, 32767), (true, 15, 65535), (true, 16, 131071), (true, 17, 262143), (false, 18, 524287)] (fun W' => W'.cell? ⟨w.heap.size, 0, none⟩ = some (.pointer (some ⟨t, 0, none⟩)) ∧ W'.cell? ⟨t, 0, none⟩ = some (.pointer (some ⟨b, 0, none⟩)) ∧ W'.cell? ⟨t, 1, none⟩ = some (.pointer (some ⟨x, 0, none⟩)) ∧ W'.cell? ⟨ba, 6, none⟩ = some (.string nm)) (by kernel_rfl) (by kernel_rfl) (by kernel_rfl) (by kernel_rfl) (by kernel_rfl) (⟨X2.out.b0.cell 0, T2.out.blk.cell 0, T2.out.blk.cell 1, A2.out.cell 6⟩) ?_
        (refine SeqH.take (v := ?_) rfl rfl ?_ ?_; rotate_left; (intro w' hw'; (try dsimp only at hw'); go_simp; try with_reducible rfl); go_simp)
        (refine SeqH.take (v := ?_) rfl rfl ?_ ?_; rotate_left; (intro w' hw'; (try dsimp only at hw'); go_simp; try with_reducible rfl); go_simp)
        (refine SeqH.take (v := ?_) rfl rfl ?_ ?_; rotate_left; (intro w' hw'; (try dsimp only at hw'); go_simp; try with_reducible rfl); go_simp)
        (refine SeqH.take (v := ?_) rfl rfl ?_ ?_; rotate_left; (intro w' hw'; (try dsimp only at hw'); go_simp; try with_reducible rfl); go_simp)
        (refine SeqH.take (v := ?_) rfl rfl ?_ ?_; rotate_left; (intro w' hw'; (try dsimp only at hw'); go_simp; try with_reducible rfl); go_simp)
        (refine SeqH.take (v := ?_) rfl rfl ?_ ?_; rotate_left; (intro w' hw'; (try dsimp only at hw'); go_simp; try with_reducible rfl); go_simp)
        (refine SeqH.take (v := ?_) rfl rfl ?_ ?_; rotate_left; (intro w' hw'; (try dsimp only at hw'); go_simp; try with_reducible rfl); go_simp)
        (refine SeqH.take (v := ?_) rfl rfl ?_ ?_; rotate_left; (intro w' hw'; (try dsimp only at hw'); go_simp; try with_reducible rfl); go_simp)
        (refine SeqH.take (v := ?_) rfl rfl ?_ ?_; rotate_left; (intro w' hw'; (try dsimp only at hw'); go_simp; try with_reducible rfl); go_simp)
        (refine SeqH.take (v := ?_) rfl rfl ?_ ?_; rotate_left; (intro w' hw'; (try dsimp only at hw'); go_simp; try with_reducible rfl); go_simp)
        (refine SeqH.take (v := ?_) rfl rfl ?_ ?_; rotate_left; (intro w' hw'; (try dsimp only at hw'); go_simp; try with_reducible rfl); go_simp)
        (refine SeqH.take (v := ?_) rfl rfl ?_ ?_; rotate_left; (intro w' hw'; (try dsimp only at hw'); go_simp; try with_reducible rfl); go_simp)
        (refine SeqH.take (v := ?_) rfl rfl ?_ ?_; rotate_left; (intro w' hw'; (try dsimp only at hw'); go_simp; try with_reducible rfl); go_simp)
        refine SeqH.step rfl rfl (fun KK hKK => ?_)
        go_simp
        refine (K1.out).mono ?_
        rintro e w3 ⟨G1', rfl, h3, g3⟩
        (try dsimp only)
        have Q3 := Lib.hid (Q2.out.trans (Grow2.one g3))
        have F3' := Lib.hid (F2'.out.next (Grow2.one g3))
        have T3 := Lib.hid (T2.out.one h3 g3)
        have A3 := Lib.hid (F2'.out.blk (Grow2.one g3) (.inr rfl) A2.out)
        have X3 := Lib.hid (X2.out.kept F2'.out (Grow2.one g3))
        have hB3 := g3.keeps.size
        clear h3 g3
        refine hKK _ _ ⟨X3.out.b0.cell 0, T3.out.blk.cell 0, T3.out.blk.cell 1, A3.out.cell 6⟩ ?_
        clear hKK KK
        refine SeqH.step rfl rfl (fun KK hKK => ?_)
        go_simp
        refine (K2.out _ _ T3.out (Nat.le_trans hBd hB3)).mono ?_
        rintro e w4 ⟨G2', rfl, h4, g4⟩
        (try dsimp only)
        have Q4 := Lib.hid (Q3.out.trans (Grow2.two g4))
        have F4' := Lib.hid (F3'.out.next (Grow2.two g4))
        have T4 := Lib.hid (T3.out.two h4 g4)
        have A4 := Lib.hid (F3'.out.blk (Grow2.two g4) (.inr rfl) A3.out)
        have X4 := Lib.hid (X3.out.kept F3'.out (Grow2.two g4))
        have tc := T4.out.blk.cell 2
        have tf := T4.out.blk.free 2
        clear h4 g4
        refine hKK _ _ ⟨X4.out.b0.cell 0, T4.out.blk.cell 0, T4.out.blk.cell 1, A4.out.cell 6⟩ ?_
        clear hKK KK
        (refine SeqH.take (v := ?_) rfl rfl ?_ ?_; rotate_left; (intro w' hw'; (try dsimp only at hw'); go_simp; try with_reducible rfl); go_simp)
        (refine SeqH.take (v := ?_) rfl rfl ?_ ?_; rotate_left; (intro w' hw'; (try dsimp only at hw'); go_simp; try with_reducible rfl); go_simp)
        (refine SeqH.take (v := ?_) rfl rfl ?_ ?_; rotate_left; (intro w' hw'; (try dsimp only at hw'); go_simp; try with_reducible rfl); go_simp)
        refine SeqH.step rfl rfl (fun KK hKK => ?_)
        go_simp
        have Q5 := Lib.hid (Q4.out.trans (Grow2.set 2 (.bool true)))
        have T5 := Lib.hid T4.out.fine
        have A5 := Lib.hid (F4'.out.blk (Grow2.set 2 (.bool true)) (.inr rfl) A4.out)
        have X5 := Lib.hid (X4.out.kept F4'.out (Grow2.set 2 (.bool true)))
        clear tc tf
        refine hKK _ _ ⟨X5.out.b0.cell 0, T5.out.blk.cell 0, T5.out.blk.cell 1, A5.out.cell 6⟩ ?_
        clear hKK KK
        refine SeqH.done (NoPanic.normal ?_)
        go_wp2
        go_roundw
        case rel => exact ⟨m + 1, sv, G1', G2', HN.out.after Q5.out T5.out HIV.out⟩
        case measure => rw [(HN.out.after Q5.out T5.out HIV.out).box.at, HW.out.box.at]; omega
      · as_aux_lemma =>
        go_upto_region 10 with (fail)
        have dk : Below W.heap.size W W.drew := (Below.refl _ _).drew
        have T2 := Lib.hid (HN.out.two.keep dk)
        have Q2 := Lib.hid (Grow2.below (t := t) (F1 := G1) (F2 := G2) dk)
        have F2' := Lib.hid (HF.out.next Q2.out)
        have A2 := Lib.hid (HA.out.keep dk)
        have X2 := Lib.hid (HN.out.box.keep dk)
        have L2 := Lib.hid (HSW.out.below dk HSW.out.lt)
        have hBd : B ≤ W.drew.heap.size := hBW
        have K1 := Lib.hid (bldGo_is io id ia nm W.drew T2.out.bl L2.out HAO.out.1 (by omega) (by omega) (by omega) hBd)
        obtain ⟨ev, hev⟩ : ∃ z, goE io id ia nm = z := ⟨_, rfl⟩
        obtain ⟨sv, hsv⟩ : ∃ z, s'.goes io id ia nm = z := ⟨_, rfl⟩
        have K2 := Lib.hid (fun w3 G1' (q : TwoIn B w3 t b d x (s'.goes io id ia nm) s' G1' G2) (k : B ≤ w3.heap.size) => refBGo_is B x s' G2 io id ia nm w3 q.rb HAO.out.1 (by omega) (by omega) k)
        rw [hev, hsv] at K1 K2
        have HIV := Lib.hid (HIP.out.goes io id ia nm)
        rw [hsv] at HIV
        have hne : (ev == ev) = true := by simp
        clear dk hev hsv b0 b1 b2 b3 t0 t1 t2 a0
        refine wp_region_seq [(0, 0, 74, 16), (1, 0, 75, 16), (2, 2, 76, 18889465931478580854784), (3, 4, 77, 37778931862957161709568), (4, 8, 78, 75557863725914323419136), (5, 0, 79, 512), (6, 32, 80, 302231454903657293676544), (7, 64, 81, 604462909807314587353088), (8, 0, 82, 512), (9, 256, 83, 2417851639229258349412352), (10, 512, 84, 4835703278458516698824704), (11, 0, 85, 512), (12, 2048, 86, 19342813113834066795298816), (13, 4096, 87, 38685626227668133590597632), (14, 0, 88, 512), (15, 16384, 89, 154742504910672534362390528), (16, 42128, 90, 397887710380664827125170176), (17, 0, 91, 16), (18, 131072, 92, 1237940039285380274899124224), (19, 262144, 93, 2475880078570760549798248448), (20, 524288, 94, 4951760157141521099596496896), (21, 0, 95, 512), (22, 2097152, 96, 19807040628566084398385987584), (23, 4194304, 97, 39614081257132168796771975168), (24, 0, 98, 512), (25, 16777216, 99, 158456325028528675187087900672), (26, 33554432, 100, 316912650057057350374175801344), (27, 0, 101, 512), (28, 134217728, 102, 1267650600228229401496703205376), (29, 268435456, 103, 2535301200456458802993406410752), (30, 0, 104, 512), (31, 1073741824, 105, 10141204801825835211973625643008), (32, 2760966144, 106, 26075968987507250110475152654336), (33, 4295032832, 107, 40565438177322983538031952134144), (34, 17179869183, 108, 9444732965739290427392), (35, 34359738367, 109, 162259276829213363391578010288128), (36, 51539607551, 0, 405648192073033408478945025720320)] [(true, 0, 1), (true, 1, 3), (true, 2, 7), (true, 3, 15), (true, 4, 31), (true, 5, 63), (true, 6, 127), (true, 7, 255), (true, 8, 511), (true, 9, 1023), (true, 10, 2047), (true, 11, 4095), (true, 12, 8191), (true, 13, 16383), (true, 14, 32767), (true, 15, 65535), (true, 17, 196607), (true, 18, 458751), (true, 19, 983039), (true, 20, 2031615), (true, 21, 4128767), (true, 22, 8323071), (true, 23, 16711679), (true, 24, 33488895), (true, 25, 67043327), (true, 26, 134152191), (true, 27, 268369919), (true, 28, 536805375), (true, 29, 1073676287), (true, 30, 2147418111), (true, 31, 4294901759), (false, 16, 4294967295), (false, 32, 8589934591), (true, 33, 17179869183), (true, 34, 34359738367), (true, 35, 68719476735), (false, 36, 137438953471)] (fun W' => W'.cell? ⟨w.heap.size, 0, none⟩ = some (.pointer (some ⟨t, 0, none⟩)) ∧ W'.cell? ⟨t, 0, none⟩ = some (.pointer (some ⟨b, 0, none⟩)) ∧ W'.cell? ⟨t, 1, none⟩ = some (.pointer (some ⟨x, 0, none⟩)) ∧ W'.cell? ⟨ba, 1, none⟩ = some (.int .i64 io) ∧ W'.cell? ⟨ba, 2, none⟩ = some (.int .i64 id) ∧ W'.cell? ⟨ba, 3, none⟩ = some (.int .i64 ia) ∧ W'.cell? ⟨ba, 6, none⟩ = some (.string nm)) (by kernel_rfl) (by kernel_rfl) (by kernel_rfl) (by kernel_rfl) (by kernel_rfl) (⟨X2.out.b0.cell 0, T2.out.blk.cell 0, T2.out.blk.cell 1, A2.out.cell 1, A2.out.cell 2, A2.out.cell 3, A2.out.cell 6⟩) ?_
        (refine SeqH.take (v := ?_) rfl rfl ?_ ?_; rotate_left; (intro w' hw'; (try dsimp only at hw'); go_simp; try with_reducible rfl); go_simp)
        (refine SeqH.take (v := ?_) rfl rfl ?_ ?_; rotate_left; (intro w' hw'; (try dsimp only at hw'); go_simp; try with_reducible rfl); go_simp)
        (refine SeqH.take (v := ?_) rfl rfl ?_ ?_; rotate_left; (intro w' hw'; (try dsimp only at hw'); go_simp; try with_reducible rfl); go_simp)
        (refine SeqH.take (v := ?_) rfl rfl ?_ ?_; rotate_left; (intro w' hw'; (try dsimp only at hw'); go_simp; try with_reducible rfl); go_simp)
        (refine SeqH.take (v := ?_) rfl rfl ?_ ?_; rotate_left; (intro w' hw'; (try dsimp only at hw'); go_simp; try with_reducible rfl); go_simp)
        (refine SeqH.take (v := ?_) rfl rfl ?_ ?_; rotate_left; (intro w' hw'; (try dsimp only at hw'); go_simp; try with_reducible rfl); go_simp)
        (refine SeqH.take (v := ?_) rfl rfl ?_ ?_; rotate_left; (intro w' hw'; (try dsimp only at hw'); go_simp; try with_reducible rfl); go_simp)
        (refine SeqH.take (v := ?_) rfl rfl ?_ ?_; rotate_left; (intro w' hw'; (try dsimp only at hw'); go_simp; try with_reducible rfl); go_simp)
        (refine SeqH.take (v := ?_) rfl rfl ?_ ?_; rotate_left; (intro w' hw'; (try dsimp only at hw'); go_simp; try with_reducible rfl); go_simp)
        (refine SeqH.take (v := ?_) rfl rfl ?_ ?_; rotate_left; (intro w' hw'; (try dsimp only at hw'); go_simp; try with_reducible rfl); go_simp)
        (refine SeqH.take (v := ?_) rfl rfl ?_ ?_; rotate_left; (intro w' hw'; (try dsimp only at hw'); go_simp; try with_reducible rfl); go_simp)
        (refine SeqH.take (v := ?_) rfl rfl ?_ ?_; rotate_left; (intro w' hw'; (try dsimp only at hw'); go_simp; try with_reducible rfl); go_simp)
        (refine SeqH.take (v := ?_) rfl rfl ?_ ?_; rotate_left; (intro w' hw'; (try dsimp only at hw'); go_simp; try with_reducible rfl); go_simp)
        (refine SeqH.take (v := ?_) rfl rfl ?_ ?_; rotate_left; (intro w' hw'; (try dsimp only at hw'); go_simp; try with_reducible rfl); go_simp)
        (refine SeqH.take (v := ?_) rfl rfl ?_ ?_; rotate_left; (intro w' hw'; (try dsimp only at hw'); go_simp; try with_reducible rfl); go_simp)
        (refine SeqH.take (v := ?_) rfl rfl ?_ ?_; rotate_left; (intro w' hw'; (try dsimp only at hw'); go_simp; try with_reducible rfl); go_simp)
        (refine SeqH.take (v := ?_) rfl rfl ?_ ?_; rotate_left; (intro w' hw'; (try dsimp only at hw'); go_simp; try with_reducible rfl); go_simp)
        (refine SeqH.take (v := ?_) rfl rfl ?_ ?_; rotate_left; (intro w' hw'; (try dsimp only at hw'); go_simp; try with_reducible rfl); go_simp)
        (refine SeqH.take (v := ?_) rfl rfl ?_ ?_; rotate_left; (intro w' hw'; (try dsimp only at hw'); go_simp; try with_reducible rfl); go_simp)
        (refine SeqH.take (v := ?_) rfl rfl ?_ ?_; rotate_left; (intro w' hw'; (try dsimp only at hw'); go_simp; try with_reducible rfl); go_simp)
        (refine SeqH.take (v := ?_) rfl rfl ?_ ?_; rotate_left; (intro w' hw'; (try dsimp only at hw'); go_simp; try with_reducible rfl); go_simp)
        (refine SeqH.take (v := ?_) rfl rfl ?_ ?_; rotate_left; (intro w' hw'; (try dsimp only at hw'); go_simp; try with_reducible rfl); go_simp)
        (refine SeqH.take (v := ?_) rfl rfl ?_ ?_; rotate_left; (intro w' hw'; (try dsimp only at hw'); go_simp; try with_reducible rfl); go_simp)
        (refine SeqH.take (v := ?_) rfl rfl ?_ ?_; rotate_left; (intro w' hw'; (try dsimp only at hw'); go_simp; try with_reducible rfl); go_simp)
        (refine SeqH.take (v := ?_) rfl rfl ?_ ?_; rotate_left; (intro w' hw'; (try dsimp only at hw'); go_simp; try with_reducible rfl); go_simp)
        (refine SeqH.take (v := ?_) rfl rfl ?_ ?_; rotate_left; (intro w' hw'; (try dsimp only at hw'); go_simp; try with_reducible rfl); go_simp)
        (refine SeqH.take (v := ?_) rfl rfl ?_ ?_; rotate_left; (intro w' hw'; (try dsimp only at hw'); go_simp; try with_reducible rfl); go_simp)
        (refine SeqH.take (v := ?_) rfl rfl ?_ ?_; rotate_left; (intro w' hw'; (try dsimp only at hw'); go_simp; try with_reducible rfl); go_simp)
        (refine SeqH.take (v := ?_) rfl rfl ?_ ?_; rotate_left; (intro w' hw'; (try dsimp only at hw'); go_simp; try with_reducible rfl); go_simp)
        (refine SeqH.take (v := ?_) rfl rfl ?_ ?_; rotate_left; (intro w' hw'; (try dsimp only at hw'); go_simp; try with_reducible rfl); go_simp)
        (refine SeqH.take (v := ?_) rfl rfl ?_ ?_; rotate_left; (intro w' hw'; (try dsimp only at hw'); go_simp; try with_reducible rfl); go_simp)
        refine SeqH.step rfl rfl (fun KK hKK => ?_)
        go_simp
        refine (K1.out).mono ?_
        rintro e w3 ⟨G1', rfl, h3, g3⟩
        (try dsimp only)
        have Q3 := Lib.hid (Q2.out.trans (Grow2.one g3))
        have F3' := Lib.hid (F2'.out.next (Grow2.one g3))
        have T3 := Lib.hid (T2.out.one h3 g3)
        have A3 := Lib.hid (F2'.out.blk (Grow2.one g3) (.inr rfl) A2.out)
        have X3 := Lib.hid (X2.out.kept F2'.out (Grow2.one g3))
        have hB3 := g3.keeps.size
        clear h3 g3
        refine hKK _ _ ⟨X3.out.b0.cell 0, T3.out.blk.cell 0, T3.out.blk.cell 1, A3.out.cell 1, A3.out.cell 2, A3.out.cell 3, A3.out.cell 6⟩ ?_
        clear hKK KK
        refine SeqH.step rfl rfl (fun KK hKK => ?_)
        go_simp
        refine (K2.out _ _ T3.out (Nat.le_trans hBd hB3)).mono ?_
        rintro e w4 ⟨G2', rfl, h4, g4⟩
        (try dsimp only)
        have Q4 := Lib.hid (Q3.out.trans (Grow2.two g4))
        have F4' := Lib.hid (F3'.out.next (Grow2.two g4))
        have T4 := Lib.hid (T3.out.two h4 g4)
        have A4 := Lib.hid (F3'.out.blk (Grow2.two g4) (.inr rfl) A3.out)
        have X4 := Lib.hid (X3.out.kept F3'.out (Grow2.two g4))
        have tc := T4.out.blk.cell 2
        have tf := T4.out.blk.free 2
        clear h4 g4
        refine hKK _ _ ⟨X4.out.b0.cell 0, T4.out.blk.cell 0, T4.out.blk.cell 1, A4.out.cell 1, A4.out.cell 2, A4.out.cell 3, A4.out.cell 6⟩ ?_
        clear hKK KK
        (refine SeqH.take (v := ?_) rfl rfl ?_ ?_; rotate_left; (intro w' hw'; (try dsimp only at hw'); go_simp; try with_reducible rfl); go_simp)
        (refine SeqH.take (v := ?_) rfl rfl ?_ ?_; rotate_left; (intro w' hw'; (try dsimp only at hw'); go_simp; try with_reducible rfl); go_simp)
        (refine SeqH.take (v := ?_) rfl rfl ?_ ?_; rotate_left; (intro w' hw'; (try dsimp only at hw'); go_simp; try with_reducible rfl); go_simp)
        refine SeqH.step rfl rfl (fun KK hKK => ?_)
        go_simp
        have Q5 := Lib.hid (Q4.out.trans (Grow2.set 2 (.bool true)))
        have T5 := Lib.hid T4.out.fine
        have A5 := Lib.hid (F4'.out.blk (Grow2.set 2 (.bool true)) (.inr rfl) A4.out)
        have X5 := Lib.hid (X4.out.kept F4'.out (Grow2.set 2 (.bool true)))
        clear tc tf
        refine hKK _ _ ⟨X5.out.b0.cell 0, T5.out.blk.cell 0, T5.out.blk.cell 1, A5.out.cell 1, A5.out.cell 2, A5.out.cell 3, A5.out.cell 6⟩ ?_
        clear hKK KK
        refine SeqH.done (NoPanic.normal ?_)
        go_wp2
        go_roundw
        case rel => exact ⟨m + 1, sv, G1', G2', HN.out.after Q5.out T5.out HIV.out⟩
        case measure => rw [(HN.out.after Q5.out T5.out HIV.out).box.at, HW.out.box.at]; omega
      · as_aux_lemma =>
        go_upto_region 12 with (fail)
        have dk : Below W.heap.size W W.drew := (Below.refl _ _).drew
        have T2 := Lib.hid (HN.out.two.keep dk)
        have Q2 := Lib.hid (Grow2.below (t := t) (F1 := G1) (F2 := G2) dk)
        have F2' := Lib.hid (HF.out.next Q2.out)
        have A2 := Lib.hid (HA.out.keep dk)
        have X2 := Lib.hid (HN.out.box.keep dk)
        have L2 := Lib.hid (HSW.out.below dk HSW.out.lt)
        have hBd : B ≤ W.drew.heap.size := hBW
        have K1 := Lib.hid (bldSet_is rc rn W.drew T2.out.bl L2.out hg (by omega) hBd HAO.out.2.1 HAO.out.2.2)
        obtain ⟨ev, hev⟩ : ∃ z, setE rc = z := ⟨_, rfl⟩
        obtain ⟨sv, hsv⟩ : ∃ z, s'.setR rc rn = z := ⟨_, rfl⟩
        have K2 := Lib.hid (fun w3 G1' (q : TwoIn B w3 t b d x (s'.setR rc rn) s' G1' G2) (k : B ≤ w3.heap.size) => refBSet_is B x s' G2 rc rn w3 q.rb (by omega) k HAO.out.2.1 HAO.out.2.2)
        rw [hev, hsv] at K1 K2
        have HIV := Lib.hid (HIP.out.setR rc rn)
        rw [hsv] at HIV
        have hne : (ev == ev) = true := by simp
        clear dk hev hsv b0 b1 b2 b3 t0 t1 t2 a0
        refine wp_region_seq [(0, 0, 112, 16), (1, 0, 113, 16), (2, 2, 114, 5192296858534827628530496329220096), (3, 4, 115, 10384593717069655257060992658440192), (4, 8, 116, 20769187434139310514121985316880384), (5, 0, 117, 512), (6, 32, 118, 83076749736557242056487941267521536), (7, 0, 119, 512), (8, 128, 120, 332306998946228968225951765070086144), (9, 336, 121, 872305872233851041593123383308976128), (10, 0, 122, 16), (11, 1024, 123, 2658455991569831745807614120560689152), (12, 2048, 124, 5316911983139663491615228241121378304), (13, 4096, 125, 10633823966279326983230456482242756608), (14, 0, 126, 512), (15, 16384, 127, 42535295865117307932921825928971026432), (16, 0, 128, 512), (17, 65536, 129, 170141183460469231731687303715884105728), (18, 172544, 130, 446620606583731733295679172254195777536), (19, 262656, 131, 681893961837661842799653021923816767488), (20, 1048575, 132, 2596148429267413814265248164610048), (21, 2097151, 133, 2722258935367507707706996859454145691648), (22, 3145727, 0, 6805647338418769269267492148635364229120)] [(true, 0, 1), (true, 1, 3), (true, 2, 7), (true, 3, 15), (true, 4, 31), (true, 5, 63), (true, 6, 127), (true, 7, 255), (true, 8, 511), (true, 10, 1535), (true, 11, 3583), (true, 12, 7679), (true, 13, 15871), (true, 14, 32255), (true, 15, 65023), (true, 16, 130559), (true, 17, 261631), (false, 9, 262143), (false, 18, 524287), (true, 19, 1048575), (true, 20, 2097151), (true, 21, 4194303), (false, 22, 8388607)] (fun W' => W'.cell? ⟨w.heap.size, 0, none⟩ = some (.pointer (some ⟨t, 0, none⟩)) ∧ W'.cell? ⟨t, 0, none⟩ = some (.pointer (some ⟨b, 0, none⟩)) ∧ W'.cell? ⟨t, 1, none⟩ = some (.pointer (some ⟨x, 0, none⟩)) ∧ W'.cell? ⟨ba, 7, none⟩ = some (.int .i64 rc) ∧ W'.cell? ⟨ba, 9, none⟩ = some (.int .i32 rn)) (by kernel_rfl) (by kernel_rfl) (by kernel_rfl) (by kernel_rfl) (by kernel_rfl) (⟨X2.out.b0.cell 0, T2.out.blk.cell 0, T2.out.blk.cell 1, A2.out.cell 7, A2.out.cell 9⟩) ?_
        (refine SeqH.take (v := ?_) rfl rfl ?_ ?_; rotate_left; (intro w' hw'; (try dsimp only at hw'); go_simp; try with_reducible rfl); go_simp)
        (refine SeqH.take (v := ?_) rfl rfl ?_ ?_; rotate_left; (intro w' hw'; (try dsimp only at hw'); go_simp; try with_reducible rfl); go_simp)
        (refine SeqH.take (v := ?_) rfl rfl ?_ ?_; rotate_left; (intro w' hw'; (try dsimp only at hw'); go_simp; try with_reducible rfl); go_simp)
        (refine SeqH.take (v := ?_) rfl rfl ?_ ?_; rotate_left; (intro w' hw'; (try dsimp only at hw'); go_simp; try with_reducible rfl); go_simp)
        (refine SeqH.take (v := ?_) rfl rfl ?_ ?_; rotate_left; (intro w' hw'; (try dsimp only at hw'); go_simp; try with_reducible rfl); go_simp)
        (refine SeqH.take (v := ?_) rfl rfl ?_ ?_; rotate_left; (intro w' hw'; (try dsimp only at hw'); go_simp; try with_reducible rfl); go_simp)
        (refine SeqH.take (v := ?_) rfl rfl ?_ ?_; rotate_left; (intro w' hw'; (try dsimp only at hw'); go_simp; try with_reducible rfl); go_simp)
        (refine SeqH.take (v := ?_) rfl rfl ?_ ?_; rotate_left; (intro w' hw'; (try dsimp only at hw'); go_simp; try with_reducible rfl); go_simp)
        (refine SeqH.take (v := ?_) rfl rfl ?_ ?_; rotate_left; (intro w' hw'; (try dsimp only at hw'); go_simp; try with_reducible rfl); go_simp)
        (refine SeqH.take (v := ?_) rfl rfl ?_ ?_; rotate_left; (intro w' hw'; (try dsimp only at hw'); go_simp; try with_reducible rfl); go_simp)
        (refine SeqH.take (v := ?_) rfl rfl ?_ ?_; rotate_left; (intro w' hw'; (try dsimp only at hw'); go_simp; try with_reducible rfl); go_simp)
        (refine SeqH.take (v := ?_) rfl rfl ?_ ?_; rotate_left; (intro w' hw'; (try dsimp only at hw'); go_simp; try with_reducible rfl); go_simp)
        (refine SeqH.take (v := ?_) rfl rfl ?_ ?_; rotate_left; (intro w' hw'; (try dsimp only at hw'); go_simp; try with_reducible rfl); go_simp)
        (refine SeqH.take (v := ?_) rfl rfl ?_ ?_; rotate_left; (intro w' hw'; (try dsimp only at hw'); go_simp; try with_reducible rfl); go_simp)
        (refine SeqH.take (v := ?_) rfl rfl ?_ ?_; rotate_left; (intro w' hw'; (try dsimp only at hw'); go_simp; try with_reducible rfl); go_simp)
        (refine SeqH.take (v := ?_) rfl rfl ?_ ?_; rotate_left; (intro w' hw'; (try dsimp only at hw'); go_simp; try with_reducible rfl); go_simp)
        (refine SeqH.take (v := ?_) rfl rfl ?_ ?_; rotate_left; (intro w' hw'; (try dsimp only at hw'); go_simp; try with_reducible rfl); go_simp)
        refine SeqH.step rfl rfl (fun KK hKK => ?_)
        go_simp
        refine (K1.out).mono ?_
        rintro e w3 ⟨G1', rfl, h3, g3⟩
        (try dsimp only)
        have Q3 := Lib.hid (Q2.out.trans (Grow2.one g3))
        have F3' := Lib.hid (F2'.out.next (Grow2.one g3))
        have T3 := Lib.hid (T2.out.one h3 g3)
        have A3 := Lib.hid (F2'.out.blk (Grow2.one g3) (.inr rfl) A2.out)
        have X3 := Lib.hid (X2.out.kept F2'.out (Grow2.one g3))
        have hB3 := g3.keeps.size
        clear h3 g3
        refine hKK _ _ ⟨X3.out.b0.cell 0, T3.out.blk.cell 0, T3.out.blk.cell 1, A3.out.cell 7, A3.out.cell 9⟩ ?_
        clear hKK KK
        refine SeqH.step rfl rfl (fun KK hKK => ?_)
        go_simp
        refine (K2.out _ _ T3.out (Nat.le_trans hBd hB3)).mono ?_
        rintro e w4 ⟨G2', rfl, h4, g4⟩
        (try dsimp only)
        have Q4 := Lib.hid (Q3.out.trans (Grow2.two g4))
        have F4' := Lib.hid (F3'.out.next (Grow2.two g4))
        have T4 := Lib.hid (T3.out.two h4 g4)
        have A4 := Lib.hid (F3'.out.blk (Grow2.two g4) (.inr rfl) A3.out)
        have X4 := Lib.hid (X3.out.kept F3'.out (Grow2.two g4))
        have tc := T4.out.blk.cell 2
        have tf := T4.out.blk.free 2
        clear h4 g4
        refine hKK _ _ ⟨X4.out.b0.cell 0, T4.out.blk.cell 0, T4.out.blk.cell 1, A4.out.cell 7, A4.out.cell 9⟩ ?_
        clear hKK KK
        (refine SeqH.take (v := ?_) rfl rfl ?_ ?_; rotate_left; (intro w' hw'; (try dsimp only at hw'); go_simp; try with_reducible rfl); go_simp)
        (refine SeqH.take (v := ?_) rfl rfl ?_ ?_; rotate_left; (intro w' hw'; (try dsimp only at hw'); go_simp; try with_reducible rfl); go_simp)
        (refine SeqH.take (v := ?_) rfl rfl ?_ ?_; rotate_left; (intro w' hw'; (try dsimp only at hw'); go_simp; try with_reducible rfl); go_simp)
        refine SeqH.step rfl rfl (fun KK hKK => ?_)
        go_simp
        have Q5 := Lib.hid (Q4.out.trans (Grow2.set 2 (.bool true)))
        have T5 := Lib.hid T4.out.fine
        have A5 := Lib.hid (F4'.out.blk (Grow2.set 2 (.bool true)) (.inr rfl) A4.out)
        have X5 := Lib.hid (X4.out.kept F4'.out (Grow2.set 2 (.bool true)))
        clear tc tf
        refine hKK _ _ ⟨X5.out.b0.cell 0, T5.out.blk.cell 0, T5.out.blk.cell 1, A5.out.cell 7, A5.out.cell 9⟩ ?_
        clear hKK KK
        refine SeqH.done (NoPanic.normal ?_)
        go_wp2
        go_roundw
        case rel => exact ⟨m + 1, sv, G1', G2', HN.out.after Q5.out T5.out HIV.out⟩
        case measure => rw [(HN.out.after Q5.out T5.out HIV.out).box.at, HW.out.box.at]; omega
      · as_aux_lemma =>
        by_cases hdp : 5 < depth
        · have hdp' : (5 : Int) < depth := by omega
          go_wp2
          go_roundw
          case rel => exact ⟨m + 1, s', G1, G2, HN.out⟩
          case measure => rw [HN.out.box.at, HW.out.box.at]; omega
        · have hdp' : (depth : Int) ≤ 5 := by omega
          have hd5 : depth ≤ 5 := by omega
          have HRC := Lib.hid (HREC.out hd5)
          have r1 : -2147483648 ≤ rn := HAO.out.2.1
          have r2 : rn ≤ 2147483647 := HAO.out.2.2
          have hwr : IntKind.i64.wrap rn = rn := by rw [IntKind.wrap_i64]; omega
          have hwr2 : wrap64 rn = rn := by unfold wrap64; omega
          go_upto_region 15 with (fail)
          have dk : Below W.heap.size W W.drew := (Below.refl _ _).drew
          have T2 := Lib.hid (HN.out.two.keep dk)
          have Q2 := Lib.hid (Grow2.below (t := t) (F1 := G1) (F2 := G2) dk)
          have F2' := Lib.hid (HF.out.next Q2.out)
          have A2 := Lib.hid (HA.out.keep dk)
          have X2 := Lib.hid (HN.out.box.keep dk)
          have hBd : B ≤ W.drew.heap.size := hBW
          have hWd : W.drew.heap.size = W.heap.size := rfl
          obtain ⟨so, hso⟩ : ∃ z, s'.opens rc rl rn nm = z := ⟨_, rfl⟩
          obtain ⟨ev, hev⟩ : ∃ z, openE s' rc rl rn nm = z := ⟨_, rfl⟩
          have HSO := Lib.hid hso
          have HEV := Lib.hid hev
          have KO := Lib.hid (fun w3 (q : RbAt B w3 x s' G2) (k : B ≤ w3.heap.size) => refBOpen_is B x s' G2 rc rl rn nm w3 q HAO.out.1 (by omega) (by omega) k)
          rw [hev, hso] at KO
          have SP := Lib.hid (fun (w' : World) (H : Nat → Prop) (sx : Bst) (T : TwoIn B w' t b d x s' sx G1 H) (g : Grow2 t G1 G2 W.drew G1 H w') => show (fun W' => W'.cell? ⟨w.heap.size, 0, none⟩ = some (.pointer (some ⟨t, 0, none⟩)) ∧ W'.cell? ⟨t, 0, none⟩ = some (.pointer (some ⟨b, 0, none⟩)) ∧ W'.cell? ⟨t, 1, none⟩ = some (.pointer (some ⟨x, 0, none⟩)) ∧ W'.cell? ⟨ba, 6, none⟩ = some (.string nm) ∧ W'.cell? ⟨ba, 7, none⟩ = some (.int .i64 rc) ∧ W'.cell? ⟨ba, 8, none⟩ = some (.int .i64 rl) ∧ W'.cell? ⟨ba, 9, none⟩ = some (.int .i32 rn)) w' from ⟨(X2.out.kept F2'.out g).b0.cell 0, T.blk.cell 0, T.blk.cell 1, (F2'.out.blk g (.inr rfl) A2.out).cell 6, (F2'.out.blk g (.inr rfl) A2.out).cell 7, (F2'.out.blk g (.inr rfl) A2.out).cell 8, (F2'.out.blk g (.inr rfl) A2.out).cell 9⟩)
          have AL := Lib.hid (fun (w' : World) (o : Obj) => (Below.refl w'.heap.size w').alloc (Nat.le_refl _) o)
          clear hso hev b0 b1 b2 b3 t0 t1 t2 a0
          go_cut [10] from 13 to 189 (fun s10 wx => ∃ be H2, s10 = .pointer (some ⟨be, 0, none⟩) ∧ OpIn B t b d x be ev s' so G1 G2 H2 W.drew wx)
          case first =>
            refine wp_region_held_drew (S := fun W' => W'.cell? ⟨w.heap.size, 0, none⟩ = some (.pointer (some ⟨t, 0, none⟩)) ∧ W'.cell? ⟨t, 0, none⟩ = some (.pointer (some ⟨b, 0, none⟩)) ∧ W'.cell? ⟨t, 1, none⟩ = some (.pointer (some ⟨x, 0, none⟩)) ∧ W'.cell? ⟨ba, 6, none⟩ = some (.string nm) ∧ W'.cell? ⟨ba, 7, none⟩ = some (.int .i64 rc) ∧ W'.cell? ⟨ba, 8, none⟩ = some (.int .i64 rl) ∧ W'.cell? ⟨ba, 9, none⟩ = some (.int .i32 rn)) (by kernel_rfl) ?_ (fun hH0 => ?_)
            · (try dsimp only); exact SP.out _ _ _ T2.out (Grow2.refl _ _ _ _)
            (refine any_take (v := ?_) 0 rfl (by kernel_rfl) (by kernel_rfl) (by kernel_rfl) (fun _ _ _ h => h) (by rfl) ?_ (by assumption) ?_; rotate_left; (intro w hSw; (try dsimp only at hSw); go_simp; try with_reducible rfl); try simp only [Act.put, List.setIfInBounds_toArray, List.set_cons_zero, List.set_cons_succ])
            (refine any_take (v := ?_) 1 rfl (by kernel_rfl) (by kernel_rfl) (by kernel_rfl) (fun _ _ _ h => h) (by rfl) ?_ (by assumption) ?_; rotate_left; (intro w hSw; (try dsimp only at hSw); go_simp; try with_reducible rfl); try simp only [Act.put, List.setIfInBounds_toArray, List.set_cons_zero, List.set_cons_succ])
            (refine any_take (v := ?_) 2 rfl (by kernel_rfl) (by kernel_rfl) (by kernel_rfl) (fun _ _ _ h => h) (by rfl) ?_ (by assumption) ?_; rotate_left; (intro w hSw; (try dsimp only at hSw); go_simp; try with_reducible rfl); try simp only [Act.put, List.setIfInBounds_toArray, List.set_cons_zero, List.set_cons_succ])
            (refine any_take (v := ?_) 3 rfl (by kernel_rfl) (by kernel_rfl) (by kernel_rfl) (fun _ _ _ h => h) (by rfl) ?_ (by assumption) ?_; rotate_left; (intro w hSw; (try dsimp only at hSw); go_simp; try with_reducible rfl); try simp only [Act.put, List.setIfInBounds_toArray, List.set_cons_zero, List.set_cons_succ])
            (refine any_take (v := ?_) 4 rfl (by kernel_rfl) (by kernel_rfl) (by kernel_rfl) (fun _ _ _ h => h) (by rfl) ?_ (by assumption) ?_; rotate_left; (intro w hSw; (try dsimp only at hSw); go_simp; try with_reducible rfl); try simp only [Act.put, List.setIfInBounds_toArray, List.set_cons_zero, List.set_cons_succ])
            (refine any_take (v := ?_) 5 rfl (by kernel_rfl) (by kernel_rfl) (by kernel_rfl) (fun _ _ _ h => h) (by rfl) ?_ (by assumption) ?_; rotate_left; (intro w hSw; (try dsimp only at hSw); go_simp; try with_reducible rfl); try simp only [Act.put, List.setIfInBounds_toArray, List.set_cons_zero, List.set_cons_succ])
            (refine any_take (v := ?_) 6 rfl (by kernel_rfl) (by kernel_rfl) (by kernel_rfl) (fun _ _ _ h => h) (by rfl) ?_ (by assumption) ?_; rotate_left; (intro w hSw; (try dsimp only at hSw); go_simp; try with_reducible rfl); try simp only [Act.put, List.setIfInBounds_toArray, List.set_cons_zero, List.set_cons_succ])
            (refine any_take (v := ?_) 7 rfl (by kernel_rfl) (by kernel_rfl) (by kernel_rfl) (fun _ _ _ h => h) (by rfl) ?_ (by assumption) ?_; rotate_left; (intro w hSw; (try dsimp only at hSw); go_simp; try with_reducible rfl); try simp only [Act.put, List.setIfInBounds_toArray, List.set_cons_zero, List.set_cons_succ])
            (refine any_take (v := ?_) 8 rfl (by kernel_rfl) (by kernel_rfl) (by kernel_rfl) (fun _ _ _ h => h) (by rfl) ?_ (by assumption) ?_; rotate_left; (intro w hSw; (try dsimp only at hSw); go_simp; try with_reducible rfl); try simp only [Act.put, List.setIfInBounds_toArray, List.set_cons_zero, List.set_cons_succ])
            (refine any_take (v := ?_) 9 rfl (by kernel_rfl) (by kernel_rfl) (by kernel_rfl) (fun _ _ _ h => h) (by rfl) ?_ (by assumption) ?_; rotate_left; (intro w hSw; (try dsimp only at hSw); go_simp; try with_reducible rfl); try simp only [Act.put, List.setIfInBounds_toArray, List.set_cons_zero, List.set_cons_succ])
            (refine any_take (v := ?_) 10 rfl (by kernel_rfl) (by kernel_rfl) (by kernel_rfl) (fun _ _ _ h => h) (by rfl) ?_ (by assumption) ?_; rotate_left; (intro w hSw; (try dsimp only at hSw); go_simp; try with_reducible rfl); try simp only [Act.put, List.setIfInBounds_toArray, List.set_cons_zero, List.set_cons_succ])
            (refine any_take (v := ?_) 11 rfl (by kernel_rfl) (by kernel_rfl) (by kernel_rfl) (fun _ _ _ h => h) (by rfl) ?_ (by assumption) ?_; rotate_left; (intro w hSw; (try dsimp only at hSw); go_simp; try with_reducible rfl); try simp only [Act.put, List.setIfInBounds_toArray, List.set_cons_zero, List.set_cons_succ])
            (refine any_take (v := ?_) 12 rfl (by kernel_rfl) (by kernel_rfl) (by kernel_rfl) (fun _ _ _ h => h) (by rfl) ?_ (by assumption) ?_; rotate_left; (intro w hSw; (try dsimp only at hSw); go_simp; try with_reducible rfl); try simp only [Act.put, List.setIfInBounds_toArray, List.set_cons_zero, List.set_cons_succ])
            refine any_two 13 14 (by kernel_rfl) rfl rfl (by rfl) (by rfl) (fun K hK => ?_) (fun K hK => ?_)
            go_simp
            (go_at_call 23; ((with_reducible refine (KO.out _ T2.out.rb hBd).mono ?_); rintro e w3 ⟨H2, rfl, h3, g3⟩); have TA := Lib.hid (T2.out.two h3 g3); have GA := Lib.hid (Grow2.two (t := t) (F1 := G1) g3); have OA := Lib.hid (opA (ev := ev) T2.out h3 g3); clear h3 g3)
            first | refine hK.out _ _ ?_ (fun hH1 => ?_) | (go_wp2_with fail; refine hK.out _ _ ?_ (fun hH1 => ?_))
            · exact SP.out _ _ _ TA.out GA.out
            clear hK K hH0
            try simp only [Act.put, List.setIfInBounds_toArray, List.set_cons_zero, List.set_cons_succ]
            refine any_one 14 (by kernel_rfl) rfl (by rfl) (fun K hK => ?_)
            go_simp
            first | refine hK.out _ _ ?_ (fun hH2 => ?_) | (go_wp2_with fail; refine hK.out _ _ ?_ (fun hH2 => ?_))
            · exact SP.out _ _ _ (TA.out.keep (AL.out _ _)) (GA.out.trans (Grow2.below (AL.out _ _)))
            clear hK K hH1
            try simp only [Act.put, List.setIfInBounds_toArray, List.set_cons_zero, List.set_cons_succ]
            refine any_one 15 (by kernel_rfl) rfl (by rfl) (fun K hK => ?_)
            go_simp
            first | refine hK.out _ _ ?_ (fun hH3 => ?_) | (go_wp2_with fail; refine hK.out _ _ ?_ (fun hH3 => ?_))
            · exact SP.out _ _ _ OA.out.two OA.out.grow
            clear hK K hH2
            try simp only [Act.put, List.setIfInBounds_toArray, List.set_cons_zero, List.set_cons_succ]
            refine wpAnyH_done (by kernel_rfl) ?_ _
            go_wp2_with fail
            go_meet
            exact ⟨_, H2, rfl, OA.out⟩
            go_simp
            first | refine hK.out _ _ ?_ (fun hH1 => ?_) | (go_wp2_with fail; refine hK.out _ _ ?_ (fun hH1 => ?_))
            · exact SP.out _ _ _ (T2.out.keep (AL.out _ _)) (Grow2.below (AL.out _ _))
            clear hK K hH0
            try simp only [Act.put, List.setIfInBounds_toArray, List.set_cons_zero, List.set_cons_succ]
            refine any_one 13 (by kernel_rfl) rfl (by rfl) (fun K hK => ?_)
            go_simp
            (go_at_call 23; ((refine (KO.out (W.drew.alloc (.cells #[.int .i64 0] 42)) (T2.out.keep (AL.out _ _)).rb (Nat.le_trans hBd (AL.out W.drew (.cells #[.int .i64 0] 42)).size)).mono ?_); rintro e w3 ⟨H2, rfl, h3, g3⟩); have TA := Lib.hid ((T2.out.keep (AL.out _ _)).two h3 g3); have GA := Lib.hid ((Grow2.below (t := t) (F1 := G1) (F2 := G2) (AL.out _ _)).trans (Grow2.two g3)); have OA := Lib.hid (opB (ev := ev) T2.out h3 g3); have ec : w3.cell? ⟨W.heap.size, 0, none⟩ = some (.int .i64 0) := OA.out.2.cell 0; have ef : w3.frozen? ⟨W.heap.size, 0, none⟩ = false := OA.out.2.free 0; clear h3 g3)
            first | refine hK.out _ _ ?_ (fun hH2 => ?_) | (go_wp2_with fail; refine hK.out _ _ ?_ (fun hH2 => ?_))
            · exact SP.out _ _ _ TA.out GA.out
            clear hK K hH1
            try simp only [Act.put, List.setIfInBounds_toArray, List.set_cons_zero, List.set_cons_succ]
            refine any_one 15 (by kernel_rfl) rfl (by rfl) (fun K hK => ?_)
            go_simp
            first | refine hK.out _ _ ?_ (fun hH3 => ?_) | (go_wp2_with fail; refine hK.out _ _ ?_ (fun hH3 => ?_))
            · exact SP.out _ _ _ OA.out.1.two OA.out.1.grow
            clear hK K hH2
            try simp only [Act.put, List.setIfInBounds_toArray, List.set_cons_zero, List.set_cons_succ]
            refine wpAnyH_done (by kernel_rfl) ?_ _
            go_wp2_with fail
            go_meet
            exact ⟨_, H2, rfl, OA.out.1⟩
          case rest =>
            obtain ⟨be, H2, rfl, hop⟩ := hcut
            have P3 := Lib.hid hop
            have hbe : ba < be := by have := hop.ge; have := HA.out.lt; omega
            have hbl : be < wc.heap.size := hop.eb.lt
            clear hop SP KO
            have F3 := Lib.hid (F2'.out.next P3.out.grow)
            have A3 := Lib.hid (F2'.out.blk P3.out.grow (.inr rfl) A2.out)
            have X3 := Lib.hid (X2.out.kept F2'.out P3.out.grow)
            go_upto_region 17 with (fail)
            have al := AL.out wc (.cells #[.int .i64 0] 3)
            have I6 := Lib.hid (BlkAt.new wc 3 #[.int .i64 0])
            have T6 := Lib.hid (P3.out.two.keep al)
            have E6 := Lib.hid (P3.out.eb.keep al)
            have A6 := Lib.hid (A3.out.keep al)
            have X6 := Lib.hid (X3.out.keep al)
            have Q6 := Lib.hid (HN.out.grow.trans ((Q2.out.trans P3.out.grow).trans (Grow2.below al)))
            have N6 := Lib.hid ((Q2.out.trans P3.out.grow).trans (Grow2.below (t := t) (F1 := G1) (F2 := H2) al))
            have hs6 : (wc.alloc (.cells #[.int .i64 0] 3)).heap.size = wc.heap.size + 1 := by simp
            have O6 : Hid (Off t G1 H2 (wc.alloc (.cells #[.int .i64 0] 3)) (fun j => BoxQ w.heap.size j ∨ j = ba ∨ j = be ∨ j = wc.heap.size)) := Lib.hid fun j q => by
              rcases q with q | q | q | q
              · obtain ⟨r1, r2, r3, r4⟩ := F3.out j (.inl q)
                exact ⟨r1, r2, r3, by omega⟩
              · obtain ⟨r1, r2, r3, r4⟩ := F3.out j (.inr q)
                exact ⟨r1, r2, r3, by omega⟩
              · subst q
                refine ⟨fun e => ?_, P3.out.nb, fun e => ?_, by omega⟩
                · have := (T2.out.low1 _ e).2; have := P3.out.ge; omega
                · have := T2.out.blk.lt; have := P3.out.ge; omega
              · subst q
                obtain ⟨r1, r2, r3⟩ := P3.out.two.fresh (Nat.le_refl _)
                exact ⟨r1, r2, r3, by omega⟩
            obtain ⟨W6, hW6⟩ : ∃ V, wc.alloc (.cells #[.int .i64 0] 3) = V := ⟨_, rfl⟩
            obtain ⟨bi, hbi⟩ : ∃ p, wc.heap.size = p := ⟨_, rfl⟩
            rw [hW6, hbi] at I6 O6
            rw [hW6] at T6 E6 A6 X6 Q6 N6 hs6
            rw [hW6]
            rw [hbi] at hbl hs6
            simp only [hbi]
            clear al hW6 hbi P3 F3 A3 X3
            -- behind the draw
            have dk : Below W6.heap.size W6 W6.drew := (Below.refl _ _).drew
            have T7 := Lib.hid (T6.out.keep dk)
            have E7 := Lib.hid (E6.out.keep dk)
            have A7 := Lib.hid (A6.out.keep dk)
            have X7 := Lib.hid (X6.out.keep dk)
            have I7 := Lib.hid (I6.out.keep dk)
            have gd := Grow2.below (t := t) (F1 := G1) (F2 := H2) dk
            have Q7 := Lib.hid (Q6.out.trans gd)
            have N7 := Lib.hid (N6.out.trans gd)
            have O7 := Lib.hid (O6.out.next gd)
            have hs7 : W6.drew.heap.size = bi + 1 := hs6
            have hB7 : B ≤ W6.drew.heap.size := Nat.le_trans hB Q7.out.keeps.size
            have L7 := Lib.hid (HSL.out.grow2 Q7.out HT.out.low1 HT.out.low2 HT.out.tb hg)
            have hmf : ∀ (fn : Fn) (first cap : Array Value) (w : World), (Instr.makeFunc fn first cap).run Tryd.prog w = .ok (.func fn first cap) w := fun _ _ _ _ => rfl
            clear dk gd T6 E6 A6 X6 I6 Q6 N6 O6 hs6
            by_cases hok : loopOk rc rl rn ∧ defE s'.ds nm = 0
            · as_aux_lemma =>
              have he0 : ev = 0 := by
                rw [← HEV.out]; unfold openE; rw [if_pos hok.1]; exact hok.2
              subst he0
              have hcc : (0 ≤ rc ∧ rc ≤ 31) ∧ 0 ≤ rl ∧ rl ≤ 31 := by have := hok.1; unfold loopOk at this; omega
              have hNm : nameB nm = true := by
                have := hok.2
                unfold defE at this
                split at this
                · assumption
                · cases this
              have HIO := Lib.hid (HIP.out.opens hok.1 hok.2)
              have hf24 : ∀ v, Sem.run Tryd.prog (callFunc 24 #[.pointer (some ⟨bi, 0, none⟩), .pointer (some ⟨w.heap.size, 0, none⟩), .pointer (some ⟨w.heap.size + 1, 0, none⟩), .pointer (some ⟨w.heap.size + 2, 0, none⟩), .pointer (some ⟨w.heap.size + 3, 0, none⟩), .pointer (some ⟨be, 0, none⟩), .pointer (some ⟨ba, 0, none⟩)]) v = .ok (.enter 24 #[.pointer (some ⟨bi, 0, none⟩), .pointer (some ⟨w.heap.size, 0, none⟩), .pointer (some ⟨w.heap.size + 1, 0, none⟩), .pointer (some ⟨w.heap.size + 2, 0, none⟩), .pointer (some ⟨w.heap.size + 3, 0, none⟩), .pointer (some ⟨be, 0, none⟩), .pointer (some ⟨ba, 0, none⟩)]) v := fun v => by kernel_rfl
              have KL := Lib.hid (bldLoop_yes (f := 24) (cap := #[.pointer (some ⟨bi, 0, none⟩), .pointer (some ⟨w.heap.size, 0, none⟩), .pointer (some ⟨w.heap.size + 1, 0, none⟩), .pointer (some ⟨w.heap.size + 2, 0, none⟩), .pointer (some ⟨w.heap.size + 3, 0, none⟩), .pointer (some ⟨be, 0, none⟩), .pointer (some ⟨ba, 0, none⟩)]) (R := LoopR B t b d x n c w.heap.size ba be bi (m + 1) depth (some ⟨la, lo, none⟩) #[.int .i64 4, .int .i64 io, .int .i64 id, .int .i64 ia, .int .i64 ib, .int .i64 iN, .string nm, .int .i64 rc, .int .i64 rl, .int .i32 rn] rc rl nm F1 F2 w) rc rl rn nm W6.drew T7.out.bl HAO.out.1 (by omega) (by omega) (by omega) hB7 hg hok.1 hok.2 hf24
                (fun w1 K1 hb1 g1 => by
                  have TT := T7.out.one hb1 g1
                  have GG := Grow2.one (t := t) (F2 := H2) g1
                  have QQ := Q7.out.trans GG
                  refine does1_is w.heap.size ba be bi (m + 1) depth 4 io id ia ib iN rc rl rn nm so F1 F2 K1 H2 w w1 hn hd5 hlt (HLL.out.kept QQ.keeps fun la' off' e => ?_) (fun la' off' e => HLA.out la' off' e (by omega)) hg (Nat.le_trans hB7 g1.keeps.size) hB (Nat.le_refl _) (HSO.out ▸ TT) (HSL.out.grow2 QQ HT.out.low1 HT.out.low2 HT.out.tb hg) (HSO.out ▸ HIO.out) (X7.out.kept O7.out GG) (O7.out.blk GG (.inr (.inl rfl)) A7.out) (O7.out.blk GG (.inr (.inr (.inl rfl))) E7.out) (O7.out.blk GG (.inr (.inr (.inr rfl))) I7.out) (O7.out.next GG) hqb hbe hbl QQ hcc.1 HAO.out.1 HRC.out
                  have := HLA.out la' off' e (by omega)
                  rintro (q | q | q)
                  · have := (HT.out.low1 _ q).1; omega
                  · have := (HT.out.low2 _ q).1; omega
                  · have := HT.out.tb; omega)
                (fun w2 s2 K1 hr => by
                  obtain ⟨m2, K2, hr⟩ := hr
                  have r1 := hr.inv.nL
                  have r2 := hr.inv.nd
                  have r3 := hr.inv.nu
                  have r4 := hr.hi
                  exact ⟨hr.two.bl, HSL.out.grow2 hr.grow HT.out.low1 HT.out.low2 HT.out.tb hg, Nat.le_trans hB hr.grow.keeps.size, by omega, by omega, by omega⟩))
              clear hf24
              refine wp_region_seq [(0, 0, 152, 16), (1, 1, 153, 2854495385411919762116571938898990272765493248), (2, 2, 154, 5708990770823839524233143877797980545530986496), (3, 4, 155, 11417981541647679048466287755595961091061972992), (4, 0, 156, 512), (5, 16, 157, 45671926166590716193865151022383844364247891968), (6, 0, 158, 512), (7, 64, 159, 182687704666362864775460604089535377456991567872), (8, 0, 160, 512), (9, 256, 161, 730750818665451459101842416358141509827966271488), (10, 512, 162, 1461501637330902918203684832716283019655932542976), (11, 0, 163, 512), (12, 2048, 164, 5846006549323611672814739330865132078623730171904), (13, 0, 165, 3824), (14, 13480, 166, 38478597795352678393331389736358388876878848983040), (15, 32767, 13, 46768052394588893382517914646921056628989841375232)] [(true, 0, 1), (true, 1, 3), (true, 2, 7), (true, 3, 15), (true, 4, 31), (true, 5, 63), (true, 6, 127), (true, 7, 255), (true, 8, 511), (true, 9, 1023), (true, 10, 2047), (true, 11, 4095), (true, 12, 8191), (false, 13, 16383), (false, 14, 32767), (true, 15, 65535)] (fun W' => W'.cell? ⟨w.heap.size, 0, none⟩ = some (.pointer (some ⟨t, 0, none⟩)) ∧ W'.cell? ⟨t, 0, none⟩ = some (.pointer (some ⟨b, 0, none⟩)) ∧ W'.cell? ⟨t, 1, none⟩ = some (.pointer (some ⟨x, 0, none⟩)) ∧ W'.cell? ⟨ba, 6, none⟩ = some (.string nm) ∧ W'.cell? ⟨ba, 7, none⟩ = some (.int .i64 rc) ∧ W'.cell? ⟨ba, 8, none⟩ = some (.int .i64 rl) ∧ W'.cell? ⟨ba, 9, none⟩ = some (.int .i32 rn)) (by kernel_rfl) (by kernel_rfl) (by kernel_rfl) (by kernel_rfl) (by kernel_rfl) (⟨X7.out.b0.cell 0, T7.out.blk.cell 0, T7.out.blk.cell 1, A7.out.cell 6, A7.out.cell 7, A7.out.cell 8, A7.out.cell 9⟩) ?_
              (refine SeqH.take (v := ?_) rfl rfl ?_ ?_; rotate_left; (intro w' hw'; (try dsimp only at hw'); go_simp; try with_reducible rfl); go_simp)
              (refine SeqH.take (v := ?_) rfl rfl ?_ ?_; rotate_left; (intro w' hw'; (try dsimp only at hw'); go_simp; try with_reducible rfl); go_simp)
              (refine SeqH.take (v := ?_) rfl rfl ?_ ?_; rotate_left; (intro w' hw'; (try dsimp only at hw'); go_simp; try with_reducible rfl); go_simp)
              (refine SeqH.take (v := ?_) rfl rfl ?_ ?_; rotate_left; (intro w' hw'; (try dsimp only at hw'); go_simp; try with_reducible rfl); go_simp)
              (refine SeqH.take (v := ?_) rfl rfl ?_ ?_; rotate_left; (intro w' hw'; (try dsimp only at hw'); go_simp; try with_reducible rfl); go_simp)
              (refine SeqH.take (v := ?_) rfl rfl ?_ ?_; rotate_left; (intro w' hw'; (try dsimp only at hw'); go_simp; try with_reducible rfl); go_simp)
              (refine SeqH.take (v := ?_) rfl rfl ?_ ?_; rotate_left; (intro w' hw'; (try dsimp only at hw'); go_simp; try with_reducible rfl); go_simp)
              (refine SeqH.take (v := ?_) rfl rfl ?_ ?_; rotate_left; (intro w' hw'; (try dsimp only at hw'); go_simp; try with_reducible rfl); go_simp)
              (refine SeqH.take (v := ?_) rfl rfl ?_ ?_; rotate_left; (intro w' hw'; (try dsimp only at hw'); go_simp; try with_reducible rfl); go_simp)
              (refine SeqH.take (v := ?_) rfl rfl ?_ ?_; rotate_left; (intro w' hw'; (try dsimp only at hw'); go_simp; try with_reducible rfl); go_simp)
              (refine SeqH.take (v := ?_) rfl rfl ?_ ?_; rotate_left; (intro w' hw'; (try dsimp only at hw'); go_simp; try with_reducible rfl); go_simp)
              (refine SeqH.take (v := ?_) rfl rfl ?_ ?_; rotate_left; (intro w' hw'; (try dsimp only at hw'); go_simp; try with_reducible rfl); go_simp)
              (refine SeqH.take (v := ?_) rfl rfl ?_ ?_; rotate_left; (intro w' hw'; (try dsimp only at hw'); go_simp; try with_reducible rfl); go_simp)
              refine SeqH.step rfl rfl (fun KK hKK => ?_)
              go_simp
              refine hKK _ _ ⟨X7.out.b0.cell 0, T7.out.blk.cell 0, T7.out.blk.cell 1, A7.out.cell 6, A7.out.cell 7, A7.out.cell 8, A7.out.cell 9⟩ ?_
              clear hKK KK
              refine SeqH.step rfl rfl (fun KK hKK => ?_)
              go_simp
              refine (KL.out).mono ?_
              rintro e w8 ⟨w2, s2, K1, K1', rfl, ⟨m2, K2, hr⟩, hb8, g8⟩
              (try dsimp only)
              have GG := Grow2.one (t := t) (F2 := K2) g8
              have T8 := Lib.hid (hr.two.one hb8 g8)
              have Q8 := Lib.hid (hr.grow.trans GG)
              have X8 := Lib.hid (hr.box.kept hr.off GG)
              have A8 := Lib.hid (hr.off.blk GG (.inr (.inl rfl)) hr.act)
              have E8 := Lib.hid (hr.off.blk GG (.inr (.inr (.inl rfl))) hr.eb)
              have I8 := Lib.hid (hr.off.blk GG (.inr (.inr (.inr rfl))) hr.ti)
              have O8 := Lib.hid (hr.off.next GG)
              have V8 := Lib.hid (hr.inv.shuts hcc.1 hcc.2 hNm)
              have M8 := Lib.hid (And.intro hr.lo hr.hi)
              refine hKK _ _ ⟨X8.out.b0.cell 0, T8.out.blk.cell 0, T8.out.blk.cell 1, A8.out.cell 6, A8.out.cell 7, A8.out.cell 8, A8.out.cell 9⟩ ?_
              clear hKK KK hr hb8 g8 GG
              (refine SeqH.take (v := ?_) rfl rfl ?_ ?_; rotate_left; (intro w' hw'; (try dsimp only at hw'); go_simp; try with_reducible rfl); go_simp)
              refine SeqH.done (NoPanic.normal ?_)
              go_upto_region 18 with (fail)
              have dk : Below w8.heap.size w8 w8.drew := (Below.refl _ _).drew
              have T9 := Lib.hid (T8.out.keep dk)
              have gd := Grow2.below (t := t) (F1 := K1') (F2 := K2) dk
              have X9 := Lib.hid (X8.out.keep dk)
              have E9 := Lib.hid (E8.out.keep dk)
              have I9 := Lib.hid (I8.out.keep dk)
              have O9 := Lib.hid (O8.out.next gd)
              have Q9 := Lib.hid (Q8.out.trans gd)
              have tc := T9.out.blk.cell 2
              have tf := T9.out.blk.free 2
              clear dk gd
              refine wp_region_seq [(0, 0, 167, 16), (1, 0, 168, 16), (2, 2, 169, 187072209578355573530071658587684226515959365500928), (3, 4, 170, 374144419156711147060143317175368453031918731001856), (4, 8, 171, 748288838313422294120286634350736906063837462003712), (5, 16, 172, 1496577676626844588240573268701473812127674924007424), (6, 32, 173, 2993155353253689176481146537402947624255349848015872), (7, 32, 174, 2993155353253689176481146537402947624255349848018944), (8, 224, 175, 20952087472775824235368025761820633369787448936103936), (9, 288, 176, 26938398179283202588330318836626528618298148632133632), (10, 544, 177, 47890485652059026823698344598447161988085597568237568), (11, 1024, 178, 95780971304118053647396689196894323976171195136477184), (12, 3072, 179, 287342913912354160942190067590682971928513585409425408), (13, 1024, 180, 95780971304118053647396689196894323976171195136476160), (14, 9216, 181, 862028741737062482826570202772048915785540756228276224), (15, 21504, 182, 2011400397386479126595330473134780803499595097865977856), (16, 33792, 183, 3160772053035895770364090743497512691213649439503679488), (17, 131071, 184, 93536104789177786765035829293842113257979682750464), (18, 262143, 185, 12259964326927110866866776217202473468949912977468817408), (19, 393215, 0, 30649910817317777167166940543006183672374782443672043520)] [(true, 0, 1), (true, 1, 3), (true, 2, 7), (true, 3, 15), (true, 4, 31), (true, 5, 63), (true, 6, 127), (true, 7, 255), (true, 8, 511), (true, 9, 1023), (true, 10, 2047), (true, 11, 4095), (true, 12, 8191), (true, 13, 16383), (true, 14, 32767), (true, 15, 65535), (true, 16, 131071), (true, 17, 262143), (true, 18, 524287), (false, 19, 1048575)] (fun W' => W'.cell? ⟨w.heap.size, 0, none⟩ = some (.pointer (some ⟨t, 0, none⟩)) ∧ W'.cell? ⟨t, 2, none⟩ = some (.bool true) ∧ W'.cell? ⟨be, 0, none⟩ = some (.int .i64 0) ∧ W'.cell? ⟨bi, 0, none⟩ = some (.int .i64 1)) (by kernel_rfl) (by kernel_rfl) (by kernel_rfl) (by kernel_rfl) (by kernel_rfl) (⟨X9.out.b0.cell 0, T9.out.blk.cell 2, E9.out.cell 0, I9.out.cell 0⟩) ?_
              (refine SeqH.take (v := ?_) rfl rfl ?_ ?_; rotate_left; (intro w' hw'; (try dsimp only at hw'); go_simp; try with_reducible rfl); go_simp)
              (refine SeqH.take (v := ?_) rfl rfl ?_ ?_; rotate_left; (intro w' hw'; (try dsimp only at hw'); go_simp; try with_reducible rfl); go_simp)
              (refine SeqH.take (v := ?_) rfl rfl ?_ ?_; rotate_left; (intro w' hw'; (try dsimp only at hw'); go_simp; try with_reducible rfl); go_simp)
              (refine SeqH.take (v := ?_) rfl rfl ?_ ?_; rotate_left; (intro w' hw'; (try dsimp only at hw'); go_simp; try with_reducible rfl); go_simp)
              (refine SeqH.take (v := ?_) rfl rfl ?_ ?_; rotate_left; (intro w' hw'; (try dsimp only at hw'); go_simp; try with_reducible rfl); go_simp)
              (refine SeqH.take (v := ?_) rfl rfl ?_ ?_; rotate_left; (intro w' hw'; (try dsimp only at hw'); go_simp; try with_reducible rfl); go_simp)
              (refine SeqH.take (v := ?_) rfl rfl ?_ ?_; rotate_left; (intro w' hw'; (try dsimp only at hw'); go_simp; try with_reducible rfl); go_simp)
              (refine SeqH.take (v := ?_) rfl rfl ?_ ?_; rotate_left; (intro w' hw'; (try dsimp only at hw'); go_simp; try with_reducible rfl); go_simp)
              (refine SeqH.take (v := ?_) rfl rfl ?_ ?_; rotate_left; (intro w' hw'; (try dsimp only at hw'); go_simp; try with_reducible rfl); go_simp)
              (refine SeqH.take (v := ?_) rfl rfl ?_ ?_; rotate_left; (intro w' hw'; (try dsimp only at hw'); go_simp; try with_reducible rfl); go_simp)
              (refine SeqH.take (v := ?_) rfl rfl ?_ ?_; rotate_left; (intro w' hw'; (try dsimp only at hw'); go_simp; try with_reducible rfl); go_simp)
              (refine SeqH.take (v := ?_) rfl rfl ?_ ?_; rotate_left; (intro w' hw'; (try dsimp only at hw'); go_simp; try with_reducible rfl); go_simp)
              (refine SeqH.take (v := ?_) rfl rfl ?_ ?_; rotate_left; (intro w' hw'; (try dsimp only at hw'); go_simp; try with_reducible rfl); go_simp)
              (refine SeqH.take (v := ?_) rfl rfl ?_ ?_; rotate_left; (intro w' hw'; (try dsimp only at hw'); go_simp; try with_reducible rfl); go_simp)
              (refine SeqH.take (v := ?_) rfl rfl ?_ ?_; rotate_left; (intro w' hw'; (try dsimp only at hw'); go_simp; try with_reducible rfl); go_simp)
              (refine SeqH.take (v := ?_) rfl rfl ?_ ?_; rotate_left; (intro w' hw'; (try dsimp only at hw'); go_simp; try with_reducible rfl); go_simp)
              (refine SeqH.take (v := ?_) rfl rfl ?_ ?_; rotate_left; (intro w' hw'; (try dsimp only at hw'); go_simp; try with_reducible rfl); go_simp)
              (refine SeqH.take (v := ?_) rfl rfl ?_ ?_; rotate_left; (intro w' hw'; (try dsimp only at hw'); go_simp; try with_reducible rfl); go_simp)
              (refine SeqH.take (v := ?_) rfl rfl ?_ ?_; rotate_left; (intro w' hw'; (try dsimp only at hw'); go_simp; try with_reducible rfl); go_simp)
              refine SeqH.step rfl rfl (fun KK hKK => ?_)
              go_simp
              have T5 := Lib.hid T9.out.fine
              have g5 := Grow2.set (t := t) (F1 := K1') (F2 := K2) (w := w8.drew) 2 (.bool true)
              have X5 := Lib.hid (X9.out.kept O9.out g5)
              have Q5 := Lib.hid (Q9.out.trans g5)
              have O5 := Lib.hid (O9.out.next g5)
              have E5 := Lib.hid (O9.out.blk g5 (.inr (.inr (.inl rfl))) E9.out)
              have I5 := Lib.hid (O9.out.blk g5 (.inr (.inr (.inr rfl))) I9.out)
              clear g5 tc tf
              refine hKK _ _ ⟨X5.out.b0.cell 0, T5.out.blk.cell 2, E5.out.cell 0, I5.out.cell 0⟩ ?_
              clear hKK KK
              refine SeqH.done (NoPanic.normal ?_)
              go_wp2
              go_roundw
              case rel => exact ⟨m2, s2.shuts rc rl nm, K1', K2, by have := HN.out.lo; have := M8.out.1; omega, M8.out.2, X5.out, T5.out, Q5.out, V8.out, O5.out.mono fun _ q => .inl q⟩
              case measure =>
                have q1 := X5.out.at
                have q2 := HW.out.box.at
                have := M8.out.1
                have := M8.out.2
                change n - atOf (w.heap.size + 2) (w8.drew.setCell ⟨t, 2, none⟩ (.bool true)) < _
                rw [q1, q2]; omega
            · as_aux_lemma =>
              have hso : so = s' := by rw [← HSO.out]; exact opens_no hok
              subst hso
              have HEZ := Lib.hid (open_bad hok)
              have KL := Lib.hid (bldLoop_bad rc rl rn nm (.func (.func 24) #[] #[.pointer (some ⟨bi, 0, none⟩), .pointer (some ⟨w.heap.size, 0, none⟩), .pointer (some ⟨w.heap.size + 1, 0, none⟩), .pointer (some ⟨w.heap.size + 2, 0, none⟩), .pointer (some ⟨w.heap.size + 3, 0, none⟩), .pointer (some ⟨be, 0, none⟩), .pointer (some ⟨ba, 0, none⟩)]) W6.drew T7.out.bl HAO.out.1 (by omega) (by omega) (by omega) hB7 hok)
              rw [HEV.out] at KL HEZ
              have ez : (ev == 0) = false := by simpa using HEZ.out
              have ee : (ev == ev) = true := by simp
              refine wp_region_seq [(0, 0, 152, 16), (1, 1, 153, 2854495385411919762116571938898990272765493248), (2, 2, 154, 5708990770823839524233143877797980545530986496), (3, 4, 155, 11417981541647679048466287755595961091061972992), (4, 0, 156, 512), (5, 16, 157, 45671926166590716193865151022383844364247891968), (6, 0, 158, 512), (7, 64, 159, 182687704666362864775460604089535377456991567872), (8, 0, 160, 512), (9, 256, 161, 730750818665451459101842416358141509827966271488), (10, 512, 162, 1461501637330902918203684832716283019655932542976), (11, 0, 163, 512), (12, 2048, 164, 5846006549323611672814739330865132078623730171904), (13, 0, 165, 3824), (14, 13480, 166, 38478597795352678393331389736358388876878848983040), (15, 32767, 13, 46768052394588893382517914646921056628989841375232)] [(true, 0, 1), (true, 1, 3), (true, 2, 7), (true, 3, 15), (true, 4, 31), (true, 5, 63), (true, 6, 127), (true, 7, 255), (true, 8, 511), (true, 9, 1023), (true, 10, 2047), (true, 11, 4095), (true, 12, 8191), (false, 13, 16383), (false, 14, 32767), (true, 15, 65535)] (fun W' => W'.cell? ⟨w.heap.size, 0, none⟩ = some (.pointer (some ⟨t, 0, none⟩)) ∧ W'.cell? ⟨t, 0, none⟩ = some (.pointer (some ⟨b, 0, none⟩)) ∧ W'.cell? ⟨t, 1, none⟩ = some (.pointer (some ⟨x, 0, none⟩)) ∧ W'.cell? ⟨ba, 6, none⟩ = some (.string nm) ∧ W'.cell? ⟨ba, 7, none⟩ = some (.int .i64 rc) ∧ W'.cell? ⟨ba, 8, none⟩ = some (.int .i64 rl) ∧ W'.cell? ⟨ba, 9, none⟩ = some (.int .i32 rn)) (by kernel_rfl) (by kernel_rfl) (by kernel_rfl) (by kernel_rfl) (by kernel_rfl) (⟨X7.out.b0.cell 0, T7.out.blk.cell 0, T7.out.blk.cell 1, A7.out.cell 6, A7.out.cell 7, A7.out.cell 8, A7.out.cell 9⟩) ?_
              (refine SeqH.take (v := ?_) rfl rfl ?_ ?_; rotate_left; (intro w' hw'; (try dsimp only at hw'); go_simp; try with_reducible rfl); go_simp)
              (refine SeqH.take (v := ?_) rfl rfl ?_ ?_; rotate_left; (intro w' hw'; (try dsimp only at hw'); go_simp; try with_reducible rfl); go_simp)
              (refine SeqH.take (v := ?_) rfl rfl ?_ ?_; rotate_left; (intro w' hw'; (try dsimp only at hw'); go_simp; try with_reducible rfl); go_simp)
              (refine SeqH.take (v := ?_) rfl rfl ?_ ?_; rotate_left; (intro w' hw'; (try dsimp only at hw'); go_simp; try with_reducible rfl); go_simp)
              (refine SeqH.take (v := ?_) rfl rfl ?_ ?_; rotate_left; (intro w' hw'; (try dsimp only at hw'); go_simp; try with_reducible rfl); go_simp)
              (refine SeqH.take (v := ?_) rfl rfl ?_ ?_; rotate_left; (intro w' hw'; (try dsimp only at hw'); go_simp; try with_reducible rfl); go_simp)
              (refine SeqH.take (v := ?_) rfl rfl ?_ ?_; rotate_left; (intro w' hw'; (try dsimp only at hw'); go_simp; try with_reducible rfl); go_simp)
              (refine SeqH.take (v := ?_) rfl rfl ?_ ?_; rotate_left; (intro w' hw'; (try dsimp only at hw'); go_simp; try with_reducible rfl); go_simp)
              (refine SeqH.take (v := ?_) rfl rfl ?_ ?_; rotate_left; (intro w' hw'; (try dsimp only at hw'); go_simp; try with_reducible rfl); go_simp)
              (refine SeqH.take (v := ?_) rfl rfl ?_ ?_; rotate_left; (intro w' hw'; (try dsimp only at hw'); go_simp; try with_reducible rfl); go_simp)
              (refine SeqH.take (v := ?_) rfl rfl ?_ ?_; rotate_left; (intro w' hw'; (try dsimp only at hw'); go_simp; try with_reducible rfl); go_simp)
              (refine SeqH.take (v := ?_) rfl rfl ?_ ?_; rotate_left; (intro w' hw'; (try dsimp only at hw'); go_simp; try with_reducible rfl); go_simp)
              (refine SeqH.take (v := ?_) rfl rfl ?_ ?_; rotate_left; (intro w' hw'; (try dsimp only at hw'); go_simp; try with_reducible rfl); go_simp)
              refine SeqH.step rfl rfl (fun KK hKK => ?_)
              go_simp
              refine hKK _ _ ⟨X7.out.b0.cell 0, T7.out.blk.cell 0, T7.out.blk.cell 1, A7.out.cell 6, A7.out.cell 7, A7.out.cell 8, A7.out.cell 9⟩ ?_
              clear hKK KK
              refine SeqH.step rfl rfl (fun KK hKK => ?_)
              go_simp
              refine (KL.out).mono ?_
              rintro e w8 ⟨K1, rfl, h8, g8⟩
              (try dsimp only)
              have GG := Grow2.one (t := t) (F2 := H2) g8
              have T8 := Lib.hid (T7.out.one h8 g8)
              have Q8 := Lib.hid (N7.out.trans GG)
              have X8 := Lib.hid (X7.out.kept O7.out GG)
              have A8 := Lib.hid (O7.out.blk GG (.inr (.inl rfl)) A7.out)
              have E8 := Lib.hid (O7.out.blk GG (.inr (.inr (.inl rfl))) E7.out)
              have I8 := Lib.hid (O7.out.blk GG (.inr (.inr (.inr rfl))) I7.out)
              have O8 := Lib.hid (O7.out.next GG)
              refine hKK _ _ ⟨X8.out.b0.cell 0, T8.out.blk.cell 0, T8.out.blk.cell 1, A8.out.cell 6, A8.out.cell 7, A8.out.cell 8, A8.out.cell 9⟩ ?_
              clear hKK KK h8 g8 GG
              (refine SeqH.take (v := ?_) rfl rfl ?_ ?_; rotate_left; (intro w' hw'; (try dsimp only at hw'); go_simp; try with_reducible rfl); go_simp)
              refine SeqH.done (NoPanic.normal ?_)
              go_upto_region 18 with (fail)
              have dk : Below w8.heap.size w8 w8.drew := (Below.refl _ _).drew
              have T9 := Lib.hid (T8.out.keep dk)
              have gd := Grow2.below (t := t) (F1 := K1) (F2 := H2) dk
              have X9 := Lib.hid (X8.out.keep dk)
              have E9 := Lib.hid (E8.out.keep dk)
              have I9 := Lib.hid (I8.out.keep dk)
              have O9 := Lib.hid (O8.out.next gd)
              have Q9 := Lib.hid (Q8.out.trans gd)
              have tc := T9.out.blk.cell 2
              have tf := T9.out.blk.free 2
              clear dk gd
              refine wp_region_seq [(0, 0, 167, 16), (1, 0, 168, 16), (2, 2, 169, 187072209578355573530071658587684226515959365500928), (3, 4, 170, 374144419156711147060143317175368453031918731001856), (4, 8, 171, 748288838313422294120286634350736906063837462003712), (5, 16, 172, 1496577676626844588240573268701473812127674924007424), (6, 32, 173, 2993155353253689176481146537402947624255349848015872), (7, 32, 174, 2993155353253689176481146537402947624255349848018944), (8, 224, 175, 20952087472775824235368025761820633369787448936103936), (9, 288, 176, 26938398179283202588330318836626528618298148632133632), (10, 544, 177, 47890485652059026823698344598447161988085597568237568), (11, 1024, 178, 95780971304118053647396689196894323976171195136477184), (12, 3072, 179, 287342913912354160942190067590682971928513585409425408), (13, 1024, 180, 95780971304118053647396689196894323976171195136476160), (14, 9216, 181, 862028741737062482826570202772048915785540756228276224), (15, 21504, 182, 2011400397386479126595330473134780803499595097865977856), (16, 33792, 183, 3160772053035895770364090743497512691213649439503679488), (17, 131071, 184, 93536104789177786765035829293842113257979682750464), (18, 262143, 185, 12259964326927110866866776217202473468949912977468817408), (19, 393215, 0, 30649910817317777167166940543006183672374782443672043520)] [(true, 0, 1), (true, 1, 3), (true, 2, 7), (true, 3, 15), (true, 4, 31), (true, 5, 63), (true, 6, 127), (true, 7, 255), (true, 8, 511), (true, 9, 1023), (true, 10, 2047), (true, 11, 4095), (true, 12, 8191), (true, 13, 16383), (true, 14, 32767), (true, 15, 65535), (true, 16, 131071), (true, 17, 262143), (true, 18, 524287), (false, 19, 1048575)] (fun W' => W'.cell? ⟨w.heap.size, 0, none⟩ = some (.pointer (some ⟨t, 0, none⟩)) ∧ W'.cell? ⟨t, 2, none⟩ = some (.bool true) ∧ W'.cell? ⟨be, 0, none⟩ = some (.int .i64 ev) ∧ W'.cell? ⟨bi, 0, none⟩ = some (.int .i64 0)) (by kernel_rfl) (by kernel_rfl) (by kernel_rfl) (by kernel_rfl) (by kernel_rfl) (⟨X9.out.b0.cell 0, T9.out.blk.cell 2, E9.out.cell 0, I9.out.cell 0⟩) ?_
              (refine SeqH.take (v := ?_) rfl rfl ?_ ?_; rotate_left; (intro w' hw'; (try dsimp only at hw'); go_simp; try with_reducible rfl); go_simp)
              (refine SeqH.take (v := ?_) rfl rfl ?_ ?_; rotate_left; (intro w' hw'; (try dsimp only at hw'); go_simp; try with_reducible rfl); go_simp)
              (refine SeqH.take (v := ?_) rfl rfl ?_ ?_; rotate_left; (intro w' hw'; (try dsimp only at hw'); go_simp; try with_reducible rfl); go_simp)
              (refine SeqH.take (v := ?_) rfl rfl ?_ ?_; rotate_left; (intro w' hw'; (try dsimp only at hw'); go_simp; try with_reducible rfl); go_simp)
              (refine SeqH.take (v := ?_) rfl rfl ?_ ?_; rotate_left; (intro w' hw'; (try dsimp only at hw'); go_simp; try with_reducible rfl); go_simp)
              (refine SeqH.take (v := ?_) rfl rfl ?_ ?_; rotate_left; (intro w' hw'; (try dsimp only at hw'); go_simp; try with_reducible rfl); go_simp)
              (refine SeqH.take (v := ?_) rfl rfl ?_ ?_; rotate_left; (intro w' hw'; (try dsimp only at hw'); go_simp; try with_reducible rfl); go_simp)
              (refine SeqH.take (v := ?_) rfl rfl ?_ ?_; rotate_left; (intro w' hw'; (try dsimp only at hw'); go_simp; try with_reducible rfl); go_simp)
              (refine SeqH.take (v := ?_) rfl rfl ?_ ?_; rotate_left; (intro w' hw'; (try dsimp only at hw'); go_simp; try with_reducible rfl); go_simp)
              (refine SeqH.take (v := ?_) rfl rfl ?_ ?_; rotate_left; (intro w' hw'; (try dsimp only at hw'); go_simp; try with_reducible rfl); go_simp)
              (refine SeqH.take (v := ?_) rfl rfl ?_ ?_; rotate_left; (intro w' hw'; (try dsimp only at hw'); go_simp; try with_reducible rfl); go_simp)
              (refine SeqH.take (v := ?_) rfl rfl ?_ ?_; rotate_left; (intro w' hw'; (try dsimp only at hw'); go_simp; try with_reducible rfl); go_simp)
              (refine SeqH.take (v := ?_) rfl rfl ?_ ?_; rotate_left; (intro w' hw'; (try dsimp only at hw'); go_simp; try with_reducible rfl); go_simp)
              (refine SeqH.take (v := ?_) rfl rfl ?_ ?_; rotate_left; (intro w' hw'; (try dsimp only at hw'); go_simp; try with_reducible rfl); go_simp)
              (refine SeqH.take (v := ?_) rfl rfl ?_ ?_; rotate_left; (intro w' hw'; (try dsimp only at hw'); go_simp; try with_reducible rfl); go_simp)
              (refine SeqH.take (v := ?_) rfl rfl ?_ ?_; rotate_left; (intro w' hw'; (try dsimp only at hw'); go_simp; try with_reducible rfl); go_simp)
              (refine SeqH.take (v := ?_) rfl rfl ?_ ?_; rotate_left; (intro w' hw'; (try dsimp only at hw'); go_simp; try with_reducible rfl); go_simp)
              (refine SeqH.take (v := ?_) rfl rfl ?_ ?_; rotate_left; (intro w' hw'; (try dsimp only at hw'); go_simp; try with_reducible rfl); go_simp)
              (refine SeqH.take (v := ?_) rfl rfl ?_ ?_; rotate_left; (intro w' hw'; (try dsimp only at hw'); go_simp; try with_reducible rfl); go_simp)
              refine SeqH.step rfl rfl (fun KK hKK => ?_)
              go_simp
              have T5 := Lib.hid T9.out.fine
              have g5 := Grow2.set (t := t) (F1 := K1) (F2 := H2) (w := w8.drew) 2 (.bool true)
              have X5 := Lib.hid (X9.out.kept O9.out g5)
              have Q5 := Lib.hid (Q9.out.trans g5)
              have O5 := Lib.hid (O9.out.next g5)
              have E5 := Lib.hid (O9.out.blk g5 (.inr (.inr (.inl rfl))) E9.out)
              have I5 := Lib.hid (O9.out.blk g5 (.inr (.inr (.inr rfl))) I9.out)
              clear g5 tc tf
              refine hKK _ _ ⟨X5.out.b0.cell 0, T5.out.blk.cell 2, E5.out.cell 0, I5.out.cell 0⟩ ?_
              clear hKK KK
              refine SeqH.done (NoPanic.normal ?_)
              go_wp2
              go_roundw
              case rel => exact ⟨m + 1, so, K1, H2, HN.out.after Q5.out T5.out HN.out.inv⟩
              case measure =>
                have q1 := (HN.out.after Q5.out T5.out HN.out.inv).box.at
                have q2 := HW.out.box.at
                change n - atOf (w.heap.size + 2) (w8.drew.setCell ⟨t, 2, none⟩ (.bool true)) < _
                rw [q1, q2]; omega
      · by_cases hdp : depth = 0
        · subst hdp
          go_wp2
          go_roundw
          case rel => exact ⟨m + 1, s', G1, G2, HN.out⟩
          case measure => rw [HN.out.box.at, HW.out.box.at]; omega
        · have hdp' : (0 : Int) < depth := by omega
          go_wp2
          go_ret
          exact ⟨m + 1, s', G1, G2, rfl, HN.out.lo, HN.out.hi, HN.out.two, HN.out.grow, HN.out.inv⟩
      · go_wp2
        go_roundw
        case rel => exact ⟨m + 1, s', G1, G2, HN.out⟩
        case measure => rw [HN.out.box.at, HW.out.box.at]; omega
    · obtain rfl : m = n := by have := HW.out.hi; omega
      go_wp2
      go_ret
      exact ⟨m, s', G1, G2, rfl, HW.out.lo, Nat.le_refl _, HW.out.two, HW.out.grow, HW.out.inv⟩
theorem does_is (hn : n ≤ 60) (hok : ∀ y ∈ l, AbOk y) (hla : ∀ la off, a = some ⟨la, off, none⟩ → 0 < n → la < B) (hg : 1 < B) : ∀ (k i depth : Nat) (s : Bst) (F1 F2 : Nat → Prop) (w : World), depth + k = 6 → i ≤ n → ElAt abK w a n c l → B ≤ w.heap.size →
    TwoIn B w t b d x s s F1 F2 → ShapesLaid w → Inv s i depth → Calls Tryd.prog 6 #[.pointer (some ⟨t, 0, none⟩), .slice a n c, .int .i64 i, .int .i64 depth] w (DoesTo B t b d x n i depth F1 F2 w)
  | 0, i, depth, s, F1, F2, w, hd, hi, hL, hB, h, hS, hI => does_step i depth s F1 F2 w hn (by omega) hi hL hok hla hg hB h hS hI fun q => absurd q (by omega)
  | k + 1, i, depth, s, F1, F2, w, hd, hi, hL, hB, h, hS, hI => does_step i depth s F1 F2 w hn (by omega) hi hL hok hla hg hB h hS hI fun _ i' s' G1 G2 w' h1 h2 h3 h4 h5 h6 => does_is hn hok hla hg k i' (depth + 1) s' G1 G2 w' (by omega) h1 h2 h3 h4 h5 h6
end
end Go.Proofs.YtgmphfagflhglaaDoor
