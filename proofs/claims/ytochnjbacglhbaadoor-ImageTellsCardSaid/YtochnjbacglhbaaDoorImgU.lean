/- Package image: Get. -/
import Derived.Test.YtochnjbacglhbaaDoorImgT
namespace Go.Proofs.YtochnjbacglhbaaDoor
open Go.RowKit Go.IntWalk

theorem all_err {o : List Int} {x : Int} (h : pAll o = .error x) : readI o = (x, img0) ∧ x ≠ 0 := by
  unfold pAll at h
  unfold readI
  cases hb : pBody o with
  | error e =>
    rw [pBind_err hb] at h
    cases h
    exact ⟨rfl, by rcases flt_body o x hb with rfl | rfl <;> decide⟩
  | ok q =>
    obtain ⟨m, r⟩ := q
    rw [pBind_ok hb] at h
    simp only
    by_cases hr : r = []
    · subst hr
      cases h
    · rw [if_pos hr]
      unfold pBind pEnd at h
      rw [if_neg hr] at h
      cases h
      exact ⟨rfl, by decide⟩
theorem all_ok {o : List Int} {m : Img} {r : List Int} (h : pAll o = .ok (m, r)) : readI o = if chkI m ≠ 0 then (chkI m, img0) else (0, m) := by
  unfold pAll at h
  unfold readI
  obtain ⟨m', r1, h1, h2⟩ := pBind_inv h
  obtain ⟨u, r2, h3, h4⟩ := pBind_inv h2
  rw [h1]
  unfold pRet at h4
  cases h4
  unfold pEnd at h3
  split at h3
  · rename_i hr
    subst hr
    rfl
  · cases h3
theorem openOf_bd {l : List Int} (h : Bd8 l) : Bd8 (openOf l).1 := by
  unfold openOf
  split
  · exact Bd8.nil
  · split
    · exact h.take _
    · exact Bd8.nil
/-- What a getting answers. -/
def GetTo (w : World) (x : Int) (m : Img) (e : Ending) (w' : World) : Prop :=
  ∃ a0 n0 c0 a1 n1 c1 a2 n2 c2 a3 n3 c3 a4 n4 c4, e = .returned (.tuple #[.agg #[.slice a0 n0 c0, .slice a1 n1 c1, .slice a2 n2 c2, .slice a3 n3 c3, .slice a4 n4 c4], .int .i64 x]) ∧ ImgAt w' a0 n0 c0 a1 n1 c1 a2 n2 c2 a3 n3 c3 a4 n4 c4 m ∧ Below w.heap.size w w'
theorem ImgAt.none (w : World) : ImgAt w none 0 0 none 0 0 none 0 0 none 0 0 none 0 0 img0 := ⟨Ws.emp w, Ws.emp w, ElAt.emp _ w, Ws.emp w, Ws.emp w⟩
theorem GetTo.none {w w' : World} {x : Int} (k : Below w.heap.size w w') : GetTo w x img0 (.returned (.tuple #[.agg #[.slice none 0 0, .slice none 0 0, .slice none 0 0, .slice none 0 0, .slice none 0 0], .int .i64 x])) w' :=
  ⟨_, _, _, _, _, _, _, _, _, _, _, _, _, _, _, rfl, ImgAt.none w', k⟩
theorem imgRead_no {w : World} {a : Option Addr} {n c : Nat} {l : List Int} {x : Int} (hB : By w a n c l) (hlt : ∀ b off, a = some ⟨b, off, none⟩ → b < w.heap.size) (hq : pAll l = .error x) : Calls Tryd.prog 20 #[.slice a n c] w fun e w' => e = .returned (.tuple #[.agg #[.slice none 0 0, .slice none 0 0, .slice none 0 0, .slice none 0 0, .slice none 0 0], .int .i64 x]) ∧ Below w.heap.size w w' := by
  refine (imgRead_is hB hlt).mono ?_
  rintro e w' (⟨m, a0, n0, c0, a1, n1, c1, a2, n2, c2, a3, n3, c3, a4, n4, c4, h1, -⟩ | ⟨x', h1, rfl, k⟩)
  · rw [hq] at h1; cases h1
  · rw [hq] at h1; cases h1; exact ⟨rfl, k⟩
theorem imgRead_ok {w : World} {a : Option Addr} {n c : Nat} {l r : List Int} {m : Img} (hB : By w a n c l) (hlt : ∀ b off, a = some ⟨b, off, none⟩ → b < w.heap.size) (hq : pAll l = .ok (m, r)) : Calls Tryd.prog 20 #[.slice a n c] w fun e w' =>
    ∃ a0 n0 c0 a1 n1 c1 a2 n2 c2 a3 n3 c3 a4 n4 c4, e = .returned (.tuple #[.agg #[.slice a0 n0 c0, .slice a1 n1 c1, .slice a2 n2 c2, .slice a3 n3 c3, .slice a4 n4 c4], .int .i64 0]) ∧ ImgAt w' a0 n0 c0 a1 n1 c1 a2 n2 c2 a3 n3 c3 a4 n4 c4 m ∧ New5 w a0 a1 a2 a3 a4 ∧ Below w.heap.size w w' := by
  refine (imgRead_is hB hlt).mono ?_
  rintro e w' (⟨m', a0, n0, c0, a1, n1, c1, a2, n2, c2, a3, n3, c3, a4, n4, c4, h1, rfl, im, nw, k⟩ | ⟨x', h1, -, -⟩)
  · rw [hq] at h1; cases h1
    exact ⟨_, _, _, _, _, _, _, _, _, _, _, _, _, _, _, rfl, im, nw, k⟩
  · rw [hq] at h1; cases h1
theorem im_far {V W : World} {Q : Nat} {a0 a1 a2 a3 a4 : Option Addr} {n0 n1 n2 n3 n4 c0 c1 c2 c3 c4 : Nat} {m : Img} {y0 y1 y2 y3 y4 : Value} (im : ImgAt W a0 n0 c0 a1 n1 c1 a2 n2 c2 a3 n3 c3 a4 n4 c4 m) (nw : New5 V a0 a1 a2 a3 a4) (hQ : Q < V.heap.size) :
    ImgAt (((((W.setCell ⟨Q, 0, none⟩ y0).setCell ⟨Q, 1, none⟩ y1).setCell ⟨Q, 2, none⟩ y2).setCell ⟨Q, 3, none⟩ y3).setCell ⟨Q, 4, none⟩ y4) a0 n0 c0 a1 n1 c1 a2 n2 c2 a3 n3 c3 a4 n4 c4 m :=
  im.far (set_keeps (b := Q) (i := 4) (set_keeps (b := Q) (i := 3) (set_keeps (b := Q) (i := 2) (set_keeps (b := Q) (i := 1) (set_keeps (b := Q) (i := 0) (Keeps.refl _ W) y0) y1) y2) y3) y4) nw fun j hj e => by omega
section
variable {w : World} {a : Option Addr} {n c : Nat} {l : List Int}
set_option maxRecDepth 100000 in
set_option maxHeartbeats 2000000 in
theorem imgGet_no (hB : By w a n c l) (hL : FoursLaid w) (hn : n ≤ 140737488355000) (he : (openOf l).2 ≠ 0) : Calls Tryd.prog 10 #[.slice a n c] w (GetTo w (openOf l).2 img0) := by
  have al := (Below.refl w.heap.size w).alloc (Nat.le_refl _) (.cells #[.slice none 0 0, .slice none 0 0, .slice none 0 0, .slice none 0 0, .slice none 0 0] 27)
  have AL := Lib.hid al
  have K := Lib.hid (fun W (k : Below w.heap.size w W) => crcOpen_is a n c l W (hB.keep k (Nat.le_refl _)) (hL.below k hL.lt) hn)
  obtain ⟨x, hx⟩ : ∃ x, (openOf l).2 = x := ⟨_, rfl⟩
  rw [hx] at he K ⊢
  have bz := BlkAt.new w 27 #[.slice none 0 0, .slice none 0 0, .slice none 0 0, .slice none 0 0, .slice none 0 0]
  have hne : (x != 0) = true := by simpa using he
  clear hx al he
  go_enter Tryd.func10, Tryd.ntmps10
  go_wp2_with (go_at_call 19; ((with_reducible refine (K.out _ AL.out).mono ?_); rintro e w1 ⟨v1, rfl, ho, hb⟩); have BQ := bz.keep hb; have z0 := BQ.cell 0; have z1 := BQ.cell 1; have z2 := BQ.cell 2; have z3 := BQ.cell 3; have z4 := BQ.cell 4; have f0 := BQ.free 0; have f1 := BQ.free 1; have f2 := BQ.free 2; have f3 := BQ.free 3; have f4 := BQ.free 4)
  have hB := im_put BQ (AL.out.trans (hb.mono AL.out.size)) (Nat.le_refl _) (.slice none 0 0) (.slice none 0 0) (.slice none 0 0) (.slice none 0 0) (.slice none 0 0)
  generalize ((((w1.setCell ⟨w.heap.size, 0, none⟩ (.slice none 0 0)).setCell ⟨w.heap.size, 1, none⟩ (.slice none 0 0)).setCell ⟨w.heap.size, 2, none⟩ (.slice none 0 0)).setCell ⟨w.heap.size, 3, none⟩ (.slice none 0 0)).setCell ⟨w.heap.size, 4, none⟩ (.slice none 0 0) = W5 at hB ⊢
  obtain ⟨⟨p0, p1, p2, p3, p4⟩, pb⟩ := hB
  exact bodyPost_ret (v := .tuple #[.agg #[.slice none 0 0, .slice none 0 0, .slice none 0 0, .slice none 0 0, .slice none 0 0], .int .i64 x]) (by simp [results, Tryd.results10, go_sem, p0, p1, p2, p3, p4]) rfl (GetTo.none pb)
set_option maxRecDepth 100000 in
set_option maxHeartbeats 2000000 in
theorem imgGet_bad {o : List Int} {x : Int} (hB : By w a n c l) (hL : FoursLaid w) (hn : n ≤ 140737488355000) (he : openOf l = (o, 0)) (hob : Bd8 o) (hq : pAll o = .error x) : Calls Tryd.prog 10 #[.slice a n c] w (GetTo w x img0) := by
  have al := (Below.refl w.heap.size w).alloc (Nat.le_refl _) (.cells #[.slice none 0 0, .slice none 0 0, .slice none 0 0, .slice none 0 0, .slice none 0 0] 27)
  have AL := Lib.hid al
  have K := Lib.hid (fun W (k : Below w.heap.size w W) => crcOpen_is a n c l W (hB.keep k (Nat.le_refl _)) (hL.below k hL.lt) hn)
  rw [he] at K
  have bz := BlkAt.new w 27 #[.slice none 0 0, .slice none 0 0, .slice none 0 0, .slice none 0 0, .slice none 0 0]
  have BZ := Lib.hid bz
  have hx0 := (all_err hq).2
  have hne : (x != 0) = true := by simpa using hx0
  have hne' : (x == 0) = false := by simpa using hx0
  have HQ := Lib.hid hq
  have HOB := Lib.hid hob
  clear al he hx0 bz hq hob hB
  go_enter Tryd.func10, Tryd.ntmps10
  go_wp2_with (first
    | (go_at_call 19; ((with_reducible refine (K.out _ AL.out).mono ?_); rintro e w1 ⟨v1, rfl, ho, hb⟩); obtain ⟨a1, c1, rfl, hB1⟩ := ho.by HOB.out; have KR := Lib.hid (imgRead_no hB1 (fun b off e => by subst e; exact (ho.lt b rfl).2) HQ.out); have B1 := Lib.hid (AL.out.trans (hb.mono AL.out.size)); have Q1 := Lib.hid (BZ.out.keep hb); clear ho hb hB1)
    | (go_at_call 20; ((with_reducible refine KR.out.mono ?_); rintro e w2 ⟨rfl, hb2⟩); have B2 := Lib.hid ((B1.out.trans (hb2.mono B1.out.size)).alloc (Nat.le_trans B1.out.size hb2.size) (.cells #[.slice none 0 0, .slice none 0 0, .slice none 0 0, .slice none 0 0, .slice none 0 0] 27)); have Q2 := (Q1.out.keep hb2).keep ((Below.refl w2.heap.size w2).alloc (Nat.le_refl _) (.cells #[.slice none 0 0, .slice none 0 0, .slice none 0 0, .slice none 0 0, .slice none 0 0] 27)); have HQ2 := Lib.hid Q2; have z0 := Q2.cell 0; have z1 := Q2.cell 1; have z2 := Q2.cell 2; have z3 := Q2.cell 3; have z4 := Q2.cell 4; have f0 := Q2.free 0; have f1 := Q2.free 1; have f2 := Q2.free 2; have f3 := Q2.free 3; have f4 := Q2.free 4; clear hb2 Q2))
  generalize w2.alloc (.cells #[.slice none 0 0, .slice none 0 0, .slice none 0 0, .slice none 0 0, .slice none 0 0] 27) = W3 at B2 HQ2 ⊢
  have hB := im_put HQ2.out B2.out (Nat.le_refl _) (.slice none 0 0) (.slice none 0 0) (.slice none 0 0) (.slice none 0 0) (.slice none 0 0)
  generalize ((((W3.setCell ⟨w.heap.size, 0, none⟩ (.slice none 0 0)).setCell ⟨w.heap.size, 1, none⟩ (.slice none 0 0)).setCell ⟨w.heap.size, 2, none⟩ (.slice none 0 0)).setCell ⟨w.heap.size, 3, none⟩ (.slice none 0 0)).setCell ⟨w.heap.size, 4, none⟩ (.slice none 0 0) = W5 at hB ⊢
  obtain ⟨⟨p0, p1, p2, p3, p4⟩, pb⟩ := hB
  exact bodyPost_ret (v := .tuple #[.agg #[.slice none 0 0, .slice none 0 0, .slice none 0 0, .slice none 0 0, .slice none 0 0], .int .i64 x]) (by simp [results, Tryd.results10, go_sem, p0, p1, p2, p3, p4]) rfl (GetTo.none pb)
set_option maxRecDepth 100000 in
set_option maxHeartbeats 2000000 in
theorem imgGet_chk {o r : List Int} {m : Img} {x : Int} (hB : By w a n c l) (hL : FoursLaid w) (hn : n ≤ 140737488355000) (he : openOf l = (o, 0)) (hob : Bd8 o) (hq : pAll o = .ok (m, r)) (hx : chkI m = x) (hx0 : x ≠ 0) : Calls Tryd.prog 10 #[.slice a n c] w (GetTo w x img0) := by
  have al := (Below.refl w.heap.size w).alloc (Nat.le_refl _) (.cells #[.slice none 0 0, .slice none 0 0, .slice none 0 0, .slice none 0 0, .slice none 0 0] 27)
  have AL := Lib.hid al
  have K := Lib.hid (fun W (k : Below w.heap.size w W) => crcOpen_is a n c l W (hB.keep k (Nat.le_refl _)) (hL.below k hL.lt) hn)
  rw [he] at K
  have bz := BlkAt.new w 27 #[.slice none 0 0, .slice none 0 0, .slice none 0 0, .slice none 0 0, .slice none 0 0]
  have BZ := Lib.hid bz
  have hne : (x != 0) = true := by simpa using hx0
  have HQ := Lib.hid hq
  have HOB := Lib.hid hob
  have HCK := Lib.hid hx
  clear al he hx0 hx bz hq hob hB
  go_enter Tryd.func10, Tryd.ntmps10
  go_wp2_with (first
    | (go_at_call 19; ((with_reducible refine (K.out _ AL.out).mono ?_); rintro e w1 ⟨v1, rfl, ho, hb⟩); obtain ⟨a9, c9, rfl, hB1⟩ := ho.by HOB.out; have KR := Lib.hid (imgRead_ok hB1 (fun b off e => by subst e; exact (ho.lt b rfl).2) HQ.out); have B1 := Lib.hid (AL.out.trans (hb.mono AL.out.size)); have Q1 := Lib.hid (BZ.out.keep hb); clear ho hb hB1)
    | (go_at_call 20; ((with_reducible refine KR.out.mono ?_); rintro e w2 ⟨a0, n0, c0, a1, n1, c1, a2, n2, c2, a3, n3, c3, a4, n4, c4, rfl, im, nw, hb2⟩); have B2 := Lib.hid ((B1.out.trans (hb2.mono B1.out.size)).alloc (Nat.le_trans B1.out.size hb2.size) (.cells #[.slice a0 n0 c0, .slice a1 n1 c1, .slice a2 n2 c2, .slice a3 n3 c3, .slice a4 n4 c4] 27)); have hal := (Below.refl w2.heap.size w2).alloc (Nat.le_refl _) (.cells #[.slice a0 n0 c0, .slice a1 n1 c1, .slice a2 n2 c2, .slice a3 n3 c3, .slice a4 n4 c4] 27); have Q2 := Lib.hid ((Q1.out.keep hb2).keep hal); have KC := Lib.hid (imgCheck_is (im.keep hal)); clear hb2 hal im)
    | (go_at_call 13; ((with_reducible refine KC.out.mono ?_); rintro e w4 ⟨rfl, hb4⟩); rw [HCK.out]; have B4 := Lib.hid (B2.out.trans (hb4.mono B2.out.size)); have Q4 := Lib.hid (Q2.out.keep hb4); have z0 := Q4.out.cell 0; have z1 := Q4.out.cell 1; have z2 := Q4.out.cell 2; have z3 := Q4.out.cell 3; have z4 := Q4.out.cell 4; have f0 := Q4.out.free 0; have f1 := Q4.out.free 1; have f2 := Q4.out.free 2; have f3 := Q4.out.free 3; have f4 := Q4.out.free 4; clear hb4))
  have hB := im_put Q4.out B4.out (Nat.le_refl _) (.slice none 0 0) (.slice none 0 0) (.slice none 0 0) (.slice none 0 0) (.slice none 0 0)
  generalize ((((w4.setCell ⟨w.heap.size, 0, none⟩ (.slice none 0 0)).setCell ⟨w.heap.size, 1, none⟩ (.slice none 0 0)).setCell ⟨w.heap.size, 2, none⟩ (.slice none 0 0)).setCell ⟨w.heap.size, 3, none⟩ (.slice none 0 0)).setCell ⟨w.heap.size, 4, none⟩ (.slice none 0 0) = W5 at hB ⊢
  obtain ⟨⟨p0, p1, p2, p3, p4⟩, pb⟩ := hB
  exact bodyPost_ret (v := .tuple #[.agg #[.slice none 0 0, .slice none 0 0, .slice none 0 0, .slice none 0 0, .slice none 0 0], .int .i64 x]) (by simp [results, Tryd.results10, go_sem, p0, p1, p2, p3, p4]) rfl (GetTo.none pb)
set_option maxRecDepth 100000 in
set_option maxHeartbeats 2000000 in
theorem imgGet_ok {o r : List Int} {m : Img} (hB : By w a n c l) (hL : FoursLaid w) (hn : n ≤ 140737488355000) (he : openOf l = (o, 0)) (hob : Bd8 o) (hq : pAll o = .ok (m, r)) (hx : chkI m = 0) : Calls Tryd.prog 10 #[.slice a n c] w (GetTo w 0 m) := by
  have al := (Below.refl w.heap.size w).alloc (Nat.le_refl _) (.cells #[.slice none 0 0, .slice none 0 0, .slice none 0 0, .slice none 0 0, .slice none 0 0] 27)
  have AL := Lib.hid al
  have K := Lib.hid (fun W (k : Below w.heap.size w W) => crcOpen_is a n c l W (hB.keep k (Nat.le_refl _)) (hL.below k hL.lt) hn)
  rw [he] at K
  have bz := BlkAt.new w 27 #[.slice none 0 0, .slice none 0 0, .slice none 0 0, .slice none 0 0, .slice none 0 0]
  have BZ := Lib.hid bz
  have HQ := Lib.hid hq
  have HOB := Lib.hid hob
  have HCK := Lib.hid hx
  clear al he hx bz hq hob hB
  go_enter Tryd.func10, Tryd.ntmps10
  go_wp2_with (first
    | (go_at_call 19; ((with_reducible refine (K.out _ AL.out).mono ?_); rintro e w1 ⟨v1, rfl, ho, hb⟩); obtain ⟨a9, c9, rfl, hB1⟩ := ho.by HOB.out; have KR := Lib.hid (imgRead_ok hB1 (fun b off e => by subst e; exact (ho.lt b rfl).2) HQ.out); have B1 := Lib.hid (AL.out.trans (hb.mono AL.out.size)); have Q1 := Lib.hid (BZ.out.keep hb); clear ho hb hB1)
    | (go_at_call 20; ((with_reducible refine KR.out.mono ?_); rintro e w2 ⟨a0, n0, c0, a1, n1, c1, a2, n2, c2, a3, n3, c3, a4, n4, c4, rfl, im, nw, hb2⟩); have B2 := Lib.hid ((B1.out.trans (hb2.mono B1.out.size)).alloc (Nat.le_trans B1.out.size hb2.size) (.cells #[.slice a0 n0 c0, .slice a1 n1 c1, .slice a2 n2 c2, .slice a3 n3 c3, .slice a4 n4 c4] 27)); have hal := (Below.refl w2.heap.size w2).alloc (Nat.le_refl _) (.cells #[.slice a0 n0 c0, .slice a1 n1 c1, .slice a2 n2 c2, .slice a3 n3 c3, .slice a4 n4 c4] 27); have Q2 := Lib.hid ((Q1.out.keep hb2).keep hal); have I2 := Lib.hid (im.keep hal); have N2 := Lib.hid nw; have KC := Lib.hid (imgCheck_is (im.keep hal)); have bx := BlkAt.new w2 27 #[.slice a0 n0 c0, .slice a1 n1 c1, .slice a2 n2 c2, .slice a3 n3 c3, .slice a4 n4 c4]; have BX := Lib.hid bx; clear hb2 hal im nw bx)
    | (go_at_call 13; ((with_reducible refine KC.out.mono ?_); rintro e w4 ⟨rfl, hb4⟩); rw [HCK.out]; have B4 := Lib.hid (B2.out.trans (hb4.mono B2.out.size)); have Q4 := Lib.hid (Q2.out.keep hb4); have I4 := Lib.hid (I2.out.keep hb4); have z0 := Q4.out.cell 0; have z1 := Q4.out.cell 1; have z2 := Q4.out.cell 2; have z3 := Q4.out.cell 3; have z4 := Q4.out.cell 4; have f0 := Q4.out.free 0; have f1 := Q4.out.free 1; have f2 := Q4.out.free 2; have f3 := Q4.out.free 3; have f4 := Q4.out.free 4; have X4 := BX.out.keep hb4; have x0 := X4.cell 0; have x1 := X4.cell 1; have x2 := X4.cell 2; have x3 := X4.cell 3; have x4 := X4.cell 4; clear hb4 X4))
  have hB := im_put Q4.out B4.out (Nat.le_refl _) (.slice a0 n0 c0) (.slice a1 n1 c1) (.slice a2 n2 c2) (.slice a3 n3 c3) (.slice a4 n4 c4)
  have hI := im_far (y0 := .slice a0 n0 c0) (y1 := .slice a1 n1 c1) (y2 := .slice a2 n2 c2) (y3 := .slice a3 n3 c3) (y4 := .slice a4 n4 c4) I4.out N2.out (show w.heap.size < w1.heap.size from cell_lt (Q1.out.cell 0))
  generalize ((((w4.setCell ⟨w.heap.size, 0, none⟩ (.slice a0 n0 c0)).setCell ⟨w.heap.size, 1, none⟩ (.slice a1 n1 c1)).setCell ⟨w.heap.size, 2, none⟩ (.slice a2 n2 c2)).setCell ⟨w.heap.size, 3, none⟩ (.slice a3 n3 c3)).setCell ⟨w.heap.size, 4, none⟩ (.slice a4 n4 c4) = W5 at hB hI ⊢
  obtain ⟨⟨p0, p1, p2, p3, p4⟩, pb⟩ := hB
  exact bodyPost_ret (v := .tuple #[.agg #[.slice a0 n0 c0, .slice a1 n1 c1, .slice a2 n2 c2, .slice a3 n3 c3, .slice a4 n4 c4], .int .i64 0]) (by simp [results, Tryd.results10, go_sem, p0, p1, p2, p3, p4]) rfl ⟨_, _, _, _, _, _, _, _, _, _, _, _, _, _, _, rfl, hI, pb⟩
theorem imgGet_is (hB : By w a n c l) (hL : FoursLaid w) (hn : n ≤ 140737488355000) : Calls Tryd.prog 10 #[.slice a n c] w (GetTo w (getI l).1 (getI l).2) := by
  unfold getI
  by_cases he : (openOf l).2 ≠ 0
  · rw [if_pos he]
    exact imgGet_no hB hL hn he
  · rw [if_neg he]
    have he : openOf l = ((openOf l).1, 0) := by
      have : (openOf l).2 = 0 := by simpa using he
      rw [← this]
    have hob : Bd8 (openOf l).1 := openOf_bd hB.bd
    generalize (openOf l).1 = o at *
    cases hq : pAll o with
    | error x =>
      rw [(all_err hq).1]
      exact imgGet_bad hB hL hn he hob hq
    | ok q =>
      obtain ⟨m, r⟩ := q
      rw [all_ok hq]
      by_cases hx : chkI m ≠ 0
      · rw [if_pos hx]
        exact imgGet_chk hB hL hn he hob hq rfl hx
      · rw [if_neg hx]
        exact imgGet_ok hB hL hn he hob hq (by simpa using hx)
end
end Go.Proofs.YtochnjbacglhbaaDoor
