/- Package source: Parse; what all laws of layer 23 ask last. Conditions: a text of no more than 500000 bytes. -/
import Derived.Test.YtekhgidbnpfmnaaGreatDoorSouT
import Derived.Test.YtekhgidbnpfmnaaGreatDoorSouP
import Derived.Test.YtekhgidbnpfmnaaGreatDoorSouB
import Derived.Test.YtekhgidbnpfmnaaGreatDoorCut
import Derived.Test.YtekhgidbnpfmnaaGreatDoorImgI
namespace Go.Proofs.YtekhgidbnpfmnaaGreatDoor
open Go.RowKit

section
open Go.RowKit Go.Maps Go.IntWalk

/-- What newReader answers. -/
def RdNew (w : World) (e : Ending) (w' : World) : Prop := ∃ R M t F, e = .returned (.pointer (some ⟨R, 0, none⟩)) ∧ RdAt w w' R M t F 0 (.slice none 0 0) (.slice none 0 0) (.slice none 0 0) (.slice none 0 0) (.slice none 0 0) (.slice none 0 0) sst0
set_option maxRecDepth 100000 in
set_option maxHeartbeats 2000000 in
theorem souNew_is (w : World) : Calls Tryz.prog 16 #[] w (RdNew w) := by
  have C := Lib.hid (souDoers_is w)
  go_enter Tryz.func16, Tryz.ntmps16
  go_wp2_with (first
    | (go_at_call 40; ((with_reducible refine (C.out).mono ?_); rintro e w1 ⟨M, rfl, hD, hM, hb⟩); have HD := Lib.hid hD; have HM := Lib.hid hM; have HB := Lib.hid hb; clear hD hM hb)
    | (go_at_call 41; ((with_reducible refine (labNew_is w.heap.size w1 HB.out.size).mono ?_); rintro e w2 ⟨t, F, rfl, hl, hF, hb⟩); have HL := Lib.hid hl; have HF := Lib.hid hF; have HB2 := Lib.hid hb; clear hl hF hb))
  go_ret
  have hs1 := HB.out.size
  have hs2 := HB2.out.size
  have b3 := (Below.refl w2.heap.size w2).alloc (Nat.le_refl _) (.cells #[.map (some M), .int .i64 0, .slice none 0 0, .slice none 0 0, .slice none 0 0, .slice none 0 0, .slice none 0 0, .pointer (some ⟨t, 0, none⟩), .slice none 0 0] 48)
  have bb := BlkAt.new w2 48 #[.map (some M), .int .i64 0, .slice none 0 0, .slice none 0 0, .slice none 0 0, .slice none 0 0, .slice none 0 0, .pointer (some ⟨t, 0, none⟩), .slice none 0 0]
  have hd2 := HD.out.kept (Keeps.of_below (fun _ => False) HB2.out) id
  have hml := HD.out.lt
  refine ⟨w2.heap.size, M, t, F, rfl, bb, hd2.kept (Keeps.of_below (fun _ => False) b3) id, OwnEl.nil _ _ _ _, OwnEl.nil _ _ _ _, OwnEl.nil _ _ _ _, OwnEl.nil _ _ _ _, OwnEl.nil _ _ _ _, OwnEl.nil _ _ _ _, Apart.nil _, HL.out.keep b3, ?_, ?_, ?_, ?_, by omega, by omega, HM.out, (HB.out.trans (HB2.out.mono hs1)).trans (b3.mono (by omega))⟩
  · intro f
    have := (HL.out.low _ f).2
    omega
  · intro f
    have := HF.out _ f
    omega
  · intro v hv j q
    simp only [List.mem_cons, List.not_mem_nil, or_false] at hv
    rcases hv with rfl | rfl | rfl | rfl | rfl | rfl <;> cases q
  · intro v hv q
    simp only [List.mem_cons, List.not_mem_nil, or_false] at hv
    rcases hv with rfl | rfl | rfl | rfl | rfl | rfl <;> cases q
theorem ImgAt.nought (w : World) : ImgAt w none 0 0 none 0 0 none 0 0 none 0 0 none 0 0 img0 := ⟨Ws.emp w, Ws.emp w, ElAt.emp _ w, Ws.emp w, Ws.emp w⟩
theorem ParTo.nought {w w' : World} {x : Int} {k : Nat} (h : Below w.heap.size w w') : ParTo w (x, k, img0) (.returned (.tuple #[.agg #[.slice none 0 0, .slice none 0 0, .slice none 0 0, .slice none 0 0, .slice none 0 0], .int .i64 (k : Int), .int .i64 x])) w' :=
  ⟨_, _, _, _, _, _, _, _, _, _, _, _, _, _, _, rfl, ImgAt.nought w', h⟩
def imgS (s : Sst) : Img := ⟨s.ins.map encQ, s.data, s.sec, s.inn, s.out⟩
section
variable {w0 w : World} {R M t : Nat} {F : Nat → Prop} {n : Int} {vc vd vs vi vo va : Value} {s : Sst}
theorem RdAt.img (h : RdAt w0 w R M t F n vc vd vs vi vo va s) {w' : World} {G : Nat → Prop} (k : Keeps G w w') (hG : ∀ j, w0.heap.size ≤ j → ¬ G j) : ∃ a0 n0 c0 a1 n1 c1 a2 n2 c2 a3 n3 c3 a4 n4 c4, (vc = .slice a0 n0 c0 ∧ vd = .slice a1 n1 c1 ∧ vs = .slice a2 n2 c2 ∧ vi = .slice a3 n3 c3 ∧ vo = .slice a4 n4 c4) ∧ ImgAt w' a0 n0 c0 a1 n1 c1 a2 n2 c2 a3 n3 c3 a4 n4 c4 (imgS s) := by
  obtain ⟨a0, c0, e0, h0⟩ := (ownW_el.1 (h.code.kept k fun j q => hG j (h.code.lt j q).1)).ws
  obtain ⟨a1, c1, e1, h1⟩ := (ownW_el.1 (h.data.kept k fun j q => hG j (h.data.lt j q).1)).ws
  obtain ⟨a2, c2, e2, h2⟩ := (h.sec.kept k fun j q => hG j (h.sec.lt j q).1).at
  obtain ⟨a3, c3, e3, h3⟩ := (ownW_el.1 (h.inn.kept k fun j q => hG j (h.inn.lt j q).1)).ws
  obtain ⟨a4, c4, e4, h4⟩ := (ownW_el.1 (h.out.kept k fun j q => hG j (h.out.lt j q).1)).ws
  exact ⟨a0, _, c0, a1, _, c1, a2, _, c2, a3, _, c3, a4, _, c4, ⟨e0, e1, e2, e3, e4⟩, ⟨h0, h1, h2, h3, h4⟩⟩
end
/-- An image stored in a block of five cells. -/
structure Put5 (b : Nat) (y0 y1 y2 y3 y4 : Value) (B : Nat) (w W W5 : World) : Prop where
  cells : W5.cell? ⟨b, 0, none⟩ = some y0 ∧ W5.cell? ⟨b, 1, none⟩ = some y1 ∧ W5.cell? ⟨b, 2, none⟩ = some y2 ∧ W5.cell? ⟨b, 3, none⟩ = some y3 ∧ W5.cell? ⟨b, 4, none⟩ = some y4
  below : Below B w W5
  keeps : Keeps (fun j => j = b) W W5
theorem Put5.drew {b B : Nat} {y0 y1 y2 y3 y4 : Value} {w W W5 : World} (h : Put5 b y0 y1 y2 y3 y4 B w W W5) : Put5 b y0 y1 y2 y3 y4 B w W W5.drew := ⟨h.cells, h.below.drew, ⟨h.keeps.os, h.keeps.tape, h.keeps.output, h.keeps.size, h.keeps.block⟩⟩
theorem put5 {b B0 : Nat} {T : TypeId} {w W : World} {x0 x1 x2 x3 x4 : Value} (h : BlkAt b T #[x0, x1, x2, x3, x4] W) (hb : Below B0 w W) (hB : B0 ≤ b) (y0 y1 y2 y3 y4 : Value) : Put5 b y0 y1 y2 y3 y4 B0 w W (((((W.setCell ⟨b, 0, none⟩ y0).setCell ⟨b, 1, none⟩ y1).setCell ⟨b, 2, none⟩ y2).setCell ⟨b, 3, none⟩ y3).setCell ⟨b, 4, none⟩ y4) := by
  have k : BlkAt b T #[y0, y1, y2, y3, y4] (((((W.setCell ⟨b, 0, none⟩ y0).setCell ⟨b, 1, none⟩ y1).setCell ⟨b, 2, none⟩ y2).setCell ⟨b, 3, none⟩ y3).setCell ⟨b, 4, none⟩ y4) := (((((h.set 0 y0).set 1 y1).set 2 y2).set 3 y3).set 4 y4).eq rfl
  exact ⟨⟨k.cell 0, k.cell 1, k.cell 2, k.cell 3, k.cell 4⟩, ((((hb.setCell hB _).setCell hB _).setCell hB _).setCell hB _).setCell hB _, ((((Keeps.set1 W b 0 y0).trans (Keeps.set1 _ b 1 y1)).trans (Keeps.set1 _ b 2 y2)).trans (Keeps.set1 _ b 3 y3)).trans (Keeps.set1 _ b 4 y4)⟩
def strN (v : Value) : Nat := match v with | .string s => s.size | _ => 0
/-- Where it is: l is left, line k is next. -/
structure ReadAt (w0 wr : World) (R M t : Nat) (F : Nat → Prop) (vc vd vs vi vo va : Value) (t0 l : Tx) (k : Nat) (s : Sst) : Prop where
  rd : RdAt w0 wr R M t F (k : Int) vc vd vs vi vo va s
  run : linesS s k (lns l) = linesS sst0 0 (lns t0)
  cnt : k + (lns l).length = (lns t0).length
  len : l.length ≤ t0.length
  few : k + l.length ≤ t0.length
  ok : OkS s
  least : Least s k
theorem lineS_err {s : Sst} {ws : List Tx} {k : Nat} {x : Int} (h : lineS s ws k = .error x) : x ≠ 0 := by
  have hi : ∀ {v : List Tx} {y : Int}, insS s v = .error y → y ≠ 0 := fun {v y} q => by
    unfold insS at q
    split at q
    · rename_i r; cases q; exact r
    · cases q
  by_cases h1 : wAt ws 0 = wWord
  · rw [(lineS_word h1 : lineS s ws k = _)] at h
    split at h
    · cases h; decide
    · split at h
      · cases h; decide
      · cases h
  by_cases h2 : wAt ws 0 = wSecret
  · rw [(lineS_secret h2 : lineS s ws k = _)] at h
    split at h
    · cases h; decide
    · split at h
      · cases h; decide
      · cases h
  by_cases h3 : wAt ws 0 = wIn
  · rw [lineS_in h3] at h
    split at h
    · cases h; decide
    · split at h
      · cases h
      · cases h; decide
  by_cases h4 : wAt ws 0 = wOut
  · rw [lineS_out h4] at h
    split at h
    · cases h; decide
    · split at h
      · cases h
      · cases h; decide
  cases hg : goesW (wAt ws 0)
  · rw [lineS_other h1 h2 h3 h4 hg] at h
    split at h
    · split at h
      · cases h; decide
      · cases h
    · exact hi h
  · rw [lineS_goes hg] at h
    cases hq : insS s (insW' ws) with
    | error e => rw [hq] at h; cases h; exact hi hq
    | ok s1 =>
      rw [hq] at h
      simp only at h
      split at h
      · split at h
        · cases h
        · cases h; decide
      · cases h
/-- A line's part: left out, or done. -/
def stepS (s : Sst) (a : Tx) (k : Nat) : Except Int Sst := if skipW (wds a) = true then .ok s else lineS s (wds a) k
theorem step_lines (s : Sst) (k : Nat) (a : Tx) (r : List Tx) : linesS s k (a :: r) = match stepS s a k with | .error e => .error (e, k) | .ok s' => linesS s' (k + 1) r := by
  unfold stepS
  rw [linesS]
  by_cases h : skipW (wds a) = true
  · rw [if_pos h, if_pos h]
  · rw [if_neg h, if_neg h]
    cases lineS s (wds a) k <;> rfl
theorem step_err {s : Sst} {a : Tx} {k : Nat} {x : Int} (h : stepS s a k = .error x) : x ≠ 0 := by
  unfold stepS at h
  split at h
  · cases h
  · exact lineS_err h
theorem step_ok {s s' : Sst} {a : Tx} {k n : Nat} (h : stepS s a k = .ok s') (ho : OkS s) (hl : Least s n) : OkS s' ∧ Least s' (n + 1) := by
  unfold stepS at h
  split at h
  · cases h; exact ⟨ho, hl.mono (by omega)⟩
  · exact line_ok h ho hl
theorem souWords_is {w0 w : World} {a : Tx} (hz : w0.heap.size ≤ w.heap.size) (ha : a.length ≤ 500000) :
    Calls Tryz.prog 19 #[.string (txt a)] w fun e w' => ∃ A, e = .returned (.slice (some ⟨A, 0, none⟩) (wds a).length (wds a).length) ∧ WdAt w0 w' A (wds a) ∧ w.heap.size ≤ A ∧ Below w.heap.size w w' := by
  refine (lineWords_is (txt a) w (by rw [txt_size]; omega)).mono ?_
  rintro e w' ⟨A, rfl, hA, hown, hb⟩
  have e : wtx (txt a) = (wds a).map txt := by unfold wtx; rw [txt_list]
  rw [e, List.length_map] at hown ⊢
  refine ⟨A, rfl, ?_, hA, hb⟩
  have h1 : OwnEl strK w' w.heap.size 9 (.slice (some ⟨A, 0, none⟩) (wds a).length (wds a).length) ((wds a).map txt) := by
    unfold OwnEl
    rw [strK_vs, List.length_map]
    exact hown
  exact h1.mono hz
theorem Least.few {s : Sst} {k : Nat} (h : Least s k) (hk : k ≤ 1000000) : Few23 s := ⟨by have := h.ins; omega, by have := h.data; omega, by have := h.sec; omega, by have := h.inn; omega, by have := h.out; omega, by have := h.ds; omega, by have := h.us; omega⟩
set_option maxRecDepth 100000 in
set_option maxHeartbeats 4000000 in
theorem souParse_is (t0 : Tx) (w : World) (ht : t0.length ≤ 500000) (hL : LinLaid w) : Calls Tryz.prog 8 #[.string (txt t0)] w (ParTo w (parS t0)) := by
  have A0 := Lib.hid ((Below.refl w.heap.size w).alloc (Nat.le_refl _) (.cells #[.slice none 0 0, .slice none 0 0, .slice none 0 0, .slice none 0 0, .slice none 0 0] 27))
  have Q0 := Lib.hid (BlkAt.new w 27 #[.slice none 0 0, .slice none 0 0, .slice none 0 0, .slice none 0 0, .slice none 0 0])
  have HL := Lib.hid (hL.below A0.out (Nat.le_refl _))
  have HT := Lib.hid ht
  clear hL ht
  go_enter Tryz.func8, Tryz.ntmps8
  go_wp2_with (go_at_call 16; ((with_reducible refine (souNew_is _).mono ?_); rintro e w1 ⟨R, M, t, F, rfl, hR⟩); have HR := Lib.hid hR; clear hR)
  obtain ⟨V, hV⟩ : ∃ V, w.alloc (.cells #[.slice none 0 0, .slice none 0 0, .slice none 0 0, .slice none 0 0, .slice none 0 0] 27) = V := ⟨_, rfl⟩
  obtain ⟨qb, hq⟩ : ∃ qb, w.heap.size = qb := ⟨_, rfl⟩
  have HQ := Lib.hid (show w.heap.size ≤ qb from Nat.le_of_eq hq)
  rw [hV] at A0 Q0 HL HR
  simp only [hq] at Q0 ⊢
  clear hV
  go_loopw [6] (fun v wr => ∃ (l : Tx) (k : Nat) (s : Sst) (F : Nat → Prop) (vc vd vs vi vo va : Value), v = .string (txt l) ∧ ReadAt V wr R M t F vc vd vs vi vo va t0 l k s) (fun v _ => strN v)
  case atStart => exact ⟨t0, 0, sst0, F, _, _, _, _, _, _, rfl, ⟨HR.out, rfl, Nat.zero_add _, Nat.le_refl _, by omega, OkS.start, Least.start⟩⟩
  case round =>
    obtain ⟨l, k, s, F, vc, vd, vs, vi, vo, va, rfl, hA⟩ := hrel
    have HA := Lib.hid hA
    have hlen := hA.len
    have hfw := hA.few
    have h5 := HT.out
    have hfew := Lib.hid (hA.least.few (by omega))
    have hqR : ¬ (R = qb) := by have := hA.rd.lr; have := Q0.out.lt; omega
    have hqR' : ¬ (qb = R) := fun e => hqR e.symm
    by_cases hl : l = []
    · subst hl
      have hse := str_none (a := txt []) rfl
      have hse2 : ((txt []).toList == []) = true := by rw [show txt [] = ⟨#[]⟩ from rfl, ByteArray.toList_eq]; rfl
      have hrun := hA.run
      have hcnt := hA.cnt
      rw [lns_nil] at hrun hcnt
      rw [List.length_nil, Nat.add_zero] at hcnt
      rw [linesS] at hrun
      have HPL := Lib.hid (souPlace_is hA.rd hA.ok HL.out hfew.out fun u hu => by have := (name_size (hA.ok.nm u hu)).2; unfold maxLen; omega)
      have hpar : parS t0 = match fixS s.ds s.us s.ins with
        | .error n => (10, n, img0)
        | .ok L => if chkI ⟨L.map encQ, s.data, s.sec, s.inn, s.out⟩ ≠ 0 then (chkI ⟨L.map encQ, s.data, s.sec, s.inn, s.out⟩, k, img0) else (0, k, ⟨L.map encQ, s.data, s.sec, s.inn, s.out⟩) := by
        unfold parS
        rw [← hrun, ← hcnt]
        rfl
      cases hr : fixS s.ds s.us s.ins with
      | error ln =>
        rw [hr] at HPL hpar
        have HPAR := Lib.hid hpar
        clear hA hrun hcnt hpar hr
        go_wp2_with (go_at_call 20; ((with_reducible refine (HPL.out).mono ?_); rintro e w4 ⟨rfl, h4⟩); have H4 := Lib.hid h4; clear h4; have QW := Lib.hid (Q0.out.keep H4.out); have z0 := QW.out.cell 0; have z1 := QW.out.cell 1; have z2 := QW.out.cell 2; have z3 := QW.out.cell 3; have z4 := QW.out.cell 4; have f0 := QW.out.free 0; have f1 := QW.out.free 1; have f2 := QW.out.free 2; have f3 := QW.out.free 3; have f4 := QW.out.free 4)
        rw [HPAR.out]
        have hP := put5 QW.out (A0.out.trans (H4.out.mono A0.out.size)) HQ.out (.slice none 0 0) (.slice none 0 0) (.slice none 0 0) (.slice none 0 0) (.slice none 0 0)
        generalize (((((w4.setCell ⟨qb, 0, none⟩ (.slice none 0 0)).setCell ⟨qb, 1, none⟩ (.slice none 0 0)).setCell ⟨qb, 2, none⟩ (.slice none 0 0)).setCell ⟨qb, 3, none⟩ (.slice none 0 0)).setCell ⟨qb, 4, none⟩ (.slice none 0 0)) = W5 at hP ⊢
        obtain ⟨⟨p0, p1, p2, p3, p4⟩, pb, -⟩ := hP
        exact bodyPost_ret (v := .tuple #[.agg #[.slice none 0 0, .slice none 0 0, .slice none 0 0, .slice none 0 0, .slice none 0 0], .int .i64 (ln : Int), .int .i64 10]) (by simp [results, Tryz.results8, go_sem, p0, p1, p2, p3, p4]) rfl (ParTo.nought pb)
      | ok L =>
        rw [hr] at HPL hpar
        simp only at hpar
        obtain ⟨z, hz⟩ : ∃ z, chkI ⟨L.map encQ, s.data, s.sec, s.inn, s.out⟩ = z := ⟨_, rfl⟩
        rw [hz] at hpar
        have HPAR := Lib.hid hpar
        have HZ := Lib.hid hz
        clear hA hrun hcnt hpar hr hz
        by_cases hz0 : z = 0
        · subst hz0
          go_wp2_with (first
            | (go_at_call 20; ((with_reducible refine (HPL.out).mono ?_); rintro e w4 ⟨⟨x, rfl⟩, h4⟩); obtain ⟨a0, n0, c0, a1, n1, c1, a2, n2, c2, a3, n3, c3, a4, n4, c4, ⟨rfl, rfl, rfl, rfl, rfl⟩, im⟩ := h4.img (Keeps.refl (fun _ => False) w4) (fun _ _ q => q); have H4 := Lib.hid h4; have IM := Lib.hid im; have r2 := h4.blk.cell 2; have r3 := h4.blk.cell 3; have r4 := h4.blk.cell 4; have r5 := h4.blk.cell 5; have r6 := h4.blk.cell 6; clear h4 im)
            | (go_at_call 21; ((with_reducible refine (imgCheck_is IM.out).mono ?_); rintro e w5 ⟨rfl, hb⟩); rw [show chkI (imgS { s with ins := L }) = 0 from HZ.out]; have H5 := Lib.hid (H4.out.keep hb); have QW := Lib.hid (Q0.out.keep H5.out.bel); have z0 := QW.out.cell 0; have z1 := QW.out.cell 1; have z2 := QW.out.cell 2; have z3 := QW.out.cell 3; have z4 := QW.out.cell 4; have f0 := QW.out.free 0; have f1 := QW.out.free 1; have f2 := QW.out.free 2; have f3 := QW.out.free 3; have f4 := QW.out.free 4; have s1 := H5.out.blk.cell 1; have s2 := H5.out.blk.cell 2; have s3 := H5.out.blk.cell 3; have s4 := H5.out.blk.cell 4; have s5 := H5.out.blk.cell 5; have s6 := H5.out.blk.cell 6; clear hb r2 r3 r4 r5 r6))
          go_region
          go_wp2
          rw [HPAR.out]
          have hP := (put5 QW.out (A0.out.trans (H5.out.bel.mono A0.out.size)) HQ.out (.slice a0 n0 c0) (.slice a1 n1 c1) (.slice a2 n2 c2) (.slice a3 n3 c3) (.slice a4 n4 c4)).drew
          generalize (((((w5.setCell ⟨qb, 0, none⟩ (.slice a0 n0 c0)).setCell ⟨qb, 1, none⟩ (.slice a1 n1 c1)).setCell ⟨qb, 2, none⟩ (.slice a2 n2 c2)).setCell ⟨qb, 3, none⟩ (.slice a3 n3 c3)).setCell ⟨qb, 4, none⟩ (.slice a4 n4 c4)).drew = W5 at hP ⊢
          obtain ⟨⟨p0, p1, p2, p3, p4⟩, pb, pk⟩ := hP
          obtain ⟨b0, m0, d0, b1, m1, d1, b2, m2, d2, b3, m3, d3, b4, m4, d4, ⟨g0, g1, g2, g3, g4⟩, im⟩ := H5.out.img pk fun j hj e => by have := Q0.out.lt; omega
          cases g0; cases g1; cases g2; cases g3; cases g4
          rw [if_neg (fun q => q rfl)]
          exact bodyPost_ret (v := .tuple #[.agg #[.slice a0 n0 c0, .slice a1 n1 c1, .slice a2 n2 c2, .slice a3 n3 c3, .slice a4 n4 c4], .int .i64 (k : Int), .int .i64 0]) (by simp [results, Tryz.results8, go_sem, p0, p1, p2, p3, p4]) rfl ⟨_, _, _, _, _, _, _, _, _, _, _, _, _, _, _, rfl, im, pb⟩
        · have hzb : (z == 0) = false := by simpa using hz0
          rw [if_pos hz0] at HPAR
          go_wp2_with (first
            | (go_at_call 20; ((with_reducible refine (HPL.out).mono ?_); rintro e w4 ⟨⟨x, rfl⟩, h4⟩); obtain ⟨a0, n0, c0, a1, n1, c1, a2, n2, c2, a3, n3, c3, a4, n4, c4, ⟨rfl, rfl, rfl, rfl, rfl⟩, im⟩ := h4.img (Keeps.refl (fun _ => False) w4) (fun _ _ q => q); have H4 := Lib.hid h4; have IM := Lib.hid im; have r2 := h4.blk.cell 2; have r3 := h4.blk.cell 3; have r4 := h4.blk.cell 4; have r5 := h4.blk.cell 5; have r6 := h4.blk.cell 6; clear h4 im)
            | (go_at_call 21; ((with_reducible refine (imgCheck_is IM.out).mono ?_); rintro e w5 ⟨rfl, hb⟩); rw [show chkI (imgS { s with ins := L }) = z from HZ.out]; have H5 := Lib.hid (H4.out.keep hb); have QW := Lib.hid (Q0.out.keep H5.out.bel); have z0 := QW.out.cell 0; have z1 := QW.out.cell 1; have z2 := QW.out.cell 2; have z3 := QW.out.cell 3; have z4 := QW.out.cell 4; have f0 := QW.out.free 0; have f1 := QW.out.free 1; have f2 := QW.out.free 2; have f3 := QW.out.free 3; have f4 := QW.out.free 4; have s1 := H5.out.blk.cell 1; clear hb r2 r3 r4 r5 r6))
          go_region
          go_wp2
          rw [HPAR.out]
          have hP := (put5 QW.out (A0.out.trans (H5.out.bel.mono A0.out.size)) HQ.out (.slice none 0 0) (.slice none 0 0) (.slice none 0 0) (.slice none 0 0) (.slice none 0 0)).drew
          generalize (((((w5.setCell ⟨qb, 0, none⟩ (.slice none 0 0)).setCell ⟨qb, 1, none⟩ (.slice none 0 0)).setCell ⟨qb, 2, none⟩ (.slice none 0 0)).setCell ⟨qb, 3, none⟩ (.slice none 0 0)).setCell ⟨qb, 4, none⟩ (.slice none 0 0)).drew = W5 at hP ⊢
          obtain ⟨⟨p0, p1, p2, p3, p4⟩, pb, -⟩ := hP
          exact bodyPost_ret (v := .tuple #[.agg #[.slice none 0 0, .slice none 0 0, .slice none 0 0, .slice none 0 0, .slice none 0 0], .int .i64 (k : Int), .int .i64 z]) (by simp [results, Tryz.results8, go_sem, p0, p1, p2, p3, p4]) rfl (ParTo.nought pb)
    · obtain ⟨a, b, hca, hcb, hln, hab, hbl⟩ := cut_line hl
      have hse := str_some (a := txt l) (fun e => hl (txt_inj e))
      have hC := fun W => cut_is (txt l) 10 W (by rw [txt_size]; omega)
      rw [hca, hcb] at hC
      have HC := Lib.hid hC
      have hrun := hA.run
      have hcnt := hA.cnt
      rw [hln, step_lines] at hrun
      rw [hln, List.length_cons] at hcnt
      have HW := Lib.hid (fun W (q : Below wr.heap.size wr W) => souWords_is (w0 := V) (w := W) (a := a) (Nat.le_trans hA.rd.sz q.size) (by omega))
      have HK := Lib.hid (fun W A (q : Below wr.heap.size wr W) (hW : WdAt V W A (wds a)) (hz : wr.heap.size ≤ A) => souTake_is (hA.rd.keep q) hW (fun f => by have := (hA.rd.lab.low _ f).2; omega) (fun e => by have := hA.rd.map.lt; omega) HL.out (show a.length ≤ 500000 by omega) hfew.out)
      change Hid (∀ W A, Below wr.heap.size wr W → WdAt V W A (wds a) → wr.heap.size ≤ A → Calls Tryz.prog 18 #[.pointer (some ⟨R, 0, none⟩), .slice (some ⟨A, 0, none⟩) (wds a).length (wds a).length] W (TakeTo V R M t (k : Int) (stepS s a k))) at HK
      have HST := Lib.hid (fun s' (q : stepS s a k = .ok s') => step_ok q hA.ok hA.least)
      have HER := Lib.hid (fun x (q : stepS s a k = .error x) => step_err q)
      cases hr : stepS s a k with
      | error x =>
        have hx := HER.out x hr
        have hx' : (x == 0) = false := by simpa using hx
        rw [hr] at hrun
        simp only at hrun
        simp only [hr] at HK
        have hpar : parS t0 = (x, k, img0) := by unfold parS; rw [← hrun]
        rw [hpar]
        clear hA hrun hcnt hln hca hcb hab hl hC hbl hpar hx
        go_wp2_with (first
          | (go_at_call 17; ((refine (HC.out _).mono ?_); rintro e w2 ⟨rfl, m, rfl⟩))
          | (go_at_call 19; ((with_reducible refine (HW.out _ (below_drewN (Below.refl _ _) _)).mono ?_); rintro e w3 ⟨A, rfl, hW, hz, hb⟩); have HWD := Lib.hid hW; have HZ := Lib.hid (show wr.heap.size ≤ A from hz); have HB3 := Lib.hid ((below_drewN (Below.refl wr.heap.size wr) m).trans hb); clear hW hz hb)
          | (go_at_call 18; ((with_reducible refine (HK.out _ _ HB3.out HWD.out HZ.out).mono ?_); rintro e w4 ⟨rfl, c1, h4⟩); have H4 := Lib.hid h4; clear h4))
        have QW := Lib.hid (Q0.out.keep H4.out)
        have BW := Lib.hid (A0.out.trans ((H4.out.drew).mono A0.out.size))
        have z0 := QW.out.cell 0; have z1 := QW.out.cell 1; have z2 := QW.out.cell 2; have z3 := QW.out.cell 3; have z4 := QW.out.cell 4
        have f0 := QW.out.free 0; have f1 := QW.out.free 1; have f2 := QW.out.free 2; have f3 := QW.out.free 3; have f4 := QW.out.free 4
        go_region
        go_wp2
        have hP := (put5 QW.out (A0.out.trans (H4.out.mono A0.out.size)) HQ.out (.slice none 0 0) (.slice none 0 0) (.slice none 0 0) (.slice none 0 0) (.slice none 0 0)).drew
        generalize (((((w4.setCell ⟨qb, 0, none⟩ (.slice none 0 0)).setCell ⟨qb, 1, none⟩ (.slice none 0 0)).setCell ⟨qb, 2, none⟩ (.slice none 0 0)).setCell ⟨qb, 3, none⟩ (.slice none 0 0)).setCell ⟨qb, 4, none⟩ (.slice none 0 0)).drew = W5 at hP ⊢
        obtain ⟨⟨p0, p1, p2, p3, p4⟩, pb, -⟩ := hP
        exact bodyPost_ret (v := .tuple #[.agg #[.slice none 0 0, .slice none 0 0, .slice none 0 0, .slice none 0 0, .slice none 0 0], .int .i64 (k : Int), .int .i64 x]) (by simp [results, Tryz.results8, go_sem, p0, p1, p2, p3, p4]) rfl (ParTo.nought pb)
      | ok s' =>
        rw [hr] at hrun
        simp only at hrun
        simp only [hr] at HK
        have HRUN := Lib.hid hrun
        have HN := Lib.hid (show k + 1 + (lns b).length = (lns t0).length by omega)
        have HB := Lib.hid (show k + 1 + b.length ≤ t0.length by omega)
        have HB2 := Lib.hid (show b.length < l.length from hbl)
        have hw1 : IntKind.i64.wrap ((k : Int) + 1) = ((k + 1 : Nat) : Int) := by rw [i64_in _ (by omega)]; omega
        clear hA hrun hcnt hln hca hcb hab hl hC
        go_wp2_with (first
          | (go_at_call 17; ((refine (HC.out _).mono ?_); rintro e w2 ⟨rfl, m, rfl⟩))
          | (go_at_call 19; ((with_reducible refine (HW.out _ (below_drewN (Below.refl _ _) _)).mono ?_); rintro e w3 ⟨A, rfl, hW, hz, hb⟩); have HWD := Lib.hid hW; have HZ := Lib.hid (show wr.heap.size ≤ A from hz); have HB3 := Lib.hid ((below_drewN (Below.refl wr.heap.size wr) m).trans hb); clear hW hz hb)
          | (go_at_call 18; ((with_reducible refine (HK.out _ _ HB3.out HWD.out HZ.out).mono ?_); rintro e w4 ⟨F', vc', vd', vs', vi', vo', va', rfl, h4⟩); have H4 := Lib.hid h4; have c1 : w4.cell? ⟨R, 1, none⟩ = some (.int .i64 (k : Int)) := h4.blk.cell 1; have f1 := h4.blk.free 1; clear h4))
        go_round
        case rel =>
          refine ⟨b, k + 1, s', F', vc', vd', vs', vi', vo', va', rfl, ⟨?_, HRUN.out, HN.out, ?_, HB.out, (HST.out s' hr).1, (HST.out s' hr).2⟩⟩
          · exact H4.out.line _
          · have := HB2.out; omega
        case measure => simp only [strN, txt_size]; exact HB2.out
end

section
open Go.RowKit Go.Maps Go.IntWalk

def exP : Tx := [97, 58, 10, 106, 117, 109, 112, 32, 64, 97, 10]
def exQ : Tx := [119, 111, 114, 100, 32, 49, 10, 98, 101, 113, 32, 114, 49, 32, 114, 50, 32, 64, 98, 10, 106, 117, 109, 112, 32, 64, 98]
theorem exP_is : (parS exP).1 = 0 ∧ (parS exP).2.1 = 2 ∧ (parS exP).2.2.code = [2617245696] := by decide +kernel
theorem exQ_is : (parS exQ).1 = 10 ∧ (parS exQ).2.1 = 1 := by decide +kernel
set_option maxRecDepth 100000 in
set_option maxHeartbeats 2000000 in
theorem souAwake_is (w : World) (hL : LinLaid w) : Calls Tryz.prog 7 #[] w fun e w' => e = .returned (.bool true) ∧ Below w.heap.size w w' := by
  have KP := Lib.hid (souParse_is exP w (by decide) hL)
  have KQ := Lib.hid (fun W (k : Below w.heap.size w W) => souParse_is exQ W (by decide) (hL.below k (Nat.le_refl _)))
  obtain ⟨p1, p2, p3⟩ := exP_is
  obtain ⟨q1, q2⟩ := exQ_is
  obtain ⟨rp, hrp⟩ : ∃ r, parS exP = r := ⟨_, rfl⟩
  obtain ⟨rq, hrq⟩ : ∃ r, parS exQ = r := ⟨_, rfl⟩
  rw [hrp] at KP p1 p2 p3
  rw [hrq] at KQ q1 q2
  obtain ⟨x, k, m⟩ := rp
  obtain ⟨y, kq, mq⟩ := rq
  simp only at p1 p2 p3 q1 q2
  subst p1; subst p2; subst q1; subst q2
  rw [show txt exP = ⟨#[97, 58, 10, 106, 117, 109, 112, 32, 64, 97, 10]⟩ from rfl] at KP
  rw [show txt exQ = ⟨#[119, 111, 114, 100, 32, 49, 10, 98, 101, 113, 32, 114, 49, 32, 114, 50, 32, 64, 98, 10, 106, 117, 109, 112, 32, 64, 98]⟩ from rfl] at KQ
  have HP3 := Lib.hid p3
  clear hL hrp hrq p3
  go_enter Tryz.func7, Tryz.ntmps7
  go_wp2_with (first
    | (go_at_call 8; ((with_reducible refine (KP.out).mono ?_); rintro e w4 ⟨a0', n0', c0', a1', n1', c1', a2', n2', c2', a3', n3', c3', a4', n4', c4', rfl, im, hb⟩); have hal := (Below.refl w4.heap.size w4).alloc (Nat.le_refl _) (.cells #[.slice a0' n0' c0', .slice a1' n1' c1', .slice a2' n2' c2', .slice a3' n3' c3', .slice a4' n4' c4'] 27); have B4 := Lib.hid (hb.trans (hal.mono hb.size)); have I4 := Lib.hid (im.keep hal); have Z4 := Lib.hid (BlkAt.new w4 27 #[.slice a0' n0' c0', .slice a1' n1' c1', .slice a2' n2' c2', .slice a3' n3' c3', .slice a4' n4' c4']); clear im hb hal)
    | (go_at_call 8; ((with_reducible refine (KQ.out _ B4.out).mono ?_); rintro e w5 ⟨d0', k0', e0', d1', k1', e1', d2', k2', e2', d3', k3', e3', d4', k4', e4', rfl, im, hb⟩); have hal := (Below.refl w5.heap.size w5).alloc (Nat.le_refl _) (.cells #[.slice d0' k0' e0', .slice d1' k1' e1', .slice d2' k2' e2', .slice d3' k3' e3', .slice d4' k4' e4'] 27); have B5 := Lib.hid (B4.out.trans ((hb.trans (hal.mono hb.size)).mono B4.out.size)); have I5 := Lib.hid ((I4.out.keep hb).keep hal); have Z5 := (Z4.out.keep hb).keep hal; have z0 := Z5.cell 0; have hlen := I5.out.code.len; rw [HP3.out] at hlen; simp only [List.length_cons, List.length_nil] at hlen; subst hlen; obtain ⟨bb, ob, rfl, hc⟩ := I5.out.code.lie (by decide); have y9 := hc 0 (by decide); rw [HP3.out, Nat.add_zero, show byAt [2617245696] 0 = 2617245696 from rfl] at y9; clear im hb hal Z5 hc))
  go_ret
  exact ⟨rfl, B5.out⟩
end

end Go.Proofs.YtekhgidbnpfmnaaGreatDoor
