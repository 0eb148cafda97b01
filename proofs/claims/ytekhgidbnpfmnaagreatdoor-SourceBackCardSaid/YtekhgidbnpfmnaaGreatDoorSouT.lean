/- Package source's reader: where instructions go that go to names; a new reader. -/
import Derived.Test.YtekhgidbnpfmnaaGreatDoorSouH
import Derived.Test.YtekhgidbnpfmnaaGreatDoorSouP
import Derived.Test.YtekhgidbnpfmnaaGreatDoorFree
namespace Go.Proofs.YtekhgidbnpfmnaaGreatDoor
open Go.RowKit

section
open Go.RowKit Go.Maps Go.IntWalk

set_option maxRecDepth 100000 in
set_option maxHeartbeats 2000000 in
theorem souGoing_is (q : Q5) (tn : Int) (w : World) (hq : chkQ q = 0) (hL : ShapesLaid w) :
    Calls Tryz.prog 49 #[.int .u32 (encQ q), .int .i64 tn] w fun e w' => e = .returned (.int .u32 (encQ (setN tn q))) ∧ Below w.heap.size w w' := by
  obtain ⟨h1, h2, h3, h4, h5⟩ := encQ_back hq
  obtain ⟨b0, b1⟩ := encQ_bd q
  obtain ⟨o, d, a, b, n⟩ := q
  simp only at h1 h2 h3 h4
  obtain ⟨m, hm⟩ : ∃ m, cG (encQ (o, d, a, b, n)) 3 = m := ⟨_, rfl⟩
  have CD := Lib.hid (codeDecode_to h1 h2 h3 h4 hm h5 hL b0 b1)
  obtain ⟨v, hv⟩ : ∃ v, cEnc o d a b tn = v := ⟨_, rfl⟩
  obtain ⟨z, hz⟩ : ∃ z, cChk o d a b tn = z := ⟨_, rfl⟩
  have CE := Lib.hid (fun w' (q : ShapesLaid w') => codeEncode_is o d a b tn v z w' q hz hv)
  have e : encQ (setN tn (o, d, a, b, n)) = v := hv
  rw [e]
  have HL := Lib.hid hL
  generalize encQ (o, d, a, b, n) = x at *
  clear h1 h2 h3 h4 h5 b0 b1 hq hm hv hz hL e
  go_enter Tryz.func49, Tryz.ntmps49
  go_wp2_with (first
    | (go_at_call 61; ((with_reducible refine (CD.out).mono ?_); rintro e w1 ⟨rfl, hk⟩); have HJ := Lib.hid (InsW.new w w1 o d a b tn 68 hk hk.size); have c0 := HJ.out.c0; have c1 := HJ.out.c1; have c2 := HJ.out.c2; have c3 := HJ.out.c3; have c5 := HJ.out.c4; clear hk)
    | (go_at_call 81; ((with_reducible refine (CE.out _ (HL.out.below HJ.out.below HL.out.lt)).mono ?_); rintro e w3 ⟨rfl, hk⟩); have H3 := Lib.hid (HJ.out.keep hk); clear hk))
  go_ret
  exact ⟨rfl, H3.out.below⟩
end

section
open Go.RowKit Go.Maps Go.IntWalk

section
variable {w0 w : World} {R M t : Nat} {F : Nat → Prop} {n : Int} {vc vd vs vi vo va : Value} {s : Sst}
theorem OwnEl.els {α : Type} [Inhabited α] {K : Kd α} {w : World} {base m c : Nat} {a : Option Addr} {e : TypeId} {l : List α} (h : OwnEl K w base e (.slice a m c) l) : m = l.length ∧ ElAt K w a l.length c l := by
  obtain ⟨a', c', e, h⟩ := h.at
  cases e
  exact ⟨rfl, h⟩
theorem enc_el {L : List Q5} {i : Nat} {q : Q5} (h : L[i]? = some q) : i < L.length ∧ el (L.map encQ) i = encQ q := by
  obtain ⟨hl, e⟩ := List.getElem?_eq_some_iff.1 h
  refine ⟨hl, ?_⟩
  unfold el
  rw [List.getD_eq_getElem?_getD, List.getElem?_map, h]
  rfl
/-- One of its words is another. -/
theorem RdAt.word {L : List Q5} {C m cap : Nat} (h : RdAt w0 w R M t F n (.slice (some ⟨C, 0, none⟩) m cap) vd vs vi vo va { s with ins := L }) {i : Nat} {q : Q5} (hq : L[i]? = some q) (f : Q5 → Q5) :
    RdAt w0 (w.setCell ⟨C, i, none⟩ (.int .u32 (encQ (f q)))) R M t F n (.slice (some ⟨C, 0, none⟩) m cap) vd vs vi vo va { s with ins := L.modify i f } := by
  have k := Keeps.set1 w C i (.int .u32 (encQ (f q)))
  have hc : OwnEl (numK .u32) w w0.heap.size 41 (.slice (some ⟨C, 0, none⟩) m cap) (L.map encQ) := h.code
  have hx : (Value.slice (some ⟨C, 0, none⟩) m cap).ownBlock = some C := rfl
  have hm := hc.els.1
  obtain ⟨hl, he⟩ := enc_el hq
  have hcode := OwnEl.set hc hm.symm (i := i) (j := 0) (by rw [hm, List.length_map]; exact hl) (by decide) (x := encQ (f q)) (u := .int .u32 (encQ (f q))) rfl
  rw [← modify_enc hq f] at hcode
  have hcode' : OwnEl (numK .u32) (w.setCell ⟨C, i, none⟩ (.int .u32 (encQ (f q)))) w0.heap.size 41 (.slice (some ⟨C, 0, none⟩) m cap) ((L.modify i f).map encQ) := by
    have e : i * (numK .u32).k + 0 = i := by show i * 1 + 0 = i; omega
    rw [e] at hcode
    exact hcode
  exact ⟨h.blk.kept k fun e => own_off_type hc h.blk (by decide) (e ▸ hx), h.map.kept k fun e => h.om _ (by simp) (e ▸ hx), hcode', h.data.kept k fun j q e => own_two h.data hc (by decide) j q (e ▸ hx), h.sec.kept k fun j q e => own_two h.sec hc (by decide) j q (e ▸ hx), h.inn.kept k fun j q e => own_two h.inn hc (by decide) j q (e ▸ hx), h.out.kept k fun j q e => own_two h.out hc (by decide) j q (e ▸ hx), h.aims.kept k fun j q e => own_two h.aims hc (by decide) j q (e ▸ hx), h.io, h.lab.kept k fun j q e => h.fo _ (by simp) C hx (e ▸ q), h.fr, h.fm, h.fo, h.om, h.rm, h.lr, h.lm, k.below h.bel h.sz fun j e => e ▸ (hc.lt C hx).1⟩
/-- What place leaves: the line of a name that has none, or the reader. -/
def PlaTo (w0 : World) (R M t : Nat) (F : Nat → Prop) (n : Int) (vc vd vs vi vo va : Value) (s : Sst) (r : Except Nat (List Q5)) (e : Ending) (w' : World) : Prop :=
  match r with
  | .error k => e = .returned (.tuple #[.int .i64 (k : Int), .bool false]) ∧ Below w0.heap.size w0 w'
  | .ok L => (∃ x : Int, e = .returned (.tuple #[.int .i64 x, .bool true])) ∧ RdAt w0 w' R M t F n vc vd vs vi vo va { s with ins := L }
/-- Where it is. -/
structure PlaAt (w0 wr : World) (R M t : Nat) (F : Nat → Prop) (n : Int) (vc vd vs vi vo va : Value) (s : Sst) (j : Nat) (L : List Q5) : Prop where
  rd : RdAt w0 wr R M t F n vc vd vs vi vo va { s with ins := L }
  ok : OkU L (s.us.drop j)
  fix : fixS s.ds (s.us.drop j) L = fixS s.ds s.us s.ins
end
end

section
open Go.RowKit Go.Maps Go.IntWalk

section
variable {w0 w : World} {R M t : Nat} {F : Nat → Prop} {n : Int} {vc vd vs vi vo va : Value} {s : Sst}
set_option maxRecDepth 100000 in
set_option maxHeartbeats 4000000 in
theorem souPlace_is (h : RdAt w0 w R M t F n vc vd vs vi vo va s) (ho : OkS s) (hL : LinLaid w0) (hf : Few23 s) (hnm : ∀ u ∈ s.us, u.1.size ≤ maxLen) :
    Calls Tryz.prog 20 #[.pointer (some ⟨R, 0, none⟩)] w (PlaTo w0 R M t F n vc vd vs vi vo va s (fixS s.ds s.us s.ins)) := by
  obtain ⟨ai, ac, eva, -⟩ := h.aims.at
  subst eva
  obtain ⟨a0, c0, evc, -⟩ := h.code.at
  subst evc
  have H := Lib.hid h
  have HL := Lib.hid hL
  have HO := Lib.hid ho
  have HNM := Lib.hid hnm
  have k8 : w.cell? ⟨R, 8, none⟩ = some (.slice ai s.us.length ac) := h.blk.cell 8
  have hus := hf.us
  have hinl : (List.map encQ s.ins).length ≤ 1000000 := by rw [List.length_map]; exact hf.ins
  obtain ⟨N, hN⟩ : ∃ N, s.us.length = N := ⟨_, rfl⟩
  obtain ⟨m, hm⟩ : ∃ m, (List.map encQ s.ins).length = m := ⟨_, rfl⟩
  rw [hm] at H hinl ⊢
  rw [hN] at H k8 hus ⊢
  have HN := Lib.hid hN
  clear h ho hL hf hnm hN hm
  go_enter Tryz.func20, Tryz.ntmps20
  go_wp2
  go_loopw [13] (fun i wr => ∃ (j : Nat) (L : List Q5), j ≤ N ∧ i = .int .i64 j ∧ PlaAt w0 wr R M t F n (.slice a0 m c0) vd vs vi vo (.slice ai N ac) s j L) (fun i _ => N - (intOf i).toNat)
  case atStart => exact ⟨0, s.ins, Nat.zero_le _, rfl, ⟨H.out, HO.out.oku, rfl⟩⟩
  case round =>
    obtain ⟨j, L, hj, rfl, hP⟩ := hrel
    have HP := Lib.hid hP
    by_cases hlt : j < N
    · have hlt' : (j : Int) < N := by omega
      have hjl : j < s.us.length := by rw [HN.out]; exact hlt
      have hel := (OwnEl.els hP.rd.aims).2
      obtain ⟨bx, ox, rfl, hc⟩ := hel.two (i := j) hjl
      have hdr : s.us.drop j = s.us[j] :: s.us.drop (j + 1) := List.drop_eq_getElem_cons hjl
      have hem : el s.us j = s.us[j] := (el_eq hjl).symm
      rw [hem] at hc
      have hmem : s.us[j] ∈ s.us := List.getElem_mem hjl
      have hok := hP.ok
      have hfx := hP.fix
      rw [hdr] at hok hfx
      have hsz := HNM.out _ hmem
      generalize s.us[j] = u at *
      obtain ⟨nm, ln, ix⟩ := u
      simp only at hsz
      have p0 : _ = some (Value.string nm) := hc 0 (by decide)
      have p1 : _ = some (Value.int .i64 (ln : Int)) := hc 1 (by decide)
      have p2 : _ = some (Value.int .i64 (ix : Int)) := hc 2 (by decide)
      simp only [show aimK.k = 3 from rfl, Nat.add_zero] at p0 p1 p2
      clear hc hel hdr hem hmem
      have AL := Lib.hid ((Below.refl wr.heap.size wr).alloc (Nat.le_refl _) (.cells #[.string nm, .int .i64 (ln : Int), .int .i64 (ix : Int)] 100))
      have HR := Lib.hid (hP.rd.keep AL.out)
      have BX := Lib.hid (BlkAt.new wr 100 #[.string nm, .int .i64 (ln : Int), .int .i64 (ix : Int)])
      clear hP
      go_wp2
      obtain ⟨X, hX⟩ : ∃ X, wr.heap.size = X := ⟨_, rfl⟩
      obtain ⟨W, hW⟩ : ∃ W, wr.alloc (.cells #[.string nm, .int .i64 (ln : Int), .int .i64 (ix : Int)] 100) = W := ⟨_, rfl⟩
      rw [hW] at HR BX AL ⊢
      simp only [hX] at BX AL ⊢
      have d7 : W.cell? ⟨R, 7, none⟩ = some (.pointer (some ⟨t, 0, none⟩)) := HR.out.blk.cell 7
      have x0 : W.cell? ⟨X, 0, none⟩ = some (.string nm) := BX.out.cell 0
      have x1 : W.cell? ⟨X, 1, none⟩ = some (.int .i64 (ln : Int)) := BX.out.cell 1
      have CP := Lib.hid (fun k => labPlace_is w0.heap.size t s.ds [] F nm (W.drewN k) ((HR.out.keep (below_drewN (Below.refl _ _) _)).lab) hsz)
      clear p0 p1 p2 hW hX
      cases hb : plB s.ds nm
      · simp only [hb] at CP
        go_quiet ((go_at_call 48; exact quiet_here (CP.out _)))
        have HR1 := Lib.hid (HR.out.keep (below_drewN (Below.refl W.heap.size W) nq))
        have BX1 := Lib.hid (BX.out.keep (below_drewN (Below.refl W.heap.size W) nq))
        generalize W.drewN nq = W1 at HR1 BX1 ⊢
        have y1 : W1.cell? ⟨X, 1, none⟩ = some (.int .i64 (ln : Int)) := BX1.out.cell 1
        go_wp2
        go_ret2
        rw [fix_cons, hb] at hfx
        rw [← hfx]
        exact ⟨rfl, HR1.out.bel⟩
      · simp only [hb] at CP
        obtain ⟨z, hz⟩ : ∃ z, plV s.ds nm = z := ⟨_, rfl⟩
        simp only [hz] at CP
        go_quiet ((go_at_call 48; exact quiet_here (CP.out _)))
        have HR1 := Lib.hid (HR.out.keep (below_drewN (Below.refl W.heap.size W) nq))
        have BX1 := Lib.hid (BX.out.keep (below_drewN (Below.refl W.heap.size W) nq))
        generalize W.drewN nq = W1 at HR1 BX1 ⊢
        have y1 : W1.cell? ⟨X, 1, none⟩ = some (.int .i64 (ln : Int)) := BX1.out.cell 1
        go_upto_region 7 with fail
        obtain ⟨q, hq, hqc⟩ := hok.ok _ (.head _)
        simp only at hq
        have HOK := Lib.hid (hok.next (setN z))
        rw [fix_cons, hb, if_pos rfl] at hfx
        simp only [hz] at hfx
        have HFX := Lib.hid hfx
        have hcode : OwnEl (numK .u32) W1 w0.heap.size 41 (.slice a0 m c0) (L.map encQ) := HR1.out.code
        obtain ⟨hixl, hex⟩ := enc_el hq
        have hml := hcode.els.1
        have hixm : ix < m := by rw [hml, List.length_map]; exact hixl
        have hixm' : (ix : Int) < m := by omega
        obtain ⟨C, cap, ea, -⟩ := hcode.form hml.symm (by omega)
        cases ea
        have H0 := Lib.hid (HR1.out.keep ((Below.refl W1.heap.size W1).drew))
        have BX0 := Lib.hid (BX1.out.keep ((Below.refl W1.heap.size W1).drew))
        have HCW := Lib.hid (fun w1 (hb : Below W1.drew.heap.size W1.drew w1) => show w1.cell? ⟨C, ix, none⟩ = some (.int .u32 (encQ q)) by
          have hc : OwnEl (numK .u32) w1 w0.heap.size 41 (.slice (some ⟨C, 0, none⟩) m c0) (L.map encQ) := (H0.out.keep hb).code
          have := OwnEl.cell hc hml.symm (i := ix) (j := 0) hixm (by decide)
          rw [hex] at this
          have e : ix * (numK .u32).k + 0 = ix := by show ix * 1 + 0 = ix; omega
          rw [e] at this
          exact this)
        have HG := Lib.hid (fun w1 (hb : Below W1.drew.heap.size W1.drew w1) => souGoing_is q z w1 hqc (HL.out.shapes.below (H0.out.keep hb).bel HL.out.shapes.lt))
        have HW7 := Lib.hid (fun w1 (hb : Below W1.drew.heap.size W1.drew w1) => RdAt.word (H0.out.keep hb) hq (setN z))
        obtain ⟨y, hy⟩ : ∃ y, encQ (setN z q) = y := ⟨_, rfl⟩
        obtain ⟨x, hx⟩ : ∃ x, encQ q = x := ⟨_, rfl⟩
        simp only [hx, hy] at HCW HG HW7
        clear hx hy hq hqc hok hfx hcode hex hml hixl HR1 BX1 HR BX d7 x0 x1 y1 CP
        refine wp_region_free (fun _ => True) [(0, 0, 32, 1), (1, 1, 33, 2147483648), (2, 2, 34, 4294967296), (3, 4, 35, 8589934592), (4, 8, 36, 17179869184), (5, 0, 37, 32), (6, 32, 38, 68719476736), (7, 0, 39, 1), (8, 128, 40, 274877906944), (9, 256, 41, 549755813888), (10, 512, 42, 1099511627776), (11, 1024, 43, 2199023255552), (12, 0, 44, 32), (13, 4096, 45, 8796093022208), (14, 10240, 46, 21990232555520), (15, 16384, 47, 35184372088832), (16, 0, 48, 64), (17, 98304, 49, 211106232532992), (18, 262143, 50, 171798691840), (19, 524287, 0, 844424930131968)] 19 [(0, 31), (1, 32), (2, 33), (3, 34), (4, 35), (5, 36), (6, 37), (7, 38), (8, 39), (9, 40), (10, 41), (11, 42), (12, 43), (13, 44), (14, 45), (15, 46), (16, 47), (17, 48), (18, 49)] [(0, []), (1, [(0, 31)]), (2, [(1, 32)]), (3, [(2, 33)]), (4, [(3, 34)]), (5, []), (6, [(5, 36)]), (7, []), (8, [(7, 38)]), (9, [(8, 39)]), (10, [(9, 40)]), (11, [(10, 41)]), (12, []), (13, [(12, 43)]), (14, [(11, 42), (13, 44)]), (15, [(14, 45)]), (16, []), (17, [(15, 46), (16, 47)]), (18, [(4, 35), (6, 37)])] [(false, 19, 1048575)] []
          (fun i v w' => match i with
            | 0 => v = .pointer (some ⟨R, 0, none⟩)
            | 1 => v = .pointer (some ⟨R, 0, none⟩)
            | 2 => v = .pointer (some ⟨R, 2, none⟩)
            | 3 => v = .pointer (some ⟨R, 2, none⟩)
            | 4 => v = .slice (some ⟨C, 0, none⟩) m c0
            | 5 => v = .pointer (some ⟨X, 2, none⟩)
            | 6 => v = .int .i64 (ix : Int)
            | 7 => v = .pointer (some ⟨R, 0, none⟩)
            | 8 => v = .pointer (some ⟨R, 0, none⟩)
            | 9 => v = .pointer (some ⟨R, 2, none⟩)
            | 10 => v = .pointer (some ⟨R, 2, none⟩)
            | 11 => v = .slice (some ⟨C, 0, none⟩) m c0
            | 12 => v = .pointer (some ⟨X, 2, none⟩)
            | 13 => v = .int .i64 (ix : Int)
            | 14 => v = .pointer (some ⟨C, ix, none⟩)
            | 15 => v = .int .u32 x
            | 16 => v = .int .i64 z
            | 17 => v = .int .u32 y
            | 18 => v = .pointer (some ⟨C, ix, none⟩)
            | _ => True) (by kernel_rfl) (by kernel_rfl) (by kernel_rfl) (by kernel_rfl) (by kernel_rfl) (fun _ _ => trivial) ?_ ?_ ?_
        · intro i v w1 w2 h hb
          match i, h with
          | 0, h | 1, h | 2, h | 3, h | 4, h | 5, h | 6, h | 7, h | 8, h | 9, h | 10, h | 11, h | 12, h | 13, h | 14, h | 15, h | 16, h | 17, h | 18, h => exact h
          | _ + 19, _ => trivial
        · refine ⟨?_, ?_, ?_, ?_, ?_, ?_, ?_, ?_, ?_, ?_, ?_, ?_, ?_, ?_, ?_, ?_, ?_, ?_, ?_, trivial⟩
          · intro o ho vals w1 hb hd hne
            cases ho
            exact .val (v := .pointer (some ⟨R, 0, none⟩)) (w' := w1) (by simp [frA, execOp, Act.put, Act.eval, go_sem]) ⟨rfl, Below.refl _ _, fun q => by simp at q⟩
          · intro o ho vals w1 hb hd hne
            cases ho
            have e0 : vals 0 = .pointer (some ⟨R, 0, none⟩) := hd (0, 31) (.head _)
            exact .val (v := .pointer (some ⟨R, 0, none⟩)) (w' := w1) (by simp [frA, execOp, Act.put, Act.eval, go_sem, e0]) ⟨rfl, Below.refl _ _, fun q => by simp at q⟩
          · intro o ho vals w1 hb hd hne
            cases ho
            have e0 : vals 1 = .pointer (some ⟨R, 0, none⟩) := hd (1, 32) (.head _)
            exact .val (v := .pointer (some ⟨R, 2, none⟩)) (w' := w1) (by simp [frA, execOp, Act.put, Act.eval, go_sem, e0]) ⟨rfl, Below.refl _ _, fun q => by simp at q⟩
          · intro o ho vals w1 hb hd hne
            cases ho
            have e0 : vals 2 = .pointer (some ⟨R, 2, none⟩) := hd (2, 33) (.head _)
            exact .val (v := .pointer (some ⟨R, 2, none⟩)) (w' := w1) (by simp [frA, execOp, Act.put, Act.eval, go_sem, e0]) ⟨rfl, Below.refl _ _, fun q => by simp at q⟩
          · intro o ho vals w1 hb hd hne
            cases ho
            have e0 : vals 3 = .pointer (some ⟨R, 2, none⟩) := hd (3, 34) (.head _)
            have g2 : w1.cell? ⟨R, 2, none⟩ = some (.slice (some ⟨C, 0, none⟩) m c0) := (H0.out.keep hb).blk.cell 2
            exact .val (v := .slice (some ⟨C, 0, none⟩) m c0) (w' := w1) (by simp [frA, execOp, Act.put, Act.eval, go_sem, e0, g2]) ⟨rfl, Below.refl _ _, fun q => by simp at q⟩
          · intro o ho vals w1 hb hd hne
            cases ho
            exact .val (v := .pointer (some ⟨X, 2, none⟩)) (w' := w1) (by simp [frA, execOp, Act.put, Act.eval, go_sem]) ⟨rfl, Below.refl _ _, fun q => by simp at q⟩
          · intro o ho vals w1 hb hd hne
            cases ho
            have e0 : vals 5 = .pointer (some ⟨X, 2, none⟩) := hd (5, 36) (.head _)
            have gx : w1.cell? ⟨X, 2, none⟩ = some (.int .i64 (ix : Int)) := (BX0.out.keep hb).cell 2
            exact .val (v := .int .i64 (ix : Int)) (w' := w1) (by simp [frA, execOp, Act.put, Act.eval, go_sem, e0, gx]) ⟨rfl, Below.refl _ _, fun q => by simp at q⟩
          · intro o ho vals w1 hb hd hne
            cases ho
            exact .val (v := .pointer (some ⟨R, 0, none⟩)) (w' := w1) (by simp [frA, execOp, Act.put, Act.eval, go_sem]) ⟨rfl, Below.refl _ _, fun q => by simp at q⟩
          · intro o ho vals w1 hb hd hne
            cases ho
            have e0 : vals 7 = .pointer (some ⟨R, 0, none⟩) := hd (7, 38) (.head _)
            exact .val (v := .pointer (some ⟨R, 0, none⟩)) (w' := w1) (by simp [frA, execOp, Act.put, Act.eval, go_sem, e0]) ⟨rfl, Below.refl _ _, fun q => by simp at q⟩
          · intro o ho vals w1 hb hd hne
            cases ho
            have e0 : vals 8 = .pointer (some ⟨R, 0, none⟩) := hd (8, 39) (.head _)
            exact .val (v := .pointer (some ⟨R, 2, none⟩)) (w' := w1) (by simp [frA, execOp, Act.put, Act.eval, go_sem, e0]) ⟨rfl, Below.refl _ _, fun q => by simp at q⟩
          · intro o ho vals w1 hb hd hne
            cases ho
            have e0 : vals 9 = .pointer (some ⟨R, 2, none⟩) := hd (9, 40) (.head _)
            exact .val (v := .pointer (some ⟨R, 2, none⟩)) (w' := w1) (by simp [frA, execOp, Act.put, Act.eval, go_sem, e0]) ⟨rfl, Below.refl _ _, fun q => by simp at q⟩
          · intro o ho vals w1 hb hd hne
            cases ho
            have e0 : vals 10 = .pointer (some ⟨R, 2, none⟩) := hd (10, 41) (.head _)
            have g2 : w1.cell? ⟨R, 2, none⟩ = some (.slice (some ⟨C, 0, none⟩) m c0) := (H0.out.keep hb).blk.cell 2
            exact .val (v := .slice (some ⟨C, 0, none⟩) m c0) (w' := w1) (by simp [frA, execOp, Act.put, Act.eval, go_sem, e0, g2]) ⟨rfl, Below.refl _ _, fun q => by simp at q⟩
          · intro o ho vals w1 hb hd hne
            cases ho
            exact .val (v := .pointer (some ⟨X, 2, none⟩)) (w' := w1) (by simp [frA, execOp, Act.put, Act.eval, go_sem]) ⟨rfl, Below.refl _ _, fun q => by simp at q⟩
          · intro o ho vals w1 hb hd hne
            cases ho
            have e0 : vals 12 = .pointer (some ⟨X, 2, none⟩) := hd (12, 43) (.head _)
            have gx : w1.cell? ⟨X, 2, none⟩ = some (.int .i64 (ix : Int)) := (BX0.out.keep hb).cell 2
            exact .val (v := .int .i64 (ix : Int)) (w' := w1) (by simp [frA, execOp, Act.put, Act.eval, go_sem, e0, gx]) ⟨rfl, Below.refl _ _, fun q => by simp at q⟩
          · intro o ho vals w1 hb hd hne
            cases ho
            have e0 : vals 11 = .slice (some ⟨C, 0, none⟩) m c0 := hd (11, 42) (.head _)
            have e1 : vals 13 = .int .i64 (ix : Int) := hd (13, 44) (.tail _ (.head _))
            exact .val (v := .pointer (some ⟨C, ix, none⟩)) (w' := w1) (by simp [frA, execOp, Act.put, Act.eval, go_sem, e0, e1, hixm]) ⟨rfl, Below.refl _ _, fun q => by simp at q⟩
          · intro o ho vals w1 hb hd hne
            cases ho
            have e0 : vals 14 = .pointer (some ⟨C, ix, none⟩) := hd (14, 45) (.head _)
            have gw : w1.cell? ⟨C, ix, none⟩ = some (.int .u32 x) := HCW.out w1 hb
            exact .val (v := .int .u32 x) (w' := w1) (by simp [frA, execOp, Act.put, Act.eval, go_sem, e0, gw]) ⟨rfl, Below.refl _ _, fun q => by simp at q⟩
          · intro o ho vals w1 hb hd hne
            cases ho
            exact .val (v := .int .i64 z) (w' := w1) (by simp [frA, execOp, Act.put, Act.eval, go_sem]) ⟨rfl, Below.refl _ _, fun q => by simp at q⟩
          · intro o ho vals w1 hb hd hne
            cases ho
            have e0 : vals 15 = .int .u32 x := hd (15, 46) (.head _)
            have e1 : vals 16 = .int .i64 z := hd (16, 47) (.tail _ (.head _))
            refine .call (f := 49) (vs := #[.int .u32 x, .int .i64 z]) (by simp [frA, execOp, Act.put, Act.eval, go_sem, e0, e1]) ((HG.out w1 hb).mono ?_)
            rintro e w' ⟨rfl, hq⟩
            exact ⟨_, rfl, rfl, hq, fun q => by simp at q⟩
          · intro o ho vals w1 hb hd hne
            cases ho
            have e0 : vals 4 = .slice (some ⟨C, 0, none⟩) m c0 := hd (4, 35) (.head _)
            have e1 : vals 6 = .int .i64 (ix : Int) := hd (6, 37) (.tail _ (.head _))
            exact .val (v := .pointer (some ⟨C, ix, none⟩)) (w' := w1) (by simp [frA, execOp, Act.put, Act.eval, go_sem, e0, e1, hixm]) ⟨rfl, Below.refl _ _, fun q => by simp at q⟩
        · intro vals ax w1 hI
          have e := hI.frame (by kernel_rfl) (by kernel_rfl)
          subst e
          have e0 : vals 0 = .pointer (some ⟨R, 0, none⟩) := hI.psi 0 (by omega) (by decide)
          have e1 : vals 1 = .pointer (some ⟨R, 0, none⟩) := hI.psi 1 (by omega) (by decide)
          have e2 : vals 2 = .pointer (some ⟨R, 2, none⟩) := hI.psi 2 (by omega) (by decide)
          have e3 : vals 3 = .pointer (some ⟨R, 2, none⟩) := hI.psi 3 (by omega) (by decide)
          have e4 : vals 4 = .slice (some ⟨C, 0, none⟩) m c0 := hI.psi 4 (by omega) (by decide)
          have e5 : vals 5 = .pointer (some ⟨X, 2, none⟩) := hI.psi 5 (by omega) (by decide)
          have e6 : vals 6 = .int .i64 (ix : Int) := hI.psi 6 (by omega) (by decide)
          have e7 : vals 7 = .pointer (some ⟨R, 0, none⟩) := hI.psi 7 (by omega) (by decide)
          have e8 : vals 8 = .pointer (some ⟨R, 0, none⟩) := hI.psi 8 (by omega) (by decide)
          have e9 : vals 9 = .pointer (some ⟨R, 2, none⟩) := hI.psi 9 (by omega) (by decide)
          have e10 : vals 10 = .pointer (some ⟨R, 2, none⟩) := hI.psi 10 (by omega) (by decide)
          have e11 : vals 11 = .slice (some ⟨C, 0, none⟩) m c0 := hI.psi 11 (by omega) (by decide)
          have e12 : vals 12 = .pointer (some ⟨X, 2, none⟩) := hI.psi 12 (by omega) (by decide)
          have e13 : vals 13 = .int .i64 (ix : Int) := hI.psi 13 (by omega) (by decide)
          have e14 : vals 14 = .pointer (some ⟨C, ix, none⟩) := hI.psi 14 (by omega) (by decide)
          have e15 : vals 15 = .int .u32 x := hI.psi 15 (by omega) (by decide)
          have e16 : vals 16 = .int .i64 z := hI.psi 16 (by omega) (by decide)
          have e17 : vals 17 = .int .u32 y := hI.psi 17 (by omega) (by decide)
          have e18 : vals 18 = .pointer (some ⟨C, ix, none⟩) := hI.psi 18 (by omega) (by decide)
          have HB := Lib.hid hI.below
          have H7 := Lib.hid (H0.out.keep hI.below)
          have fw : w1.frozen? ⟨C, ix, none⟩ = false := OwnEl.free H7.out.code H7.out.code.els.1.symm ix
          have gw : w1.cell? ⟨C, ix, none⟩ = some (.int .u32 x) := HCW.out w1 HB.out
          clear hI
          refine SeqH.step rfl rfl fun K hK => ?_
          simp only [frA, List.foldl, e0, e1, e2, e3, e4, e5, e6, e7, e8, e9, e10, e11, e12, e13, e14, e15, e16, e17, e18]
          go_simp
          refine hK _ _ trivial (SeqH.done (NoPanic.normal ?_))
          go_wp2_with fail
          go_round
          case rel =>
            refine ⟨j + 1, _, by omega, by go_num, ⟨HW7.out w1 HB.out, HOK.out, HFX.out⟩⟩
          case measure => simp [intOf]; omega
    · obtain rfl : j = N := by omega
      go_wp2
      go_ret2
      have hx := hP.fix
      rw [List.drop_of_length_le (by rw [HN.out]; exact Nat.le_refl _)] at hx
      rw [← hx]
      exact ⟨⟨_, rfl⟩, hP.rd⟩
end
end

section
open Go.RowKit Go.Maps Go.IntWalk

/-- A map's new element, its own. -/
theorem wpList_insert_own {H : Type} {P : Program} (w : World) {ops : Array Oper} {rest : List Oper} {o : Oper} {a : Act} {Q : Exit → Act → World → Prop}
    (hg : o.guard = none) (m x v : Operand) (t : TypeId) (hop : o.op = Op.insert t m x v)
    (k e : TypeId) (K : Keyed P k) (ht : P.underlying t = some (.map k e)) (R : Value → Option (DataW H × List MemPlace)) (b n : Nat) (D : DataW H)
    (hm : a.eval m = .map (some b)) (hown : w.ownsMap P k R b n D) (hn : n < maxLen) (key val : Value) (kl : Lit) (hx : a.eval x = key) (hv : a.eval v = val) (hkey : keyOf P k key = some kl)
    (d : DataW H) (ps : List MemPlace) (hval : R val = some (d, ps))
    (hK : ∀ w', w'.ownsMap P k R b (n + 1) (D.put kl d) → w.grownBy w' (some b) → wpList P ops Q rest (a.put o.dst undef) w') :
    wpList P ops Q (o :: rest) a w := by
  refine wpList_plain hg fun K' hK' => ?_
  obtain ⟨w', hrun, r1, r2⟩ := hown.update K ht hn hkey hval
  unfold Oper.wp
  simp only [execOp, hop, hm, hx, hv]
  simp only [Sem.run_bind, hrun, Result.andThen_ok, Sem.run_pure]
  exact hK' _ _ (hK w' r1 r2)
/-- The doers, each by its first word. -/
def dMap : DataW Unit := dRows.foldl (fun D r => D.put (sLit r.1) (.lit (.int .i64 r.2))) (.map [])
theorem txt_off {u : Tx} {l : List (ByteArray × Nat)} (us : List Tx) (h : l.map (·.1) = us.map txt) (hn : u ∉ us) : txt u ∉ l.map (·.1) := by
  rw [h]
  intro q
  obtain ⟨v, hv, e⟩ := List.mem_map.1 q
  exact hn (txt_inj e ▸ hv)
theorem dMap_is : NmIs dMap dRows := by
  have h := (((((((((NmIs.nil.put (s := txt [119, 111, 114, 100]) (txt_off [] rfl (by decide)) 68).put (s := txt [115, 101, 99, 114, 101, 116]) (txt_off [[119, 111, 114, 100]] rfl (by decide)) 69).put (s := txt [105, 110]) (txt_off [[119, 111, 114, 100], [115, 101, 99, 114, 101, 116]] rfl (by decide)) 70).put (s := txt [111, 117, 116]) (txt_off [[119, 111, 114, 100], [115, 101, 99, 114, 101, 116], [105, 110]] rfl (by decide)) 71).put (s := txt [98, 101, 113]) (txt_off [[119, 111, 114, 100], [115, 101, 99, 114, 101, 116], [105, 110], [111, 117, 116]] rfl (by decide)) 72).put (s := txt [98, 110, 101]) (txt_off [[119, 111, 114, 100], [115, 101, 99, 114, 101, 116], [105, 110], [111, 117, 116], [98, 101, 113]] rfl (by decide)) 72).put (s := txt [98, 108, 116]) (txt_off [[119, 111, 114, 100], [115, 101, 99, 114, 101, 116], [105, 110], [111, 117, 116], [98, 101, 113], [98, 110, 101]] rfl (by decide)) 72).put (s := txt [106, 117, 109, 112]) (txt_off [[119, 111, 114, 100], [115, 101, 99, 114, 101, 116], [105, 110], [111, 117, 116], [98, 101, 113], [98, 110, 101], [98, 108, 116]] rfl (by decide)) 72).put (s := txt [106, 97, 108]) (txt_off [[119, 111, 114, 100], [115, 101, 99, 114, 101, 116], [105, 110], [111, 117, 116], [98, 101, 113], [98, 110, 101], [98, 108, 116], [106, 117, 109, 112]] rfl (by decide)) 72)
  exact h
def DoersNew (w : World) (e : Ending) (w' : World) : Prop := ∃ M, e = .returned (.map (some M)) ∧ DoersAt w' M ∧ w.heap.size ≤ M ∧ Below w.heap.size w w'
set_option maxRecDepth 100000 in
set_option maxHeartbeats 2000000 in
theorem souDoers_is (w : World) : Calls Tryz.prog 40 #[] w (DoersNew w) := by
  have hmm := @run_makeMap Tryz.prog
  have HM := Lib.hid (World.ownsMap_made w Tryz.prog 9 fnElem)
  have HB := Lib.hid ((Below.refl w.heap.size w).alloc (Nat.le_refl _) (.map #[] 0))
  go_enter Tryz.func40, Tryz.ntmps40
  go_wp2_with (refine wpList_insert_own _ rfl _ _ _ 44 rfl 9 94 strLaw Tryz.underlying44 fnElem w.heap.size _ _ rfl HM.out (by decide) _ _ _ rfl rfl (WideMaps.keyOf_string_mk Tryz.underlying9 (by decide)) _ [] (fnElem_mk _) ?_; intro w3 hown3 hgrow3; replace HM := Lib.hid hown3; replace HB := Lib.hid (HB.out.grown hgrow3 (HB.out.size) (fun k e => by cases e; exact Nat.le_refl _)); clear hown3 hgrow3)
  go_ret
  exact ⟨w.heap.size, rfl, ⟨_, _, HM.out, dMap_is⟩, Nat.le_refl _, HB.out⟩
end

end Go.Proofs.YtekhgidbnpfmnaaGreatDoor
