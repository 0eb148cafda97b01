/- The walk of the law ImageTells: it returns true and writes nothing that was there. -/
import Derived.Test.YtochnjbacglhbaaDoorImageBackW
import Derived.Test.YtochnjbacglhbaaDoorImgW
namespace Go.Proofs.YtochnjbacglhbaaDoor.imageTells
open Go.RowKit Go.IntWalk Go.ChangeShapes Go.OpenShut

/-- The three images' blocks, kept. -/
structure Tri (W : World) (bm bu bv : Nat) (m u v : Array Value) (w' : World) : Prop where
  m : BlkAt bm 27 m w'
  u : BlkAt bu 27 u w'
  v : BlkAt bv 27 v w'
  bel : Below W.heap.size W w'
theorem Tri.keep {W w' w2 : World} {bm bu bv : Nat} {m u v : Array Value} (h : Tri W bm bu bv m u v w') (k : Below w'.heap.size w' w2) : Tri W bm bu bv m u v w2 :=
  ⟨h.m.keep k, h.u.keep k, h.v.keep k, h.bel.trans (k.mono h.bel.size)⟩
section
variable {w W w' : World} {bm bu bv : Nat} {a0 a1 a2 a3 a4 : Option Addr} {n0 n1 n2 n3 n4 c0 c1 c2 c3 c4 : Nat} {m : Img} {u0 u1 u2 u3 u4 v0 v1 v2 v3 v4 : Option Addr} {p0 p1 p2 p3 p4 q0 q1 q2 q3 q4 r0 r1 r2 r3 r4 s0 s1 s2 s3 s4 : Nat} {b : Option Addr} {k d : Nat} {l : List Int}
theorem Tri.all (h : Tri W bm bu bv #[.slice a0 n0 c0, .slice a1 n1 c1, .slice a2 n2 c2, .slice a3 n3 c3, .slice a4 n4 c4] #[.slice u0 p0 q0, .slice u1 p1 q1, .slice u2 p2 q2, .slice u3 p3 q3, .slice u4 p4 q4] #[.slice v0 r0 s0, .slice v1 r1 s1, .slice v2 r2 s2, .slice v3 r3 s3, .slice v4 r4 s4] w') : (w'.cell? ⟨bm, 0, none⟩ = some (.slice a0 n0 c0) ∧ w'.cell? ⟨bm, 1, none⟩ = some (.slice a1 n1 c1) ∧ w'.cell? ⟨bm, 2, none⟩ = some (.slice a2 n2 c2) ∧ w'.cell? ⟨bm, 3, none⟩ = some (.slice a3 n3 c3) ∧ w'.cell? ⟨bm, 4, none⟩ = some (.slice a4 n4 c4) ∧ w'.cell? ⟨bu, 0, none⟩ = some (.slice u0 p0 q0) ∧ w'.cell? ⟨bu, 1, none⟩ = some (.slice u1 p1 q1) ∧ w'.cell? ⟨bu, 2, none⟩ = some (.slice u2 p2 q2) ∧ w'.cell? ⟨bu, 3, none⟩ = some (.slice u3 p3 q3) ∧ w'.cell? ⟨bu, 4, none⟩ = some (.slice u4 p4 q4) ∧ w'.cell? ⟨bv, 0, none⟩ = some (.slice v0 r0 s0) ∧ w'.cell? ⟨bv, 1, none⟩ = some (.slice v1 r1 s1) ∧ w'.cell? ⟨bv, 2, none⟩ = some (.slice v2 r2 s2) ∧ w'.cell? ⟨bv, 3, none⟩ = some (.slice v3 r3 s3) ∧ w'.cell? ⟨bv, 4, none⟩ = some (.slice v4 r4 s4)) ∧ Below W.heap.size W w' :=
  ⟨⟨h.m.cell 0, h.m.cell 1, h.m.cell 2, h.m.cell 3, h.m.cell 4, h.u.cell 0, h.u.cell 1, h.u.cell 2, h.u.cell 3, h.u.cell 4, h.v.cell 0, h.v.cell 1, h.v.cell 2, h.v.cell 3, h.v.cell 4⟩, h.bel⟩
set_option maxRecDepth 100000 in
set_option maxHeartbeats 2000000 in
theorem away {z : Bool} (hL : FoursLaid w) (hz : fewB n0 n1 n2 n3 n4 = z) (hc : z = false ∨ (z = true ∧ (3000 : Int) < k)) : Calls Tryd.prog 3 #[.agg #[.slice a0 n0 c0, .slice a1 n1 c1, .slice a2 n2 c2, .slice a3 n3 c3, .slice a4 n4 c4], .slice b k d] w fun e w' => e = .returned (.bool true) ∧ Below w.heap.size w w' := by
  have al := (Below.refl w.heap.size w).alloc (Nat.le_refl _) (.cells #[.slice a0 n0 c0, .slice a1 n1 c1, .slice a2 n2 c2, .slice a3 n3 c3, .slice a4 n4 c4] 27)
  have AL := Lib.hid al
  have HL := Lib.hid hL
  have K := Lib.hid (fun W => refFew_is (w := W) (a0 := a0) (n0 := n0) (c0 := c0) (a1 := a1) (n1 := n1) (c1 := c1) (a2 := a2) (n2 := n2) (c2 := c2) (a3 := a3) (n3 := n3) (c3 := c3) (a4 := a4) (n4 := n4) (c4 := c4))
  rw [hz] at K
  clear al hL hz
  rcases hc with rfl | ⟨rfl, hk⟩
  all_goals
    try have dk := decide_eq_true (show ((3000 : Int) < k) from hk)
    go_enter Tryd.func3, Tryd.ntmps3
    go_wp2_with (first
      | (go_at_call 6; ((with_reducible refine (K.out _).mono ?_); rintro e w1 ⟨rfl, hb⟩); have B1 := Lib.hid (AL.out.trans (hb.mono AL.out.size)); clear hb)
      | (go_at_call 7; ((with_reducible refine (imgAwake_is _ (HL.out.below B1.out HL.out.lt)).mono ?_); rintro e w2 ⟨rfl, hb⟩); have B2 := Lib.hid (B1.out.trans (hb.mono B1.out.size)); clear hb))
    go_ret
    exact ⟨rfl, B2.out⟩
theorem put_any (h : ImgAt w a0 n0 c0 a1 n1 c1 a2 n2 c2 a3 n3 c3 a4 n4 c4 m) (hL : FoursLaid w) (hw : WordsI m) : Calls Tryd.prog 8 #[.agg #[.slice a0 n0 c0, .slice a1 n1 c1, .slice a2 n2 c2, .slice a3 n3 c3, .slice a4 n4 c4]] w fun e w' => RetOwnE w 5 (putI m) (chkI m) e w' := by
  unfold putI
  by_cases he : chkI m = 0
  · rw [if_pos he, he]
    exact imgPut_ok h hL he (fits_ok he hw)
  · rw [if_neg he]
    exact imgPut_no h rfl he
theorem refPut_any (h : ImgAt w a0 n0 c0 a1 n1 c1 a2 n2 c2 a3 n3 c3 a4 n4 c4 m) (hw : WordsI m) : Calls Tryd.prog 9 #[.agg #[.slice a0 n0 c0, .slice a1 n1 c1, .slice a2 n2 c2, .slice a3 n3 c3, .slice a4 n4 c4]] w fun e w' => RetOwnE w 5 (putI m) (chkI m) e w' := by
  unfold putI
  by_cases he : chkI m = 0
  · rw [if_pos he, he]
    exact refPut22_ok h he (fits_ok he hw)
  · rw [if_neg he]
    exact refPut22_no h rfl he
theorem put_bd (m : Img) : Bd8 (putI m) := by
  unfold putI
  split
  · exact sealOf_bd (raw_bd m)
  · exact Bd8.nil
set_option maxRecDepth 100000 in
set_option maxHeartbeats 8000000 in
theorem within {e0 xg : Int} {mg : Img} (hL : FoursLaid w) (hz : fewB n0 n1 n2 n3 n4 = true) (hk : (k : Int) ≤ 3000) (h : ImgAt w a0 n0 c0 a1 n1 c1 a2 n2 c2 a3 n3 c3 a4 n4 c4 m) (hw : WordsI m) (he : chkI m = e0) (hB : By w b k d l) (hg : getI l = (xg, mg)) : Calls Tryd.prog 3 #[.agg #[.slice a0 n0 c0, .slice a1 n1 c1, .slice a2 n2 c2, .slice a3 n3 c3, .slice a4 n4 c4], .slice b k d] w fun e w' => e = .returned (.bool true) ∧ Below w.heap.size w w' := by
  have al := (Below.refl w.heap.size w).alloc (Nat.le_refl _) (.cells #[.slice a0 n0 c0, .slice a1 n1 c1, .slice a2 n2 c2, .slice a3 n3 c3, .slice a4 n4 c4] 27)
  have AL := Lib.hid al
  have HL := Lib.hid hL
  have HY := Lib.hid hB
  have HM := Lib.hid h
  have K := Lib.hid (fun W => refFew_is (w := W) (a0 := a0) (n0 := n0) (c0 := c0) (a1 := a1) (n1 := n1) (c1 := c1) (a2 := a2) (n2 := n2) (c2 := c2) (a3 := a3) (n3 := n3) (c3 := c3) (a4 := a4) (n4 := n4) (c4 := c4))
  rw [hz] at K
  have KP := Lib.hid (fun W (q : Below w.heap.size w W) => put_any (h.keep q) (hL.below q hL.lt) hw)
  have KR := Lib.hid (fun W (q : Below w.heap.size w W) => refPut_any (h.keep q) hw)
  have KC := Lib.hid (fun W (q : Below w.heap.size w W) => imgCheck_is (h.keep q))
  have KD := Lib.hid (fun W (q : Below w.heap.size w W) => refCheck22_is (h.keep q))
  have HBD := Lib.hid (put_bd m)
  rw [he] at KP KR KC KD
  generalize putI m = sx at *
  have BZ := Lib.hid (BlkAt.new w 27 #[.slice a0 n0 c0, .slice a1 n1 c1, .slice a2 n2 c2, .slice a3 n3 c3, .slice a4 n4 c4])
  have dk := decide_eq_false (show ¬ ((3000 : Int) < k) by omega)
  have HG2 := Lib.hid hg
  have est := str_same8 (l := sx) (m := sx) rfl
  clear al hL hz h hw hB hg he
  go_enter Tryd.func3, Tryd.ntmps3
  go_upto_region 7 with (first
    | (go_at_call 6; ((with_reducible refine (K.out _).mono ?_); rintro e w1 ⟨rfl, hb⟩); have B1 := Lib.hid (AL.out.trans (hb.mono AL.out.size)); have X1 := Lib.hid (BZ.out.keep hb); have y0 := X1.out.cell 0; have y1 := X1.out.cell 1; have y2 := X1.out.cell 2; have y3 := X1.out.cell 3; have y4 := X1.out.cell 4; clear hb)
    | (go_at_call 8; ((with_reducible refine (KP.out _ B1.out).mono ?_); rintro e w2 ⟨v2', rfl, ho, hb⟩); have B2 := Lib.hid (B1.out.trans (hb.mono B1.out.size)); have X2 := Lib.hid (X1.out.keep hb); obtain ⟨g2, m2, t2, rfl, -, hB2⟩ := ho.byn HBD.out; have Y2 := Lib.hid hB2; have y0 := X2.out.cell 0; have y1 := X2.out.cell 1; have y2 := X2.out.cell 2; have y3 := X2.out.cell 3; have y4 := X2.out.cell 4; clear hb ho hB2)
    | (go_at_call 9; ((with_reducible refine (KR.out _ B2.out).mono ?_); rintro e w3 ⟨v3', rfl, ho, hb⟩); have B3 := Lib.hid (B2.out.trans (hb.mono B2.out.size)); have X3 := Lib.hid (X2.out.keep hb); obtain ⟨g3, m3, t3, rfl, -, hB3⟩ := ho.byn HBD.out; have Y3 := Lib.hid hB3; have Z3 := Lib.hid (Y2.out.keep hb (Nat.le_refl _)); have W3 := Lib.hid (HY.out.keep B3.out (Nat.le_refl _)); clear hb ho hB3)
    | (go_at_call 10; ((with_reducible refine (imgGet_val W3.out (HL.out.below B3.out HL.out.lt) (by omega) HG2.out).mono ?_); rintro e w4 ⟨u0, p0, q0, u1, p1, q1, u2, p2, q2, u3, p3, q3, u4, p4, q4, rfl, im, hb⟩); have hal := (Below.refl w4.heap.size w4).alloc (Nat.le_refl _) (.cells #[.slice u0 p0 q0, .slice u1 p1 q1, .slice u2 p2 q2, .slice u3 p3 q3, .slice u4 p4 q4] 27); have hq := hb.trans (hal.mono hb.size); have B4 := Lib.hid (B3.out.trans (hq.mono B3.out.size)); have I4 := Lib.hid (im.keep hal); have X4 := Lib.hid (X3.out.keep hq); have U4 := Lib.hid (BlkAt.new w4 27 #[.slice u0 p0 q0, .slice u1 p1 q1, .slice u2 p2 q2, .slice u3 p3 q3, .slice u4 p4 q4]); have Y4 := Lib.hid (Y3.out.keep hq (Nat.le_refl _)); have Z4 := Lib.hid (Z3.out.keep hq (Nat.le_refl _)); have W4 := Lib.hid (HY.out.keep B4.out (Nat.le_refl _)); clear im hb hal hq)
    | (go_at_call 11; ((with_reducible refine (refGet_val W4.out (by omega) HG2.out).mono ?_); rintro e w5 ⟨v0, r0, s0, v1, r1, s1, v2, r2, s2, v3, r3, s3, v4, r4, s4, rfl, im, hb⟩); have hal := (Below.refl w5.heap.size w5).alloc (Nat.le_refl _) (.cells #[.slice v0 r0 s0, .slice v1 r1 s1, .slice v2 r2 s2, .slice v3 r3 s3, .slice v4 r4 s4] 27); have hq := hb.trans (hal.mono hb.size); have B5 := Lib.hid (B4.out.trans (hq.mono B4.out.size)); have J5 := Lib.hid (im.keep hal); have I5 := Lib.hid (I4.out.keep hq); have X5 := Lib.hid (X4.out.keep hq); have U5 := Lib.hid (U4.out.keep hq); have V5 := Lib.hid (BlkAt.new w5 27 #[.slice v0 r0 s0, .slice v1 r1 s1, .slice v2 r2 s2, .slice v3 r3 s3, .slice v4 r4 s4]); have Y5 := Lib.hid (Y4.out.keep hq (Nat.le_refl _)); have Z5 := Lib.hid (Z4.out.keep hq (Nat.le_refl _)); clear im hb hal hq))
  generalize w5.alloc (.cells #[.slice v0 r0 s0, .slice v1 r1 s1, .slice v2 r2 s2, .slice v3 r3 s3, .slice v4 r4 s4] 27) = W at B5 J5 I5 X5 U5 V5 Y5 Z5 ⊢
  obtain ⟨bm, hbm⟩ : ∃ q, w.heap.size = q := ⟨_, rfl⟩
  obtain ⟨bu, hbu⟩ : ∃ q, w4.heap.size = q := ⟨_, rfl⟩
  obtain ⟨bv, hbv⟩ : ∃ q, w5.heap.size = q := ⟨_, rfl⟩
  have T := Tri.keep (W := W) ⟨X5.out, U5.out, V5.out, Below.refl _ _⟩ (Below.refl W.heap.size W).drew
  rw [hbm, hbu, hbv] at T
  simp only [hbm, hbu, hbv]
  have h3 := T
  have hS := T.all
  have HB5 := Lib.hid (show Below w.heap.size w W from B5.out)
  have e1 := str_run Z5.out
  have e2 := str_run Y5.out
  have e1' := str_run (Z5.out.keep (Below.refl W.heap.size W).drew (Nat.le_refl _))
  have e2' := str_run (Y5.out.keep (Below.refl W.heap.size W).drew (Nat.le_refl _))
  clear T hbm hbu hbv
  go_region_held (fun w' => (w'.cell? ⟨bm, 0, none⟩ = some (.slice a0 n0 c0) ∧ w'.cell? ⟨bm, 1, none⟩ = some (.slice a1 n1 c1) ∧ w'.cell? ⟨bm, 2, none⟩ = some (.slice a2 n2 c2) ∧ w'.cell? ⟨bm, 3, none⟩ = some (.slice a3 n3 c3) ∧ w'.cell? ⟨bm, 4, none⟩ = some (.slice a4 n4 c4) ∧ w'.cell? ⟨bu, 0, none⟩ = some (.slice u0 p0 q0) ∧ w'.cell? ⟨bu, 1, none⟩ = some (.slice u1 p1 q1) ∧ w'.cell? ⟨bu, 2, none⟩ = some (.slice u2 p2 q2) ∧ w'.cell? ⟨bu, 3, none⟩ = some (.slice u3 p3 q3) ∧ w'.cell? ⟨bu, 4, none⟩ = some (.slice u4 p4 q4) ∧ w'.cell? ⟨bv, 0, none⟩ = some (.slice v0 r0 s0) ∧ w'.cell? ⟨bv, 1, none⟩ = some (.slice v1 r1 s1) ∧ w'.cell? ⟨bv, 2, none⟩ = some (.slice v2 r2 s2) ∧ w'.cell? ⟨bv, 3, none⟩ = some (.slice v3 r3 s3) ∧ w'.cell? ⟨bv, 4, none⟩ = some (.slice v4 r4 s4)) ∧ Below W.heap.size W w')
    (with_reducible assumption)
    (first
      | (go_at_call 12; ((with_reducible refine (refSame22_any (I5.out.keep h3.bel) (J5.out.keep h3.bel)).mono ?_); rintro e w6 ⟨rfl, hk⟩); have h3 := h3.keep hk; have hS := h3.all)
      | (go_at_call 13; ((with_reducible refine (KC.out _ (HB5.out.trans (h3.bel.mono HB5.out.size))).mono ?_); rintro e w7 ⟨rfl, hk⟩); have h3 := h3.keep hk; have hS := h3.all)
      | (go_at_call 14; ((with_reducible refine (KD.out _ (HB5.out.trans (h3.bel.mono HB5.out.size))).mono ?_); rintro e w8 ⟨rfl, hk⟩); have h3 := h3.keep hk; have hS := h3.all)
      | (go_at_call 7; ((with_reducible refine (imgAwake_is _ (HL.out.below (HB5.out.trans (h3.bel.mono HB5.out.size)) HL.out.lt)).mono ?_); rintro e w9 ⟨rfl, hk⟩); have h3 := h3.keep hk; have hS := h3.all))
  all_goals go_wp2
  all_goals go_ret
  all_goals exact ⟨rfl, HB5.out.trans (hS.2.mono HB5.out.size)⟩
end
set_option maxHeartbeats 1000000 in
theorem walk (a0 : Option Addr) (n0 c0 : Nat) (a1 : Option Addr) (n1 c1 : Nat) (a2 : Option Addr) (n2 c2 : Nat) (a3 : Option Addr) (n3 c3 : Nat) (a4 : Option Addr) (n4 c4 : Nat) (m : Img) (b : Option Addr) (k d : Nat) (z : List Int) (w : World) (w0 : ImgAt w a0 n0 c0 a1 n1 c1 a2 n2 c2 a3 n3 c3 a4 n4 c4 m ∧ ImgOk m) (w2 : IsRow .u8 w b k d z) (hL : FoursLaid w) :
    Calls Tryd.prog 3 #[.agg #[.slice a0 n0 c0, .slice a1 n1 c1, .slice a2 n2 c2, .slice a3 n3 c3, .slice a4 n4 c4], .slice b k d] w fun e w' => e = .returned (.bool true) ∧ Below w.heap.size w w' := by
  have hB := By.of_row w2
  obtain ⟨h, ok⟩ := w0
  cases hz : fewB n0 n1 n2 n3 n4
  · exact away hL hz (.inl rfl)
  · by_cases hk : (3000 : Int) < k
    · exact away hL hz (.inr ⟨rfl, hk⟩)
    · exact within hL hz (by omega) h ok.words rfl hB rfl
end Go.Proofs.YtochnjbacglhbaaDoor.imageTells
