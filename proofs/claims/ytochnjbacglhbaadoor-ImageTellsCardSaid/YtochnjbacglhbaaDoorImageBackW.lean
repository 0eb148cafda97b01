/- The walk of the law ImageBack: it returns true and writes nothing that was there. -/
import Derived.Test.YtochnjbacglhbaaDoorImageShortW
namespace Go.Proofs.YtochnjbacglhbaaDoor
open Go.RowKit
theorem get_fits {b : List Int} {m : Img} (hb : Bd8 b) (h : getI b = (0, m)) : Fits m := by
  unfold getI at h
  by_cases he : (openOf b).2 ≠ 0
  · rw [if_pos he] at h
    have := congrArg Prod.fst h
    exact absurd this he
  · rw [if_neg he] at h
    unfold readI at h
    cases hp : pBody (openOf b).1 with
    | error e =>
      rw [hp] at h
      simp only [Prod.mk.injEq] at h
      obtain ⟨rfl, -⟩ := h
      exact absurd (flt_body _ _ hp) (by decide)
    | ok q =>
      obtain ⟨m', r⟩ := q
      rw [hp] at h
      simp only at h
      split at h
      · exact absurd (show (5 : Int) = 0 from congrArg Prod.fst h) (by decide)
      · split at h
        · rename_i hc
          exact absurd (congrArg Prod.fst h) hc
        · rw [Prod.mk.injEq] at h
          obtain ⟨-, rfl⟩ := h
          exact (body_back (openOf_bd hb) hp).2
end Go.Proofs.YtochnjbacglhbaaDoor
namespace Go.Proofs.YtochnjbacglhbaaDoor.imageBack
open Go.RowKit Go.IntWalk Go.ChangeShapes Go.OpenShut

section
variable {w : World} {a0 a1 a2 a3 a4 : Option Addr} {n0 n1 n2 n3 n4 c0 c1 c2 c3 c4 : Nat} {m : Img} {b : Option Addr} {k d : Nat} {l : List Int}
set_option maxRecDepth 100000 in
set_option maxHeartbeats 2000000 in
theorem away {z : Bool} (hL : FoursLaid w) (hz : fewB n0 n1 n2 n3 n4 = z) (hc : z = false ∨ (z = true ∧ (3000 : Int) < k)) : Calls Tryd.prog 4 #[.agg #[.slice a0 n0 c0, .slice a1 n1 c1, .slice a2 n2 c2, .slice a3 n3 c3, .slice a4 n4 c4], .slice b k d] w fun e w' => e = .returned (.bool true) ∧ Below w.heap.size w w' := by
  have al := (Below.refl w.heap.size w).alloc (Nat.le_refl _) (.cells #[.slice a0 n0 c0, .slice a1 n1 c1, .slice a2 n2 c2, .slice a3 n3 c3, .slice a4 n4 c4] 27)
  have AL := Lib.hid al
  have HL := Lib.hid hL
  have K := Lib.hid (fun W => refFew_is (w := W) (a0 := a0) (n0 := n0) (c0 := c0) (a1 := a1) (n1 := n1) (c1 := c1) (a2 := a2) (n2 := n2) (c2 := c2) (a3 := a3) (n3 := n3) (c3 := c3) (a4 := a4) (n4 := n4) (c4 := c4))
  rw [hz] at K
  clear al hL hz
  rcases hc with rfl | ⟨rfl, hk⟩
  all_goals
    try have dk := decide_eq_true (show ((3000 : Int) < k) from hk)
    go_enter Tryd.func4, Tryd.ntmps4
    go_wp2_with (first
      | (go_at_call 6; ((with_reducible refine (K.out _).mono ?_); rintro e w1 ⟨rfl, hb⟩); have B1 := Lib.hid (AL.out.trans (hb.mono AL.out.size)); clear hb)
      | (go_at_call 7; ((with_reducible refine (imgAwake_is _ (HL.out.below B1.out HL.out.lt)).mono ?_); rintro e w2 ⟨rfl, hb⟩); have B2 := Lib.hid (B1.out.trans (hb.mono B1.out.size)); clear hb))
    go_ret
    exact ⟨rfl, B2.out⟩
set_option maxRecDepth 100000 in
set_option maxHeartbeats 8000000 in
theorem within {e0 xg : Int} {mg : Img} (hL : FoursLaid w) (hz : fewB n0 n1 n2 n3 n4 = true) (hk : (k : Int) ≤ 3000) (h : ImgAt w a0 n0 c0 a1 n1 c1 a2 n2 c2 a3 n3 c3 a4 n4 c4 m) (he : chkI m = e0) (hw : WordsI m) (hB : By w b k d l) (hg : getI l = (xg, mg)) : Calls Tryd.prog 4 #[.agg #[.slice a0 n0 c0, .slice a1 n1 c1, .slice a2 n2 c2, .slice a3 n3 c3, .slice a4 n4 c4], .slice b k d] w fun e w' => e = .returned (.bool true) ∧ Below w.heap.size w w' := by
  have al := (Below.refl w.heap.size w).alloc (Nat.le_refl _) (.cells #[.slice a0 n0 c0, .slice a1 n1 c1, .slice a2 n2 c2, .slice a3 n3 c3, .slice a4 n4 c4] 27)
  have AL := Lib.hid al
  have HL := Lib.hid hL
  have HY := Lib.hid hB
  have HM := Lib.hid h
  have K := Lib.hid (fun W => refFew_is (w := W) (a0 := a0) (n0 := n0) (c0 := c0) (a1 := a1) (n1 := n1) (c1 := c1) (a2 := a2) (n2 := n2) (c2 := c2) (a3 := a3) (n3 := n3) (c3 := c3) (a4 := a4) (n4 := n4) (c4 := c4))
  rw [hz] at K
  have BZ := Lib.hid (BlkAt.new w 27 #[.slice a0 n0 c0, .slice a1 n1 c1, .slice a2 n2 c2, .slice a3 n3 c3, .slice a4 n4 c4])
  have dk := decide_eq_false (show ¬ ((3000 : Int) < k) by omega)
  have s1 : e0 = 0 ∨ (e0 != 0) = true ∧ (e0 == 0) = false ∧ e0 ≠ 0 := by
    by_cases q : e0 = 0
    · exact .inl q
    · exact .inr ⟨by simpa using q, by simpa using q, q⟩
  have s2 : xg = 0 ∨ ((xg != 0) = true ∧ mg = img0) := by
    by_cases q : xg = 0
    · exact .inl q
    · refine .inr ⟨by simpa using q, ?_⟩
      have := get_none (b := l) (by rw [hg]; exact q)
      rw [hg] at this
      exact this
  have HG2 := Lib.hid hg
  have HW := Lib.hid hw
  have HE := Lib.hid he
  have HZ := Lib.hid hz
  clear al hL hz h hw hB hg he
  rcases s1 with rfl | ⟨d1, d2, ne⟩
  · have ht := fits_ok HE.out HW.out
    have KP := Lib.hid (fun W (q : Below w.heap.size w W) => imgPut_ok (HM.out.keep q) (HL.out.below q HL.out.lt) HE.out ht)
    have hn := imageShort.raw_few HM.out ht.sec HZ.out
    have hsl := sealOf_len (rawI m)
    have HBD := Lib.hid (sealOf_bd (raw_bd m))
    have G1 : getI (sealOf (rawI m)) = (0, m) := by
      have := get_put HE.out HW.out
      unfold putI at this
      rw [if_pos HE.out] at this
      exact this
    have HG1 := Lib.hid G1
    have HS := Lib.hid (show (sealOf (rawI m)).length ≤ 200000 by omega)
    clear ht hn hsl G1
    generalize sealOf (rawI m) = sl at *
    rcases s2 with rfl | ⟨d3, rfl⟩
    · obtain ⟨ck, pk⟩ := put_get HY.out.bd HG2.out
      have hf := get_fits HY.out.bd HG2.out
      unfold putI at pk
      rw [if_pos ck] at pk
      have CK := Lib.hid ck
      have PK := Lib.hid pk
      have HF := Lib.hid hf
      have est := str_same8 (l := l) (m := l) rfl
      clear ck pk hf
      go_enter Tryd.func4, Tryd.ntmps4
      go_wp2_with (first
        | (go_at_call 6; ((with_reducible refine (K.out _).mono ?_); rintro e w1 ⟨rfl, hb⟩); have B1 := Lib.hid (AL.out.trans (hb.mono AL.out.size)); have X1 := Lib.hid (BZ.out.keep hb); have p0 := X1.out.cell 0; have p1 := X1.out.cell 1; have p2 := X1.out.cell 2; have p3 := X1.out.cell 3; have p4 := X1.out.cell 4; clear hb)
        | (go_at_call 8; ((with_reducible refine (KP.out _ B1.out).mono ?_); rintro e w2 ⟨v2, rfl, ho, hb⟩); have B2 := Lib.hid (B1.out.trans (hb.mono B1.out.size)); have X2 := Lib.hid (X1.out.keep hb); obtain ⟨g2, m2, q2, rfl, hm2, hB2⟩ := ho.byn HBD.out; have Y2 := Lib.hid hB2; have M2 := Lib.hid (show m2 ≤ 200000 by rw [← hm2]; exact HS.out); clear hb ho hB2 hm2)
        | (go_at_call 10; ((with_reducible refine (imgGet_val Y2.out (HL.out.below B2.out HL.out.lt) (by have := M2.out; omega) HG1.out).mono ?_); rintro e w3 ⟨a0', n0', c0', a1', n1', c1', a2', n2', c2', a3', n3', c3', a4', n4', c4', rfl, im, hb⟩); have hal := (Below.refl w3.heap.size w3).alloc (Nat.le_refl _) (.cells #[.slice a0' n0' c0', .slice a1' n1' c1', .slice a2' n2' c2', .slice a3' n3' c3', .slice a4' n4' c4'] 27); have hq := hb.trans (hal.mono hb.size); have B3 := Lib.hid (B2.out.trans (hq.mono B2.out.size)); have I3 := Lib.hid (im.keep hal); have J3 := Lib.hid (HM.out.keep B3.out); have V3 := X2.out.keep hq; have z0 := V3.cell 0; have z1 := V3.cell 1; have z2 := V3.cell 2; have z3 := V3.cell 3; have z4 := V3.cell 4; clear im hb hal hq V3)
        | (go_at_call 12; ((with_reducible refine (refSame22_any I3.out J3.out).mono ?_); rintro e w4 ⟨rfl, hb⟩); have B4 := Lib.hid (B3.out.trans (hb.mono B3.out.size)); have Y4 := Lib.hid (HY.out.keep B4.out (Nat.le_refl _)); clear hb)
        | (go_at_call 10; ((with_reducible refine (imgGet_val Y4.out (HL.out.below B4.out HL.out.lt) (by omega) HG2.out).mono ?_); rintro e w5 ⟨d0', k0', e0', d1', k1', e1', d2', k2', e2', d3', k3', e3', d4', k4', e4', rfl, im, hb⟩); have hal := (Below.refl w5.heap.size w5).alloc (Nat.le_refl _) (.cells #[.slice d0' k0' e0', .slice d1' k1' e1', .slice d2' k2' e2', .slice d3' k3' e3', .slice d4' k4' e4'] 27); have hq := hb.trans (hal.mono hb.size); have B5 := Lib.hid (B4.out.trans (hq.mono B4.out.size)); have I5 := Lib.hid (im.keep hal); clear im hb hal hq)
        | (go_at_call 8; ((with_reducible refine (imgPut_ok I5.out (HL.out.below B5.out HL.out.lt) CK.out HF.out).mono ?_); rintro e w6 ⟨v6, rfl, ho, hb⟩); have B6 := Lib.hid (B5.out.trans (hb.mono B5.out.size)); obtain ⟨g6, m6, q6, rfl, hm6, hB6⟩ := (own_as ho PK.out).byn HY.out.bd; have q1 := str_run hB6; have q2' := str_run (HY.out.keep B6.out (Nat.le_refl _)); clear hb ho hB6 hm6)
        | (go_at_call 7; ((with_reducible refine (imgAwake_is _ (HL.out.below B6.out HL.out.lt)).mono ?_); rintro e w7 ⟨rfl, hb⟩); have B7 := Lib.hid (B6.out.trans (hb.mono B6.out.size)); clear hb))
      go_ret
      exact ⟨rfl, B7.out⟩
    · go_enter Tryd.func4, Tryd.ntmps4
      go_wp2_with (first
        | (go_at_call 6; ((with_reducible refine (K.out _).mono ?_); rintro e w1 ⟨rfl, hb⟩); have B1 := Lib.hid (AL.out.trans (hb.mono AL.out.size)); have X1 := Lib.hid (BZ.out.keep hb); have p0 := X1.out.cell 0; have p1 := X1.out.cell 1; have p2 := X1.out.cell 2; have p3 := X1.out.cell 3; have p4 := X1.out.cell 4; clear hb)
        | (go_at_call 8; ((with_reducible refine (KP.out _ B1.out).mono ?_); rintro e w2 ⟨v2, rfl, ho, hb⟩); have B2 := Lib.hid (B1.out.trans (hb.mono B1.out.size)); have X2 := Lib.hid (X1.out.keep hb); obtain ⟨g2, m2, q2, rfl, hm2, hB2⟩ := ho.byn HBD.out; have Y2 := Lib.hid hB2; have M2 := Lib.hid (show m2 ≤ 200000 by rw [← hm2]; exact HS.out); clear hb ho hB2 hm2)
        | (go_at_call 10; ((with_reducible refine (imgGet_val Y2.out (HL.out.below B2.out HL.out.lt) (by have := M2.out; omega) HG1.out).mono ?_); rintro e w3 ⟨a0', n0', c0', a1', n1', c1', a2', n2', c2', a3', n3', c3', a4', n4', c4', rfl, im, hb⟩); have hal := (Below.refl w3.heap.size w3).alloc (Nat.le_refl _) (.cells #[.slice a0' n0' c0', .slice a1' n1' c1', .slice a2' n2' c2', .slice a3' n3' c3', .slice a4' n4' c4'] 27); have hq := hb.trans (hal.mono hb.size); have B3 := Lib.hid (B2.out.trans (hq.mono B2.out.size)); have I3 := Lib.hid (im.keep hal); have J3 := Lib.hid (HM.out.keep B3.out); have V3 := X2.out.keep hq; have z0 := V3.cell 0; have z1 := V3.cell 1; have z2 := V3.cell 2; have z3 := V3.cell 3; have z4 := V3.cell 4; clear im hb hal hq V3)
        | (go_at_call 12; ((with_reducible refine (refSame22_any I3.out J3.out).mono ?_); rintro e w4 ⟨rfl, hb⟩); have B4 := Lib.hid (B3.out.trans (hb.mono B3.out.size)); have Y4 := Lib.hid (HY.out.keep B4.out (Nat.le_refl _)); clear hb)
        | (go_at_call 10; ((with_reducible refine (imgGet_val Y4.out (HL.out.below B4.out HL.out.lt) (by omega) HG2.out).mono ?_); rintro e w5 ⟨d0', k0', e0', d1', k1', e1', d2', k2', e2', d3', k3', e3', d4', k4', e4', rfl, im, hb⟩); have hal := (Below.refl w5.heap.size w5).alloc (Nat.le_refl _) (.cells #[.slice d0' k0' e0', .slice d1' k1' e1', .slice d2' k2' e2', .slice d3' k3' e3', .slice d4' k4' e4'] 27); have hq := hb.trans (hal.mono hb.size); have B5 := Lib.hid (B4.out.trans (hq.mono B4.out.size)); have I5 := Lib.hid (im.keep hal); clear im hb hal hq)
        | (go_at_call 12; ((with_reducible refine (refSame22_any I5.out (ImgAt.none _)).mono ?_); rintro e w6 ⟨rfl, hb⟩); have B6 := Lib.hid (B5.out.trans (hb.mono B5.out.size)); clear hb)
        | (go_at_call 7; ((with_reducible refine (imgAwake_is _ (HL.out.below B6.out HL.out.lt)).mono ?_); rintro e w7 ⟨rfl, hb⟩); have B7 := Lib.hid (B6.out.trans (hb.mono B6.out.size)); clear hb))
      go_ret
      exact ⟨rfl, B7.out⟩
  · have KP := Lib.hid (fun W (q : Below w.heap.size w W) => imgPut_no (HM.out.keep q) HE.out ne)
    rcases s2 with rfl | ⟨d3, rfl⟩
    · obtain ⟨ck, pk⟩ := put_get HY.out.bd HG2.out
      have hf := get_fits HY.out.bd HG2.out
      unfold putI at pk
      rw [if_pos ck] at pk
      have CK := Lib.hid ck
      have PK := Lib.hid pk
      have HF := Lib.hid hf
      have est := str_same8 (l := l) (m := l) rfl
      clear ck pk hf ne
      go_enter Tryd.func4, Tryd.ntmps4
      go_wp2_with (first
        | (go_at_call 6; ((with_reducible refine (K.out _).mono ?_); rintro e w1 ⟨rfl, hb⟩); have B1 := Lib.hid (AL.out.trans (hb.mono AL.out.size)); have X1 := Lib.hid (BZ.out.keep hb); have p0 := X1.out.cell 0; have p1 := X1.out.cell 1; have p2 := X1.out.cell 2; have p3 := X1.out.cell 3; have p4 := X1.out.cell 4; clear hb)
        | (go_at_call 8; ((with_reducible refine (KP.out _ B1.out).mono ?_); rintro e w2 ⟨v2, rfl, ho, hb⟩); have B4 := Lib.hid (B1.out.trans (hb.mono B1.out.size)); have Y4 := Lib.hid (HY.out.keep B4.out (Nat.le_refl _)); clear hb ho)
        | (go_at_call 10; ((with_reducible refine (imgGet_val Y4.out (HL.out.below B4.out HL.out.lt) (by omega) HG2.out).mono ?_); rintro e w5 ⟨d0', k0', e0', d1', k1', e1', d2', k2', e2', d3', k3', e3', d4', k4', e4', rfl, im, hb⟩); have hal := (Below.refl w5.heap.size w5).alloc (Nat.le_refl _) (.cells #[.slice d0' k0' e0', .slice d1' k1' e1', .slice d2' k2' e2', .slice d3' k3' e3', .slice d4' k4' e4'] 27); have hq := hb.trans (hal.mono hb.size); have B5 := Lib.hid (B4.out.trans (hq.mono B4.out.size)); have I5 := Lib.hid (im.keep hal); clear im hb hal hq)
        | (go_at_call 8; ((with_reducible refine (imgPut_ok I5.out (HL.out.below B5.out HL.out.lt) CK.out HF.out).mono ?_); rintro e w6 ⟨v6, rfl, ho, hb⟩); have B6 := Lib.hid (B5.out.trans (hb.mono B5.out.size)); obtain ⟨g6, m6, q6, rfl, hm6, hB6⟩ := (own_as ho PK.out).byn HY.out.bd; have q1 := str_run hB6; have q2' := str_run (HY.out.keep B6.out (Nat.le_refl _)); clear hb ho hB6 hm6)
        | (go_at_call 7; ((with_reducible refine (imgAwake_is _ (HL.out.below B6.out HL.out.lt)).mono ?_); rintro e w7 ⟨rfl, hb⟩); have B7 := Lib.hid (B6.out.trans (hb.mono B6.out.size)); clear hb))
      go_ret
      exact ⟨rfl, B7.out⟩
    · clear ne
      go_enter Tryd.func4, Tryd.ntmps4
      go_wp2_with (first
        | (go_at_call 6; ((with_reducible refine (K.out _).mono ?_); rintro e w1 ⟨rfl, hb⟩); have B1 := Lib.hid (AL.out.trans (hb.mono AL.out.size)); have X1 := Lib.hid (BZ.out.keep hb); have p0 := X1.out.cell 0; have p1 := X1.out.cell 1; have p2 := X1.out.cell 2; have p3 := X1.out.cell 3; have p4 := X1.out.cell 4; clear hb)
        | (go_at_call 8; ((with_reducible refine (KP.out _ B1.out).mono ?_); rintro e w2 ⟨v2, rfl, ho, hb⟩); have B4 := Lib.hid (B1.out.trans (hb.mono B1.out.size)); have Y4 := Lib.hid (HY.out.keep B4.out (Nat.le_refl _)); clear hb ho)
        | (go_at_call 10; ((with_reducible refine (imgGet_val Y4.out (HL.out.below B4.out HL.out.lt) (by omega) HG2.out).mono ?_); rintro e w5 ⟨d0', k0', e0', d1', k1', e1', d2', k2', e2', d3', k3', e3', d4', k4', e4', rfl, im, hb⟩); have hal := (Below.refl w5.heap.size w5).alloc (Nat.le_refl _) (.cells #[.slice d0' k0' e0', .slice d1' k1' e1', .slice d2' k2' e2', .slice d3' k3' e3', .slice d4' k4' e4'] 27); have hq := hb.trans (hal.mono hb.size); have B5 := Lib.hid (B4.out.trans (hq.mono B4.out.size)); have I5 := Lib.hid (im.keep hal); clear im hb hal hq)
        | (go_at_call 12; ((with_reducible refine (refSame22_any I5.out (ImgAt.none _)).mono ?_); rintro e w6 ⟨rfl, hb⟩); have B6 := Lib.hid (B5.out.trans (hb.mono B5.out.size)); clear hb)
        | (go_at_call 7; ((with_reducible refine (imgAwake_is _ (HL.out.below B6.out HL.out.lt)).mono ?_); rintro e w7 ⟨rfl, hb⟩); have B7 := Lib.hid (B6.out.trans (hb.mono B6.out.size)); clear hb))
      go_ret
      exact ⟨rfl, B7.out⟩
end
set_option maxHeartbeats 1000000 in
theorem walk (a0 : Option Addr) (n0 c0 : Nat) (a1 : Option Addr) (n1 c1 : Nat) (a2 : Option Addr) (n2 c2 : Nat) (a3 : Option Addr) (n3 c3 : Nat) (a4 : Option Addr) (n4 c4 : Nat) (m : Img) (b : Option Addr) (k d : Nat) (z : List Int) (w : World) (w0 : ImgAt w a0 n0 c0 a1 n1 c1 a2 n2 c2 a3 n3 c3 a4 n4 c4 m ∧ ImgOk m) (w2 : IsRow .u8 w b k d z) (hL : FoursLaid w) :
    Calls Tryd.prog 4 #[.agg #[.slice a0 n0 c0, .slice a1 n1 c1, .slice a2 n2 c2, .slice a3 n3 c3, .slice a4 n4 c4], .slice b k d] w fun e w' => e = .returned (.bool true) ∧ Below w.heap.size w w' := by
  have hB := By.of_row w2
  obtain ⟨h, ok⟩ := w0
  cases hz : fewB n0 n1 n2 n3 n4
  · exact away hL hz (.inl rfl)
  · by_cases hk : (3000 : Int) < k
    · exact away hL hz (.inr ⟨rfl, hk⟩)
    · exact within hL hz (by omega) h rfl ok.words hB rfl
end Go.Proofs.YtochnjbacglhbaaDoor.imageBack
