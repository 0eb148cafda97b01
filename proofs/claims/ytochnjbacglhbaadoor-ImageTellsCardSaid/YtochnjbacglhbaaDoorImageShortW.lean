/- The walk of the law ImageShort: it returns true and writes nothing that was there. -/
import Derived.Test.YtochnjbacglhbaaDoorImgV
namespace Go.Proofs.YtochnjbacglhbaaDoor
open Go.RowKit
theorem By.as {w : World} {a : Option Addr} {n c : Nat} {l l' : List Int} (h : By w a n c l) (e : l = l') : By w a n c l' := e ▸ h
theorem wrap64_nat {L : Nat} (h : L ≤ 100000) : wrap64 (L : Int) = L := by unfold wrap64; omega
theorem own_as {w : World} {base : Nat} {T : TypeId} {v : Value} {l l' : List Int} (h : Own w base T v l) (e : l = l') : Own w base T v l' := e ▸ h
end Go.Proofs.YtochnjbacglhbaaDoor
namespace Go.Proofs.YtochnjbacglhbaaDoor.imageShort
open Go.RowKit Go.IntWalk Go.ChangeShapes Go.OpenShut

section
variable {w : World} {a0 a1 a2 a3 a4 : Option Addr} {n0 n1 n2 n3 n4 c0 c1 c2 c3 c4 : Nat} {m : Img} {x : Int} {b : Option Addr} {k d : Nat} {l : List Int}
set_option maxRecDepth 100000 in
set_option maxHeartbeats 2000000 in
theorem away {z : Bool} (hL : FoursLaid w) (hz : fewB n0 n1 n2 n3 n4 = z) (hc : z = false ∨ (z = true ∧ (100 : Int) < k)) : Calls Tryd.prog 5 #[.agg #[.slice a0 n0 c0, .slice a1 n1 c1, .slice a2 n2 c2, .slice a3 n3 c3, .slice a4 n4 c4], .int .i64 x, .slice b k d] w fun e w' => e = .returned (.bool true) ∧ Below w.heap.size w w' := by
  have al := (Below.refl w.heap.size w).alloc (Nat.le_refl _) (.cells #[.slice a0 n0 c0, .slice a1 n1 c1, .slice a2 n2 c2, .slice a3 n3 c3, .slice a4 n4 c4] 27)
  have AL := Lib.hid al
  have HL := Lib.hid hL
  have K := Lib.hid (fun W => refFew_is (w := W) (a0 := a0) (n0 := n0) (c0 := c0) (a1 := a1) (n1 := n1) (c1 := c1) (a2 := a2) (n2 := n2) (c2 := c2) (a3 := a3) (n3 := n3) (c3 := c3) (a4 := a4) (n4 := n4) (c4 := c4))
  rw [hz] at K
  clear al hL hz
  rcases hc with rfl | ⟨rfl, hk⟩
  all_goals
    try have dk := decide_eq_true (show ((100 : Int) < k) from hk)
    go_enter Tryd.func5, Tryd.ntmps5
    go_wp2_with (first
      | (go_at_call 6; ((with_reducible refine (K.out _).mono ?_); rintro e w1 ⟨rfl, hb⟩); have B1 := Lib.hid (AL.out.trans (hb.mono AL.out.size)); clear hb)
      | (go_at_call 7; ((with_reducible refine (imgAwake_is _ (HL.out.below B1.out HL.out.lt)).mono ?_); rintro e w2 ⟨rfl, hb⟩); have B2 := Lib.hid (B1.out.trans (hb.mono B1.out.size)); clear hb))
    go_ret
    exact ⟨rfl, B2.out⟩
set_option maxRecDepth 100000 in
set_option maxHeartbeats 2000000 in
theorem nought {e0 : Int} (hL : FoursLaid w) (hz : fewB n0 n1 n2 n3 n4 = true) (hk : (k : Int) ≤ 100) (h : ImgAt w a0 n0 c0 a1 n1 c1 a2 n2 c2 a3 n3 c3 a4 n4 c4 m) (he : chkI m = e0) (hne : e0 ≠ 0) : Calls Tryd.prog 5 #[.agg #[.slice a0 n0 c0, .slice a1 n1 c1, .slice a2 n2 c2, .slice a3 n3 c3, .slice a4 n4 c4], .int .i64 x, .slice b k d] w fun e w' => e = .returned (.bool true) ∧ Below w.heap.size w w' := by
  have al := (Below.refl w.heap.size w).alloc (Nat.le_refl _) (.cells #[.slice a0 n0 c0, .slice a1 n1 c1, .slice a2 n2 c2, .slice a3 n3 c3, .slice a4 n4 c4] 27)
  have AL := Lib.hid al
  have HL := Lib.hid hL
  have K := Lib.hid (fun W => refFew_is (w := W) (a0 := a0) (n0 := n0) (c0 := c0) (a1 := a1) (n1 := n1) (c1 := c1) (a2 := a2) (n2 := n2) (c2 := c2) (a3 := a3) (n3 := n3) (c3 := c3) (a4 := a4) (n4 := n4) (c4 := c4))
  rw [hz] at K
  have KP := Lib.hid (fun W (q : Below w.heap.size w W) => refPut22_no (h.keep q) he hne)
  have BZ := Lib.hid (BlkAt.new w 27 #[.slice a0 n0 c0, .slice a1 n1 c1, .slice a2 n2 c2, .slice a3 n3 c3, .slice a4 n4 c4])
  have dk := decide_eq_false (show ¬ ((100 : Int) < k) by omega)
  have dn : (e0 != 0) = true := by simpa using hne
  clear al hL hz h he hne
  go_enter Tryd.func5, Tryd.ntmps5
  go_wp2_with (first
    | (go_at_call 6; ((with_reducible refine (K.out _).mono ?_); rintro e w1 ⟨rfl, hb⟩); have B1 := Lib.hid (AL.out.trans (hb.mono AL.out.size)); have X1 := BZ.out.keep hb; have p0 := X1.cell 0; have p1 := X1.cell 1; have p2 := X1.cell 2; have p3 := X1.cell 3; have p4 := X1.cell 4; clear hb X1)
    | (go_at_call 9; ((with_reducible refine (KP.out _ B1.out).mono ?_); rintro e w2 ⟨v2, rfl, ho, hb⟩); have B2 := Lib.hid (B1.out.trans (hb.mono B1.out.size)); clear hb ho)
    | (go_at_call 7; ((with_reducible refine (imgAwake_is _ (HL.out.below B2.out HL.out.lt)).mono ?_); rintro e w3 ⟨rfl, hb⟩); have B3 := Lib.hid (B2.out.trans (hb.mono B2.out.size)); clear hb))
  go_ret
  exact ⟨rfl, B3.out⟩
set_option maxRecDepth 100000 in
set_option maxHeartbeats 2000000 in
/-- Where so many bytes are not fewer. -/
theorem much (hL : FoursLaid w) (hz : fewB n0 n1 n2 n3 n4 = true) (hk : (k : Int) ≤ 100) (h : ImgAt w a0 n0 c0 a1 n1 c1 a2 n2 c2 a3 n3 c3 a4 n4 c4 m) (he : chkI m = 0) (ht : Fits m) (hn : (rawI m).length ≤ 100000) (hx : x < 0 ∨ (0 ≤ x ∧ ((rawI m).length : Int) ≤ x)) : Calls Tryd.prog 5 #[.agg #[.slice a0 n0 c0, .slice a1 n1 c1, .slice a2 n2 c2, .slice a3 n3 c3, .slice a4 n4 c4], .int .i64 x, .slice b k d] w fun e w' => e = .returned (.bool true) ∧ Below w.heap.size w w' := by
  have al := (Below.refl w.heap.size w).alloc (Nat.le_refl _) (.cells #[.slice a0 n0 c0, .slice a1 n1 c1, .slice a2 n2 c2, .slice a3 n3 c3, .slice a4 n4 c4] 27)
  have AL := Lib.hid al
  have HL := Lib.hid hL
  have K := Lib.hid (fun W => refFew_is (w := W) (a0 := a0) (n0 := n0) (c0 := c0) (a1 := a1) (n1 := n1) (c1 := c1) (a2 := a2) (n2 := n2) (c2 := c2) (a3 := a3) (n3 := n3) (c3 := c3) (a4 := a4) (n4 := n4) (c4 := c4))
  rw [hz] at K
  have KP := Lib.hid (fun W (q : Below w.heap.size w W) => refPut22_ok (h.keep q) he ht)
  have BZ := Lib.hid (BlkAt.new w 27 #[.slice a0 n0 c0, .slice a1 n1 c1, .slice a2 n2 c2, .slice a3 n3 c3, .slice a4 n4 c4])
  have dk := decide_eq_false (show ¬ ((100 : Int) < k) by omega)
  have hsl := sealOf_len (rawI m)
  have hbd := Lib.hid (sealOf_bd (raw_bd m))
  generalize sealOf (rawI m) = sl at *
  generalize (rawI m).length = L at *
  have HSL := Lib.hid hsl
  clear al hL hz h he hsl
  have hw : wrap64 (L : Int) = L := by unfold wrap64; omega
  rcases hx with q | ⟨q, q2⟩
  all_goals
    go_enter Tryd.func5, Tryd.ntmps5
    go_wp2_with (first
      | (go_at_call 6; ((with_reducible refine (K.out _).mono ?_); rintro e w1 ⟨rfl, hb⟩); have B1 := Lib.hid (AL.out.trans (hb.mono AL.out.size)); have X1 := BZ.out.keep hb; have p0 := X1.cell 0; have p1 := X1.cell 1; have p2 := X1.cell 2; have p3 := X1.cell 3; have p4 := X1.cell 4; clear hb X1)
      | (go_at_call 9; ((with_reducible refine (KP.out _ B1.out).mono ?_); rintro e w2 ⟨v2, rfl, ho, hb⟩); have B2 := Lib.hid (B1.out.trans (hb.mono B1.out.size)); obtain ⟨g2, m2, q2, rfl, hm2, hB2⟩ := ho.byn hbd.out; obtain rfl : m2 = L + 2 := hm2.symm.trans HSL.out; clear hb ho hB2 hm2)
      | (go_at_call 7; ((with_reducible refine (imgAwake_is _ (HL.out.below B2.out HL.out.lt)).mono ?_); rintro e w3 ⟨rfl, hb⟩); have B3 := Lib.hid (B2.out.trans (hb.mono B2.out.size)); clear hb))
    go_ret
    exact ⟨rfl, B3.out⟩
set_option maxRecDepth 100000 in
set_option maxHeartbeats 4000000 in
/-- Where so many are fewer. -/
theorem within {N L xg : Nat} {mg : Img} (hL : FoursLaid w) (hz : fewB n0 n1 n2 n3 n4 = true) (hk : (k : Int) ≤ 100) (h : ImgAt w a0 n0 c0 a1 n1 c1 a2 n2 c2 a3 n3 c3 a4 n4 c4 m) (he : chkI m = 0) (ht : Fits m) (hw : WordsI m) (hn : (rawI m).length = L) (hLn : L ≤ 100000) (hN : N < L) (hB : By w b k d l) (hg : getI (sealOf (rawI m ++ l)) = ((xg : Int), mg)) (hc : k = 0 ∨ (0 < k ∧ xg = 5 ∧ mg = img0)) : Calls Tryd.prog 5 #[.agg #[.slice a0 n0 c0, .slice a1 n1 c1, .slice a2 n2 c2, .slice a3 n3 c3, .slice a4 n4 c4], .int .i64 N, .slice b k d] w fun e w' => e = .returned (.bool true) ∧ Below w.heap.size w w' := by
  obtain ⟨i0, hi, hz0, hz1, hz2⟩ := info_parts infoU8
  have al := (Below.refl w.heap.size w).alloc (Nat.le_refl _) (.cells #[.slice a0 n0 c0, .slice a1 n1 c1, .slice a2 n2 c2, .slice a3 n3 c3, .slice a4 n4 c4] 27)
  have AL := Lib.hid al
  have HL := Lib.hid hL
  have HY := Lib.hid hB
  have K := Lib.hid (fun W => refFew_is (w := W) (a0 := a0) (n0 := n0) (c0 := c0) (a1 := a1) (n1 := n1) (c1 := c1) (a2 := a2) (n2 := n2) (c2 := c2) (a3 := a3) (n3 := n3) (c3 := c3) (a4 := a4) (n4 := n4) (c4 := c4))
  rw [hz] at K
  have KP := Lib.hid (fun W (q : Below w.heap.size w W) => refPut22_ok (h.keep q) he ht)
  have BZ := Lib.hid (BlkAt.new w 27 #[.slice a0 n0 c0, .slice a1 n1 c1, .slice a2 n2 c2, .slice a3 n3 c3, .slice a4 n4 c4])
  have dk := decide_eq_false (show ¬ ((100 : Int) < k) by omega)
  have hll := hB.len
  have hsl := sealOf_len (rawI m)
  have hbd := Lib.hid (sealOf_bd (raw_bd m))
  have G1 := get_short he hw (n := N) (by omega)
  have T1 : (sealOf (rawI m)).take N = (rawI m).take N := by unfold sealOf; rw [List.take_append_of_le_length (by omega)]
  have T2 : (sealOf (rawI m)).take L = rawI m := by unfold sealOf; rw [List.take_append_of_le_length (by omega), List.take_of_length_le (by omega)]
  have D1 := Lib.hid (sealOf_bd ((raw_bd m).take N))
  have D2 := Lib.hid ((raw_bd m).append hB.bd)
  have D3 := Lib.hid (sealOf_bd ((raw_bd m).append hB.bd))
  have l1 := sealOf_len ((rawI m).take N)
  rw [List.length_take, hn, Nat.min_eq_left (by omega)] at l1
  have l2 : (rawI m ++ l).length = L + k := by rw [List.length_append, hn, hll]
  have l3 := sealOf_len (rawI m ++ l)
  rw [l2] at l3
  rw [hn] at hsl
  generalize hR : rawI m = R at *
  generalize hS : sealOf R = sl at *
  generalize hS1 : sealOf (R.take N) = s1 at *
  generalize hS2 : sealOf (R ++ l) = s2 at *
  have HG1 := Lib.hid G1
  have HG2 := Lib.hid hg
  have HS1 := Lib.hid hS1
  have HS2 := Lib.hid hS2
  have H2 := Lib.hid hsl
  have H3 := Lib.hid l1
  have H4 := Lib.hid l2
  have H5 := Lib.hid l3
  have HT1 := Lib.hid T1
  have HT2 := Lib.hid T2
  have HRn := Lib.hid hn
  have hx1 : (0 : Int) ≤ N := Int.natCast_nonneg _
  have hx2 : (N : Int) < L := Int.ofNat_lt.2 hN
  have dN : decide ((N : Int) < 0) = false := decide_eq_false (Int.not_lt.2 hx1)
  have hw64 : wrap64 (L : Int) = L := wrap64_nat hLn
  clear al hL hz h he hw ht hR hS hS1 hS2 G1 hg hsl l1 l2 l3 T1 T2 hn hB hll
  have hs : (k = 0 ∧ ((k : Int) == 0) = true) ∨ (((k : Int) == 0) = false ∧ xg = 5 ∧ mg = img0) := by
    rcases hc with q | ⟨q, q1, q2⟩
    · exact .inl ⟨q, by rw [q]; rfl⟩
    · exact .inr ⟨by rw [beq_eq_false_iff_ne]; omega, q1, q2⟩
  clear hc
  rcases hs with ⟨-, dk0⟩ | ⟨dk0, rfl, rfl⟩
  all_goals
    go_enter Tryd.func5, Tryd.ntmps5
    go_wp2_with (first
      | (go_at_call 6; ((with_reducible refine (K.out _).mono ?_); rintro e w1 ⟨rfl, hb⟩); have B1 := Lib.hid (AL.out.trans (hb.mono AL.out.size)); have X1 := BZ.out.keep hb; have p0 := X1.cell 0; have p1 := X1.cell 1; have p2 := X1.cell 2; have p3 := X1.cell 3; have p4 := X1.cell 4; clear hb X1)
      | (go_at_call 9; ((with_reducible refine (KP.out _ B1.out).mono ?_); rintro e w2 ⟨v2, rfl, ho, hb⟩); have B2 := Lib.hid (B1.out.trans (hb.mono B1.out.size)); obtain ⟨g2, m2, q2, rfl, hm2, hB2⟩ := ho.byn hbd.out; obtain rfl : m2 = L + 2 := hm2.symm.trans H2.out; obtain ⟨b2, o2, rfl, -⟩ := hB2.lie (by omega); have hq2 := hB2.cap; have P2 := Lib.hid ((hB2.pre (k := N) (by omega)).as HT1.out); have P3 := Lib.hid ((hB2.pre (k := L) (by omega)).as HT2.out); clear hb ho hB2 hm2)
      | (go_at_call 15; ((with_reducible refine (refCrcSeal_is _ _ _ _ _ P2.out (by omega)).mono ?_); rintro e w3 ⟨v3, rfl, ho, hb⟩); have B3 := Lib.hid (B2.out.trans (hb.mono B2.out.size)); obtain ⟨g3, m3, q3, rfl, hm3, hB3⟩ := (own_as ho HS1.out).byn D1.out; obtain rfl : m3 = N + 2 := hm3.symm.trans H3.out; have Y3 := Lib.hid hB3; have Z3 := Lib.hid (P3.out.keep hb (Nat.le_refl _)); clear ho hb hB3 hm3)
      | (go_at_call 10; ((with_reducible refine (imgGet_val Y3.out (HL.out.below B3.out HL.out.lt) (by omega) HG1.out).mono ?_); rintro e w4 ⟨a0', n0', c0', a1', n1', c1', a2', n2', c2', a3', n3', c3', a4', n4', c4', rfl, im, hb⟩); have hal := (Below.refl w4.heap.size w4).alloc (Nat.le_refl _) (.cells #[.slice a0' n0' c0', .slice a1' n1' c1', .slice a2' n2' c2', .slice a3' n3' c3', .slice a4' n4' c4'] 27); have hq := hb.trans (hal.mono hb.size); have B4 := Lib.hid (B3.out.trans (hq.mono B3.out.size)); have I4 := Lib.hid (im.keep hal); have Z4 := Lib.hid (Z3.out.keep hq (Nat.le_refl _)); have X4 := Lib.hid (BlkAt.new w4 27 #[.slice a0' n0' c0', .slice a1' n1' c1', .slice a2' n2' c2', .slice a3' n3' c3', .slice a4' n4' c4']); have Y4 := Lib.hid (HY.out.keep B4.out (Nat.le_refl _)); have hz4 : w.heap.size ≤ w4.heap.size + 1 := (by have := B4.out.size; simpa using this); clear im hb hal hq)
      | (at_builtin; refine wpList_append_by rfl _ _ 28 rfl (w4.heap.size + 1) 5 i0 (.int .u8 0) Tryd.underlying28 hi hz0 hz1 hz2 rfl rfl (Own.nil _ _ _) rfl Z4.out (by simp; omega) (by simp) (Below.refl _ _) ?_; intro v5 w5 ho5 hb5 hS5; rw [List.nil_append] at ho5; have O5 := Lib.hid ho5; have B5 := Lib.hid hb5; clear ho5 hb5 hS5)
      | (at_builtin; refine wpList_append_by rfl _ _ 28 rfl (w4.heap.size + 1) 5 i0 (.int .u8 0) Tryd.underlying28 hi hz0 hz1 hz2 rfl rfl O5.out rfl (Y4.out.keep B5.out (by simp)) (by rw [HRn.out]; omega) (by have := B5.out.size; simp at this; omega) B5.out ?_; intro v6 w6 ho6 hb6 hS6; obtain ⟨g6, m6, q6, rfl, hm6, hB6⟩ := ho6.byn D2.out; obtain rfl : m6 = L + k := hm6.symm.trans H4.out; have B6 := Lib.hid hb6; have Y6 := Lib.hid hB6; clear ho6 hb6 hS6 hm6 hB6)
      | (go_at_call 15; ((with_reducible refine (refCrcSeal_is _ _ _ _ _ Y6.out (by omega)).mono ?_); rintro e w7 ⟨v7, rfl, ho, hb⟩); obtain ⟨g7, m7, q7, rfl, hm7, hB7⟩ := (own_as ho HS2.out).byn D3.out; obtain rfl : m7 = L + k + 2 := hm7.symm.trans H5.out; have Y7 := Lib.hid hB7; have B7 := Lib.hid (B6.out.trans (hb.mono (by have := B6.out.size; simp at this; simp; omega))); clear ho hb hB7 hm7)
      | (go_at_call 10; ((with_reducible refine (imgGet_val Y7.out (HL.out.below (B4.out.trans (B7.out.mono hz4)) HL.out.lt) (by omega) HG2.out).mono ?_); rintro e w8 ⟨d0, k0, e0, d1, k1, e1, d2, k2, e2, d3, k3, e3, d4, k4, e4, rfl, im, hb⟩); have hal := (Below.refl w8.heap.size w8).alloc (Nat.le_refl _) (.cells #[.slice d0 k0 e0, .slice d1 k1 e1, .slice d2 k2 e2, .slice d3 k3 e3, .slice d4 k4 e4] 27); have hq := hb.trans (hal.mono hb.size); have B8 := Lib.hid (B7.out.trans (hq.mono (by have := B7.out.size; simp at this; omega))); have I8 := Lib.hid (im.keep hal); have X8 := Lib.hid (BlkAt.new w8 27 #[.slice d0 k0 e0, .slice d1 k1 e1, .slice d2 k2 e2, .slice d3 k3 e3, .slice d4 k4 e4]); have J8 := Lib.hid (I4.out.keep (B8.out.mono (by simp))); have V8 := X4.out.keep (B8.out.mono (by simp)); have z0 := V8.cell 0; have z1 := V8.cell 1; have z2 := V8.cell 2; have z3 := V8.cell 3; have z4 := V8.cell 4; clear im hb hal hq V8)
      | (go_at_call 12; ((with_reducible refine (refSame22_any J8.out (ImgAt.none _)).mono ?_); rintro e w9 ⟨rfl, hb⟩); have B9 := Lib.hid (B8.out.trans (hb.mono (by have := B8.out.size; simp at this; simp; omega))); have I9 := Lib.hid (I8.out.keep hb); have V9 := X8.out.keep hb; have y0 := V9.cell 0; have y1 := V9.cell 1; have y2 := V9.cell 2; have y3 := V9.cell 3; have y4 := V9.cell 4; clear hb V9)
      | (go_at_call 12; ((with_reducible refine (refSame22_any I9.out (ImgAt.none _)).mono ?_); rintro e w10 ⟨rfl, hb⟩); have B10 := Lib.hid (B9.out.trans (hb.mono (by have := B9.out.size; simp at this; omega))); clear hb)
      | (go_at_call 7; ((with_reducible refine (imgAwake_is _ (HL.out.below (B4.out.trans (B10.out.mono hz4)) HL.out.lt)).mono ?_); rintro e w11 ⟨rfl, hb⟩); have B11 := Lib.hid (B10.out.trans (hb.mono (by have := B10.out.size; simp at this; omega))); clear hb)
      | (go_at_call 7; ((with_reducible refine (imgAwake_is _ (HL.out.below (B4.out.trans (B9.out.mono hz4)) HL.out.lt)).mono ?_); rintro e w11 ⟨rfl, hb⟩); have B11 := Lib.hid (B9.out.trans (hb.mono (by have := B9.out.size; simp at this; omega))); clear hb))
    go_ret
    exact ⟨rfl, B4.out.trans (B11.out.mono hz4)⟩
theorem raw_few (h : ImgAt w a0 n0 c0 a1 n1 c1 a2 n2 c2 a3 n3 c3 a4 n4 c4 m) (hs : m.sec.length = m.data.length) (hz : fewB n0 n1 n2 n3 n4 = true) : (rawI m).length ≤ 100000 := by
  have hz := of_decide_eq_true hz
  have l0 := h.code.len
  have l1 := h.data.len
  have l3 := h.inn.len
  have l4 := h.out.len
  rw [raw_len m hs]
  omega
end
set_option maxHeartbeats 1000000 in
theorem walk (a0 : Option Addr) (n0 c0 : Nat) (a1 : Option Addr) (n1 c1 : Nat) (a2 : Option Addr) (n2 c2 : Nat) (a3 : Option Addr) (n3 c3 : Nat) (a4 : Option Addr) (n4 c4 : Nat) (m : Img) (x : Int) (b : Option Addr) (k d : Nat) (z : List Int) (w : World) (w0 : ImgAt w a0 n0 c0 a1 n1 c1 a2 n2 c2 a3 n3 c3 a4 n4 c4 m ∧ ImgOk m) (_w1 : (Lit.int .i64 x).wf = true) (w2 : IsRow .u8 w b k d z) (hL : FoursLaid w) :
    Calls Tryd.prog 5 #[.agg #[.slice a0 n0 c0, .slice a1 n1 c1, .slice a2 n2 c2, .slice a3 n3 c3, .slice a4 n4 c4], .int .i64 x, .slice b k d] w fun e w' => e = .returned (.bool true) ∧ Below w.heap.size w w' := by
  have hB := By.of_row w2
  obtain ⟨h, ok⟩ := w0
  cases hz : fewB n0 n1 n2 n3 n4
  · exact away hL hz (.inl rfl)
  · by_cases hk : (100 : Int) < k
    · exact away hL hz (.inr ⟨rfl, hk⟩)
    · have hk : (k : Int) ≤ 100 := by omega
      by_cases he : chkI m = 0
      · have ht := fits_ok he ok.words
        have hn := raw_few h ht.sec hz
        by_cases hx : x < 0 ∨ (0 ≤ x ∧ ((rawI m).length : Int) ≤ x)
        · exact much hL hz hk h he ht hn hx
        · obtain ⟨N, rfl⟩ : ∃ N : Nat, x = N := ⟨x.toNat, by omega⟩
          by_cases hl : z.take k = []
          · have hk0 : k = 0 := by rw [← hB.len, hl]; rfl
            refine within (L := (rawI m).length) (xg := 0) (mg := m) hL hz hk h he ht ok.words rfl hn (by omega) hB ?_ (.inl hk0)
            rw [hl, List.append_nil]
            have := get_put he ok.words
            unfold putI at this
            rw [if_pos he] at this
            exact this
          · have hk0 : 0 < k := by
              rcases Nat.eq_zero_or_pos k with q | q
              · exact absurd (List.eq_nil_of_length_eq_zero (hB.len.trans q)) hl
              · exact q
            exact within (L := (rawI m).length) (xg := 5) (mg := img0) hL hz hk h he ht ok.words rfl hn (by omega) hB (get_long he ok.words hl) (.inr ⟨hk0, rfl, rfl⟩)
      · exact nought hL hz hk h rfl he
end Go.Proofs.YtochnjbacglhbaaDoor.imageShort
