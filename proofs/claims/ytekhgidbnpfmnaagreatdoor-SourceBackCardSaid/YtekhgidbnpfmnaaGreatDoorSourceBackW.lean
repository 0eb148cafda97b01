/- The walk of the law SourceBack, on what package source's Text and Parse and what all laws ask last answer (premises here). -/
import Derived.Test.YtekhgidbnpfmnaaGreatDoorSouZ
import Derived.Test.YtekhgidbnpfmnaaGreatDoorSouW
namespace Go.Proofs.YtekhgidbnpfmnaaGreatDoor.sourceBack
open Go.RowKit Go.IntWalk Go.ChangeShapes Go.OpenShut

theorem step_l {f : Nat → Nat} {L : List Tx} {j : Nat} (h : j < L.length) : noteB f (L.take (j + 1)) = noteB f (L.take j) ++ ((if f j = 1 then noteT ++ [10] else if f j = 2 then [32, 10, 32] else []) ++ (L[j] ++ [32, 10])) := by
  rw [List.take_succ_eq_append_getElem h, noteB_snoc, List.length_take, Nat.min_eq_left (Nat.le_of_lt h)]
theorem el_map {L : List Tx} {j : Nat} (h : j < L.length) : el (L.map txt) j = txt L[j] := by
  unfold el
  rw [List.getD_eq_getElem?_getD, List.getElem?_map, List.getElem?_eq_getElem h]
  rfl
theorem note_in {l : List Int} {j : Nat} (h : j < l.length) : fNote l j = (byAt l j).toNat % 3 := if_pos h
theorem note_out {l : List Int} {j : Nat} (h : ¬ j < l.length) : fNote l j = 0 := if_neg h

section
variable {w : World} {a0 a1 a2 a3 a4 : Option Addr} {n0 n1 n2 n3 n4 c0 c1 c2 c3 c4 : Nat} {m : Img} {b : Option Addr} {k d : Nat} {l : List Int}
set_option maxRecDepth 100000 in
set_option maxHeartbeats 2000000 in
theorem away (KA : ∀ W, Below w.heap.size w W → Calls Tryz.prog 7 #[] W fun e w' => e = .returned (.bool true) ∧ Below W.heap.size W w') (hz : fewB n0 n1 n2 n3 n4 = false) : Calls Tryz.prog 4 #[.agg #[.slice a0 n0 c0, .slice a1 n1 c1, .slice a2 n2 c2, .slice a3 n3 c3, .slice a4 n4 c4], .slice b k d] w fun e w' => e = .returned (.bool true) ∧ Below w.heap.size w w' := by
  have al := (Below.refl w.heap.size w).alloc (Nat.le_refl _) (.cells #[.slice a0 n0 c0, .slice a1 n1 c1, .slice a2 n2 c2, .slice a3 n3 c3, .slice a4 n4 c4] 27)
  have AL := Lib.hid al
  have HA := Lib.hid KA
  have K := Lib.hid (fun W => refFew_is (w := W) (a0 := a0) (n0 := n0) (c0 := c0) (a1 := a1) (n1 := n1) (c1 := c1) (a2 := a2) (n2 := n2) (c2 := c2) (a3 := a3) (n3 := n3) (c3 := c3) (a4 := a4) (n4 := n4) (c4 := c4))
  rw [hz] at K
  clear al KA hz
  go_enter Tryz.func4, Tryz.ntmps4
  go_wp2_with (first
    | (go_at_call 6; ((with_reducible refine (K.out _).mono ?_); rintro e w1 ⟨rfl, hb⟩); have B1 := Lib.hid (AL.out.trans (hb.mono AL.out.size)); clear hb)
    | (go_at_call 7; ((with_reducible refine (HA.out _ B1.out).mono ?_); rintro e w2 ⟨rfl, hb⟩); have B2 := Lib.hid (B1.out.trans (hb.mono B1.out.size)); clear hb))
  go_ret
  exact ⟨rfl, B2.out⟩
set_option maxRecDepth 100000 in
set_option maxHeartbeats 2000000 in
theorem nought (KA : ∀ W, Below w.heap.size w W → Calls Tryz.prog 7 #[] W fun e w' => e = .returned (.bool true) ∧ Below W.heap.size W w') (KT : ∀ W, Below w.heap.size w W → Calls Tryz.prog 10 #[.agg #[.slice a0 n0 c0, .slice a1 n1 c1, .slice a2 n2 c2, .slice a3 n3 c3, .slice a4 n4 c4]] W (TexTo W m)) (hz : fewB n0 n1 n2 n3 n4 = true) (he : (texS m).1 ≠ 0) : Calls Tryz.prog 4 #[.agg #[.slice a0 n0 c0, .slice a1 n1 c1, .slice a2 n2 c2, .slice a3 n3 c3, .slice a4 n4 c4], .slice b k d] w fun e w' => e = .returned (.bool true) ∧ Below w.heap.size w w' := by
  have al := (Below.refl w.heap.size w).alloc (Nat.le_refl _) (.cells #[.slice a0 n0 c0, .slice a1 n1 c1, .slice a2 n2 c2, .slice a3 n3 c3, .slice a4 n4 c4] 27)
  have AL := Lib.hid al
  have HA := Lib.hid KA
  have ht : (texS m).2 = [] := tex_no he
  unfold TexTo at KT
  rw [ht] at KT
  generalize (texS m).1 = x at *
  have HT := Lib.hid KT
  have K := Lib.hid (fun W => refFew_is (w := W) (a0 := a0) (n0 := n0) (c0 := c0) (a1 := a1) (n1 := n1) (c1 := c1) (a2 := a2) (n2 := n2) (c2 := c2) (a3 := a3) (n3 := n3) (c3 := c3) (a4 := a4) (n4 := n4) (c4 := c4))
  rw [hz] at K
  have BZ := Lib.hid (BlkAt.new w 27 #[.slice a0 n0 c0, .slice a1 n1 c1, .slice a2 n2 c2, .slice a3 n3 c3, .slice a4 n4 c4])
  have dn : (x != 0) = true := by simpa using he
  have hem := str_none (a := txt []) rfl
  clear al KA KT hz he ht
  go_enter Tryz.func4, Tryz.ntmps4
  go_wp2_with (first
    | (go_at_call 6; ((with_reducible refine (K.out _).mono ?_); rintro e w1 ⟨rfl, hb⟩); have B1 := Lib.hid (AL.out.trans (hb.mono AL.out.size)); have X1 := BZ.out.keep hb; have p0 := X1.cell 0; have p1 := X1.cell 1; have p2 := X1.cell 2; have p3 := X1.cell 3; have p4 := X1.cell 4; clear hb X1)
    | (go_at_call 10; ((with_reducible refine (HT.out _ B1.out).mono ?_); rintro e w2 ⟨rfl, hb⟩); have B2 := Lib.hid (B1.out.trans (hb.mono B1.out.size)); clear hb)
    | (go_at_call 7; ((with_reducible refine (HA.out _ B2.out).mono ?_); rintro e w3 ⟨rfl, hb⟩); have B3 := Lib.hid (B2.out.trans (hb.mono B2.out.size)); clear hb))
  go_ret
  exact ⟨rfl, B3.out⟩
set_option maxRecDepth 100000 in
set_option maxHeartbeats 4000000 in
theorem within (KA : ∀ W, Below w.heap.size w W → Calls Tryz.prog 7 #[] W fun e w' => e = .returned (.bool true) ∧ Below W.heap.size W w') (KT : ∀ W, Below w.heap.size w W → Calls Tryz.prog 10 #[.agg #[.slice a0 n0 c0, .slice a1 n1 c1, .slice a2 n2 c2, .slice a3 n3 c3, .slice a4 n4 c4]] W (TexTo W m)) (KP : ∀ (t : Tx) W, Below w.heap.size w W → t.length ≤ 500000 → Calls Tryz.prog 8 #[.string (txt t)] W (ParTo W (parS t))) (hz : fewB n0 n1 n2 n3 n4 = true) (h : ImgAt w a0 n0 c0 a1 n1 c1 a2 n2 c2 a3 n3 c3 a4 n4 c4 m) (hw : WordsI m) (he : (texS m).1 = 0) (hB : By w b k d l) : Calls Tryz.prog 4 #[.agg #[.slice a0 n0 c0, .slice a1 n1 c1, .slice a2 n2 c2, .slice a3 n3 c3, .slice a4 n4 c4], .slice b k d] w fun e w' => e = .returned (.bool true) ∧ Below w.heap.size w w' := by
  have al := (Below.refl w.heap.size w).alloc (Nat.le_refl _) (.cells #[.slice a0 n0 c0, .slice a1 n1 c1, .slice a2 n2 c2, .slice a3 n3 c3, .slice a4 n4 c4] 27)
  have AL := Lib.hid al
  have HA := Lib.hid KA
  obtain ⟨hk, hc, ht⟩ := tex_ok he
  have hf := fits_ok hk hw
  obtain ⟨e1, e2⟩ := par_tex hw he
  obtain ⟨e3, e4⟩ := par_noted (f := fNote l) hw he
  have hl := line_len hf hc
  have hlen := lines_few hf.sec
  have hfew := of_decide_eq_true hz
  have q0 := h.code.len
  have q1 := h.data.len
  have q3 := h.inn.len
  have q4 := h.out.len
  have hT := text_len hl
  have hN := note_len (f := fNote l) hl _ (Nat.le_refl _)
  rw [← ht] at hT
  rw [List.take_length] at hN
  unfold TexTo at KT
  rw [he] at KT
  have hLN : (linesT m).length ≤ 3000 := by omega
  have K1 := fun W q => KP (texS m).2 W q (by omega)
  have K2 := fun W q => KP (noteB (fNote l) (linesT m)) W q (by omega)
  rw [e1] at K1
  obtain ⟨⟨x9, n9, m9⟩, hx9⟩ : ∃ x, parS (noteB (fNote l) (linesT m)) = x := ⟨_, rfl⟩
  rw [hx9] at K2 e3 e4
  simp only at e3 e4
  rw [e3, e4] at K2
  have hLT : (lns (txt (texS m).2).data.toList).map txt = (linesT m).map txt := by rw [txt_list, e2]
  have KL := Lib.hid (fun W => hLT ▸ refLines23_is (txt (texS m).2) W (by rw [txt_size]; omega))
  generalize (texS m).2 = T at *
  generalize hLL : linesT m = L at *
  obtain ⟨N, hNL⟩ : ∃ N, L.length = N := ⟨_, rfl⟩
  rw [hNL] at K1
  unfold ParTo at K1 K2
  simp only at K1 K2
  have HK1 := Lib.hid K1
  have HK2 := Lib.hid K2
  have HKT := Lib.hid KT
  have HNL := Lib.hid hNL
  have HY := Lib.hid hB
  have HM := Lib.hid h
  have HL := Lib.hid hl
  have HL3 := Lib.hid (show N ≤ 3000 by omega)
  have K := Lib.hid (fun W => refFew_is (w := W) (a0 := a0) (n0 := n0) (c0 := c0) (a1 := a1) (n1 := n1) (c1 := c1) (a2 := a2) (n2 := n2) (c2 := c2) (a3 := a3) (n3 := n3) (c3 := c3) (a4 := a4) (n4 := n4) (c4 := c4))
  rw [hz] at K
  have BZ := Lib.hid (BlkAt.new w 27 #[.slice a0 n0 c0, .slice a1 n1 c1, .slice a2 n2 c2, .slice a3 n3 c3, .slice a4 n4 c4])
  clear al KA KP KT K1 K2 hz he ht hk hc hf e1 e2 hl hlen hfew q0 q1 q3 q4 hT hN hLN hLT hLL hNL h hw hB hx9
  go_enter Tryz.func4, Tryz.ntmps4
  go_wp2_with (first
    | (go_at_call 6; ((with_reducible refine (K.out _).mono ?_); rintro e w1 ⟨rfl, hb⟩); have B1 := Lib.hid (AL.out.trans (hb.mono AL.out.size)); have X1 := Lib.hid (BZ.out.keep hb); have p0 := X1.out.cell 0; have p1 := X1.out.cell 1; have p2 := X1.out.cell 2; have p3 := X1.out.cell 3; have p4 := X1.out.cell 4; clear hb)
    | (go_at_call 10; ((with_reducible refine (HKT.out _ B1.out).mono ?_); rintro e w2 ⟨rfl, hb⟩); have B2 := Lib.hid (B1.out.trans (hb.mono B1.out.size)); have X2 := Lib.hid (X1.out.keep hb); clear hb)
    | (go_at_call 13; ((with_reducible refine (KL.out _).mono ?_); rintro e w3 ⟨v3, rfl, ho, hb⟩); obtain ⟨av, cv, rfl, hE⟩ := ho.atn (m := N) (by rw [List.length_map]; exact HNL.out); have HE := Lib.hid hE; have B3 := Lib.hid (B2.out.trans (hb.mono B2.out.size)); have X3 := Lib.hid (X2.out.keep hb); clear hb ho hE))
  go_loop [8, 9] (fun t i => ∃ j : Nat, j ≤ N ∧ i = .int .i64 j ∧ t = .string (txt (noteB (fNote l) (L.take j)))) (fun _ i => N - (intOf i).toNat)
  case atStart => exact ⟨0, by omega, rfl, rfl⟩
  case round =>
    obtain ⟨j, hj, rfl, rfl⟩ := hrel
    have YB := Lib.hid (HY.out.keep B3.out (Nat.le_refl _))
    by_cases hlt : j < N
    · have hlt' : (j : Int) < N := by omega
      have hjl : j < L.length := by rw [HNL.out]; exact hlt
      obtain ⟨ba, oa, rfl, hcell⟩ := HE.out.str hlt
      rw [el_map hjl] at hcell
      have hst := step_l (f := fNote l) hjl
      have hlu := HL.out L[j] (List.getElem_mem hjl)
      have hls := note_len (f := fNote l) HL.out j (by omega)
      have h3 := HL3.out
      generalize L[j] = u at *
      generalize noteB (fNote l) (L.take j) = S at *
      by_cases hjk : j < k
      · have hjk' : (j : Int) < k := by omega
        obtain ⟨bb, ob, rfl, hby⟩ := YB.out.lie (by omega)
        have hb := hby j hjk
        have hbd := YB.out.bd.at (i := j) (by rw [YB.out.len]; exact hjk)
        rw [note_in (by rw [YB.out.len]; exact hjk)] at hst
        generalize byAt l j = y at *
        have hyc : y % 3 = 0 ∨ y % 3 = 1 ∨ y % 3 = 2 := by omega
        clear hby
        rcases hyc with y0 | y0 | y0
        · rw [show y.toNat % 3 = 0 by omega] at hst
          have hc1 : txt S ++ txt u = txt (S ++ u) := cat_txt S u
          have hc2 : txt (S ++ u) ++ ({ data := #[32, 10] } : ByteArray) = txt (S ++ u ++ [32, 10]) := cat_txt (S ++ u) [32, 10]
          have hz1 : ¬ (9223372036854775807 < (txt S).size + (txt u).size) := by rw [txt_size, txt_size]; omega
          have hz2 : ¬ (9223372036854775807 < (txt (S ++ u)).size + 2) := by rw [txt_size]; simp; omega
          have HN := Lib.hid (show S ++ (u ++ [32, 10]) = noteB (fNote l) (L.take (j + 1)) by rw [hst]; rfl)
          clear hst
          go_wp2_with fail
          go_round
          case rel => exact ⟨j + 1, by omega, by go_num, by rw [HN.out]⟩
          case measure => simp [intOf]; omega
        · rw [show y.toNat % 3 = 1 by omega] at hst
          change _ = S ++ ([35, 32, 106, 117, 109, 112, 32, 49, 10] ++ (u ++ [32, 10])) at hst
          have hc0 : txt S ++ ({ data := #[35, 32, 106, 117, 109, 112, 32, 49, 10] } : ByteArray) = txt (S ++ [35, 32, 106, 117, 109, 112, 32, 49, 10]) := cat_txt S _
          have hz0 : ¬ (9223372036854775807 < (txt S).size + 9) := by rw [txt_size]; omega
          rw [← List.append_assoc] at hst
          have hls : (S ++ [35, 32, 106, 117, 109, 112, 32, 49, 10] : Tx).length ≤ 90 * j + 9 := by rw [List.length_append]; simp only [List.length_cons, List.length_nil]; omega
          generalize hS' : (S ++ [35, 32, 106, 117, 109, 112, 32, 49, 10] : Tx) = S' at *
          have hc1 : txt S' ++ txt u = txt (S' ++ u) := cat_txt S' u
          have hc2 : txt (S' ++ u) ++ ({ data := #[32, 10] } : ByteArray) = txt (S' ++ u ++ [32, 10]) := cat_txt (S' ++ u) [32, 10]
          have hz1 : ¬ (9223372036854775807 < (txt S').size + (txt u).size) := by rw [txt_size, txt_size]; omega
          have hz2 : ¬ (9223372036854775807 < (txt (S' ++ u)).size + 2) := by rw [txt_size]; simp; omega
          have HN := Lib.hid (show S' ++ (u ++ [32, 10]) = noteB (fNote l) (L.take (j + 1)) from hst.symm)
          clear hst
          go_wp2_with fail
          go_round
          case rel => exact ⟨j + 1, by omega, by go_num, by rw [HN.out]⟩
          case measure => simp [intOf]; omega
        · rw [show y.toNat % 3 = 2 by omega] at hst
          change _ = S ++ ([32, 10, 32] ++ (u ++ [32, 10])) at hst
          have hc0 : txt S ++ ({ data := #[32, 10, 32] } : ByteArray) = txt (S ++ [32, 10, 32]) := cat_txt S _
          have hz0 : ¬ (9223372036854775807 < (txt S).size + 3) := by rw [txt_size]; omega
          rw [← List.append_assoc] at hst
          have hls : (S ++ [32, 10, 32] : Tx).length ≤ 90 * j + 3 := by rw [List.length_append]; simp only [List.length_cons, List.length_nil]; omega
          generalize hS' : (S ++ [32, 10, 32] : Tx) = S' at *
          have hc1 : txt S' ++ txt u = txt (S' ++ u) := cat_txt S' u
          have hc2 : txt (S' ++ u) ++ ({ data := #[32, 10] } : ByteArray) = txt (S' ++ u ++ [32, 10]) := cat_txt (S' ++ u) [32, 10]
          have hz1 : ¬ (9223372036854775807 < (txt S').size + (txt u).size) := by rw [txt_size, txt_size]; omega
          have hz2 : ¬ (9223372036854775807 < (txt (S' ++ u)).size + 2) := by rw [txt_size]; simp; omega
          have HN := Lib.hid (show S' ++ (u ++ [32, 10]) = noteB (fNote l) (L.take (j + 1)) from hst.symm)
          clear hst
          go_wp2_with fail
          go_round
          case rel => exact ⟨j + 1, by omega, by go_num, by rw [HN.out]⟩
          case measure => simp [intOf]; omega
      · have hjk' : ¬ ((j : Int) < k) := by omega
        rw [note_out (by rw [YB.out.len]; exact hjk)] at hst
        have hc1 : txt S ++ txt u = txt (S ++ u) := cat_txt S u
        have hc2 : txt (S ++ u) ++ ({ data := #[32, 10] } : ByteArray) = txt (S ++ u ++ [32, 10]) := cat_txt (S ++ u) [32, 10]
        have hz1 : ¬ (9223372036854775807 < (txt S).size + (txt u).size) := by rw [txt_size, txt_size]; omega
        have hz2 : ¬ (9223372036854775807 < (txt (S ++ u)).size + 2) := by rw [txt_size]; simp; omega
        have HN := Lib.hid (show S ++ (u ++ [32, 10]) = noteB (fNote l) (L.take (j + 1)) by rw [hst]; rfl)
        clear hst
        go_wp2_with fail
        go_round
        case rel => exact ⟨j + 1, by omega, by go_num, by rw [HN.out]⟩
        case measure => simp [intOf]; omega
    · obtain rfl : j = N := by omega
      have hN2 : L.take j = L := List.take_of_length_le (by rw [HNL.out]; exact Nat.le_refl _)
      rw [hN2]
      go_wp2_with (first
        | (go_at_call 8; ((with_reducible refine (HK1.out _ B3.out).mono ?_); rintro e w4 ⟨a0', n0', c0', a1', n1', c1', a2', n2', c2', a3', n3', c3', a4', n4', c4', rfl, im, hb⟩); have hal := (Below.refl w4.heap.size w4).alloc (Nat.le_refl _) (.cells #[.slice a0' n0' c0', .slice a1' n1' c1', .slice a2' n2' c2', .slice a3' n3' c3', .slice a4' n4' c4'] 27); have hq := hb.trans (hal.mono hb.size); have B4 := Lib.hid (B3.out.trans (hq.mono B3.out.size)); have I4 := Lib.hid (im.keep hal); have Z4 := Lib.hid (BlkAt.new w4 27 #[.slice a0' n0' c0', .slice a1' n1' c1', .slice a2' n2' c2', .slice a3' n3' c3', .slice a4' n4' c4']); have X4 := Lib.hid (X3.out.keep hq); clear im hb hal hq)
        | (go_at_call 8; ((with_reducible refine (HK2.out _ B4.out).mono ?_); rintro e w5 ⟨d0', k0', e0', d1', k1', e1', d2', k2', e2', d3', k3', e3', d4', k4', e4', rfl, im, hb⟩); have hal := (Below.refl w5.heap.size w5).alloc (Nat.le_refl _) (.cells #[.slice d0' k0' e0', .slice d1' k1' e1', .slice d2' k2' e2', .slice d3' k3' e3', .slice d4' k4' e4'] 27); have hq := hb.trans (hal.mono hb.size); have B5 := Lib.hid (B4.out.trans (hq.mono B4.out.size)); have I5 := Lib.hid (I4.out.keep hq); have J5 := Lib.hid (im.keep hal); have M5 := Lib.hid (HM.out.keep B5.out); have V4 := Z4.out.keep hq; have z0 := V4.cell 0; have z1 := V4.cell 1; have z2 := V4.cell 2; have z3 := V4.cell 3; have z4 := V4.cell 4; have V5 := X4.out.keep hq; have o0 := V5.cell 0; have o1 := V5.cell 1; have o2 := V5.cell 2; have o3 := V5.cell 3; have o4 := V5.cell 4; have Z5 := Lib.hid (BlkAt.new w5 27 #[.slice d0' k0' e0', .slice d1' k1' e1', .slice d2' k2' e2', .slice d3' k3' e3', .slice d4' k4' e4']); have X5 := Lib.hid (X4.out.keep hq); clear im hb hal hq V4 V5)
        | (go_at_call 12; ((with_reducible refine (refSame22_any I5.out M5.out).mono ?_); rintro e w6 ⟨rfl, hb⟩); have B6 := Lib.hid (B5.out.trans (hb.mono B5.out.size)); have J6 := Lib.hid (J5.out.keep hb); have M6 := Lib.hid (HM.out.keep B6.out); have V5 := Z5.out.keep hb; have y0 := V5.cell 0; have y1 := V5.cell 1; have y2 := V5.cell 2; have y3 := V5.cell 3; have y4 := V5.cell 4; have V6 := X5.out.keep hb; have q0 := V6.cell 0; have q1 := V6.cell 1; have q2 := V6.cell 2; have q3 := V6.cell 3; have q4 := V6.cell 4; clear hb V5 V6)
        | (go_at_call 12; ((with_reducible refine (refSame22_any J6.out M6.out).mono ?_); rintro e w7 ⟨rfl, hb⟩); have B7 := Lib.hid (B6.out.trans (hb.mono B6.out.size)); clear hb)
        | (go_at_call 7; ((with_reducible refine (HA.out _ B7.out).mono ?_); rintro e w8 ⟨rfl, hb⟩); have B8 := Lib.hid (B7.out.trans (hb.mono B7.out.size)); clear hb))
      go_ret
      exact ⟨rfl, B8.out⟩
end
set_option maxHeartbeats 1000000 in
theorem walk_of (a0 : Option Addr) (n0 c0 : Nat) (a1 : Option Addr) (n1 c1 : Nat) (a2 : Option Addr) (n2 c2 : Nat) (a3 : Option Addr) (n3 c3 : Nat) (a4 : Option Addr) (n4 c4 : Nat) (m : Img) (b : Option Addr) (k d : Nat) (z : List Int) (w : World) (KA : ∀ W, Below w.heap.size w W → Calls Tryz.prog 7 #[] W fun e w' => e = .returned (.bool true) ∧ Below W.heap.size W w') (KT : ∀ W, Below w.heap.size w W → Calls Tryz.prog 10 #[.agg #[.slice a0 n0 c0, .slice a1 n1 c1, .slice a2 n2 c2, .slice a3 n3 c3, .slice a4 n4 c4]] W (TexTo W m)) (KP : ∀ (t : Tx) W, Below w.heap.size w W → t.length ≤ 500000 → Calls Tryz.prog 8 #[.string (txt t)] W (ParTo W (parS t))) (w0 : ImgAt w a0 n0 c0 a1 n1 c1 a2 n2 c2 a3 n3 c3 a4 n4 c4 m ∧ ImgOk m) (w2 : IsRow .u8 w b k d z) :
    Calls Tryz.prog 4 #[.agg #[.slice a0 n0 c0, .slice a1 n1 c1, .slice a2 n2 c2, .slice a3 n3 c3, .slice a4 n4 c4], .slice b k d] w fun e w' => e = .returned (.bool true) ∧ Below w.heap.size w w' := by
  by_cases hz : fewB n0 n1 n2 n3 n4 = true
  · by_cases he : (texS m).1 = 0
    · exact within KA (KT : ∀ W, Below w.heap.size w W → Calls Tryz.prog 10 #[.agg #[.slice a0 n0 c0, .slice a1 n1 c1, .slice a2 n2 c2, .slice a3 n3 c3, .slice a4 n4 c4]] W (TexTo W m)) (KP : ∀ (t : Tx) W, Below w.heap.size w W → t.length ≤ 500000 → Calls Tryz.prog 8 #[.string (txt t)] W (ParTo W (parS t))) hz w0.1 w0.2.words he (By.of_row w2)
    · exact nought KA KT hz he
  · exact away KA (Bool.eq_false_iff.2 hz)
theorem walk (a0 : Option Addr) (n0 c0 : Nat) (a1 : Option Addr) (n1 c1 : Nat) (a2 : Option Addr) (n2 c2 : Nat) (a3 : Option Addr) (n3 c3 : Nat) (a4 : Option Addr) (n4 c4 : Nat) (m : Img) (b : Option Addr) (k d : Nat) (z : List Int) (w : World) (w0 : ImgAt w a0 n0 c0 a1 n1 c1 a2 n2 c2 a3 n3 c3 a4 n4 c4 m ∧ ImgOk m) (w2 : IsRow .u8 w b k d z) (hL : LinLaid w) :
    Calls Tryz.prog 4 #[.agg #[.slice a0 n0 c0, .slice a1 n1 c1, .slice a2 n2 c2, .slice a3 n3 c3, .slice a4 n4 c4], .slice b k d] w fun e w' => e = .returned (.bool true) ∧ Below w.heap.size w w' :=
  walk_of a0 n0 c0 a1 n1 c1 a2 n2 c2 a3 n3 c3 a4 n4 c4 m b k d z w (fun W q => souAwake_is W (hL.below q (Nat.le_refl _))) (fun _ q => souText_is (w0.1.keep q) w0.2.words (hL.below q (Nat.le_refl _))) (fun t W q h => souParse_is t W h (hL.below q (Nat.le_refl _))) w0 w2
end Go.Proofs.YtekhgidbnpfmnaaGreatDoor.sourceBack
