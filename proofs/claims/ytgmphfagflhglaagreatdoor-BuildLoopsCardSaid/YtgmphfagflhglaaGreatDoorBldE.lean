/- Package build: Go, Set, Finish of a builder. Conditions: as few as 900. -/
import Derived.Test.YtgmphfagflhglaaGreatDoorBldD
namespace Go.Proofs.YtgmphfagflhglaaGreatDoor
open Go.RowKit Go.Maps Go.IntWalk

theorem addi_bad {d a n : Int} (h : ¬ isReg0 d) : insE (31, d, a, 0, n) = 6 := by
  have e := shapes5.1.1
  show cChk 31 d a 0 n = 6
  unfold cChk
  rw [if_neg (by decide), e, fE_r _ _ (by decide), if_neg (show ¬ (0 ≤ d ∧ d ≤ 31) from h)]; rfl
theorem lui_bad {d n : Int} (h : ¬ isReg0 d) : insE (33, d, 0, 0, n) = 6 := by
  have e := shapes5.2.2.1.1
  show cChk 33 d 0 0 n = 6
  unfold cChk
  rw [if_neg (by decide), e, fE_r _ _ (by decide), if_neg (show ¬ (0 ≤ d ∧ d ≤ 31) from h)]; rfl
theorem set_small {s : Bst} {d n : Int} (h : -32768 ≤ n ∧ n ≤ 32767) : insE (31, d, 0, 0, n) = setE d ∧ s.ins (31, d, 0, 0, n) = s.setR d n := by
  unfold setE Bst.setR setI
  by_cases hd : isReg0 d
  · have e := addi_ok (a := 0) hd (by decide) h
    rw [if_pos hd, if_pos hd, if_pos h, e, ins_yes e]; exact ⟨rfl, rfl⟩
  · have e := addi_bad (a := 0) (n := n) hd
    rw [if_neg hd, if_neg hd, e, ins_no (by rw [e]; decide)]; exact ⟨rfl, rfl⟩
theorem add2 (s : Bst) (x y : I5) : (s.add [x]).add [y] = s.add [x, y] := by unfold Bst.add; rw [List.append_assoc]; rfl
/-- The tables lie below all that a builder holds. -/
theorem ShapesLaid.grow {B : Nat} {F F' : Nat → Prop} {w w' : World} (h : ShapesLaid w) (g : Grows F w F' w') (hl : ∀ j, F j → B ≤ j ∧ j < w.heap.size) (hB : 1 < B) : ShapesLaid w' := by
  obtain ⟨t2, h2⟩ := h
  exact ⟨t2, by rw [g.keeps.block _ (Array.getElem?_eq_some_iff.1 h2).1 fun q => by have := (hl _ q).1; omega]; exact h2⟩
section
variable {B b d : Nat} {s : Bst} {F : Nat → Prop}
set_option maxRecDepth 100000 in
set_option maxHeartbeats 2000000 in
theorem bldSet_small (x n : Int) (w : World) (h : BldAt B w b d s F) (hL : ShapesLaid w) (hn : s.L.length ≤ 1000) (hB : B ≤ w.heap.size) (hs : -32768 ≤ n ∧ n ≤ 32767) :
    Calls Tryz.prog 5 #[.pointer (some ⟨b, 0, none⟩), .int .i64 x, .int .i32 n] w (BldTo B b d (setE x) (s.setR x n) F w) := by
  have HA := Lib.hid (fun w => bldAddi_is x 0 n w)
  have HI := Lib.hid (fun w2 (k : Below w.heap.size w w2) => bldIns_is 31 x 0 0 n w2 (h.keep k) (hL.below k hL.lt) hn (Nat.le_trans hB k.size))
  rw [(set_small (s := s) hs).1, (set_small (s := s) hs).2] at HI
  obtain ⟨h1, h2⟩ := hs
  clear h hL
  go_enter Tryz.func5, Tryz.ntmps5
  go_wp2_with (first
    | (go_at_call 17; ((with_reducible refine (HA.out _).mono ?_); rintro e w1 ⟨rfl, hb⟩); have HB := Lib.hid hb; clear hb)
    | (go_at_call 9; ((with_reducible refine (HI.out _ HB.out).mono ?_); rintro e w2 ⟨F', rfl, q1, g1⟩); have H1 := Lib.hid q1; have G1 := Lib.hid g1; clear q1 g1))
  go_ret
  exact ⟨F', rfl, H1.out, (Grows.of_below F HB.out).trans G1.out⟩
set_option maxRecDepth 100000 in
set_option maxHeartbeats 2000000 in
theorem bldSet_big (x n : Int) (w : World) (h : BldAt B w b d s F) (hL : ShapesLaid w) (hg : 1 < B) (hn : s.L.length ≤ 900) (hB : B ≤ w.heap.size) (hs : ¬ (-32768 ≤ n ∧ n ≤ 32767)) (hx : isReg0 x) (n1 : -2147483648 ≤ n) (n2 : n ≤ 2147483647) :
    Calls Tryz.prog 5 #[.pointer (some ⟨b, 0, none⟩), .int .i64 x, .int .i32 n] w (BldTo B b d 0 (s.add [(33, x, 0, 0, n % 4294967296 / 65536), (32, x, x, 0, n % 65536)]) F w) := by
  have e1 := lui_ok hx (n := n % 4294967296 / 65536) (by omega)
  have e2 := ori_ok (a := x) hx hx (n := n % 65536) (by omega)
  have HI1 := Lib.hid (bldIns_is 33 x 0 0 (n % 4294967296 / 65536) w h hL (by omega) hB)
  rw [e1, ins_yes e1] at HI1
  have HI2 := Lib.hid (fun w2 F2 (k : BldAt B w2 b d (s.add [(33, x, 0, 0, n % 4294967296 / 65536)]) F2) (l : ShapesLaid w2) (m : B ≤ w2.heap.size) => bldIns_is 32 x x 0 (n % 65536) w2 k l (by show (s.L ++ [_]).length ≤ _; rw [List.length_append]; simp; omega) m)
  rw [e2, ins_yes e2] at HI2
  have HL := Lib.hid hL
  have HF := Lib.hid (fun F2 w2 (g : Grows F w F2 w2) => hL.grow g h.low hg)
  clear h hL e1 e2
  have hw : wrap64 (IntKind.u16.wrap n) = n % 65536 := by simp [IntKind.wrap, IntKind.bits, IntKind.signed, wrap64]; omega
  obtain ⟨X, hX⟩ : ∃ X, n % 4294967296 / 65536 = X := ⟨_, rfl⟩
  obtain ⟨Y, hY⟩ : ∃ Y, n % 65536 = Y := ⟨_, rfl⟩
  rw [hY] at hw HI2
  rw [hX] at HI1 HI2
  rw [hX, hY]
  rcases (show n < -32768 ∨ (32767 < n ∧ -32768 ≤ n ∧ n / 65536 = X ∧ decide (n ≤ 32767) = false) by by_cases q : n < -32768; exact .inl q; exact .inr ⟨by omega, by omega, by rw [← hX]; omega, by simp; omega⟩) with q | ⟨q, q', q2, q3⟩
  all_goals
    clear hs
    go_enter Tryz.func5, Tryz.ntmps5
    go_wp2_with (first
      | (go_at_call 9; ((with_reducible refine (HI1.out).mono ?_); rintro e w1 ⟨F1, rfl, q1, g1⟩); have H1 := Lib.hid q1; have G1 := Lib.hid g1; clear q1 g1)
      | (go_at_call 9; ((with_reducible refine (HI2.out _ _ H1.out (HF.out _ _ G1.out) (Nat.le_trans hB G1.out.keeps.size)).mono ?_); rintro e w2 ⟨F2, rfl, q2, g2⟩); have H2 := Lib.hid q2; have G2 := Lib.hid g2; clear q2 g2))
    go_ret
    exact ⟨F2, rfl, add2 s _ _ ▸ H2.out, G1.out.trans G2.out⟩
set_option maxRecDepth 100000 in
set_option maxHeartbeats 2000000 in
theorem bldSet_bad (x n : Int) (w : World) (h : BldAt B w b d s F) (hL : ShapesLaid w) (hn : s.L.length ≤ 900) (hB : B ≤ w.heap.size) (hs : ¬ (-32768 ≤ n ∧ n ≤ 32767)) (hx : ¬ isReg0 x) (n1 : -2147483648 ≤ n) (n2 : n ≤ 2147483647) :
    Calls Tryz.prog 5 #[.pointer (some ⟨b, 0, none⟩), .int .i64 x, .int .i32 n] w (BldTo B b d 6 s F w) := by
  have e1 := lui_bad (n := n % 4294967296 / 65536) hx
  have HI1 := Lib.hid (bldIns_is 33 x 0 0 (n % 4294967296 / 65536) w h hL (by omega) hB)
  rw [e1, ins_no (by rw [e1]; decide)] at HI1
  clear h hL e1 hx
  obtain ⟨X, hX⟩ : ∃ X, n % 4294967296 / 65536 = X := ⟨_, rfl⟩
  rw [hX] at HI1
  rcases (show n < -32768 ∨ (32767 < n ∧ -32768 ≤ n ∧ n / 65536 = X ∧ decide (n ≤ 32767) = false) by by_cases q : n < -32768; exact .inl q; exact .inr ⟨by omega, by omega, by rw [← hX]; omega, by simp; omega⟩) with q | ⟨q, q', q2, q3⟩
  all_goals
    clear hs
    go_enter Tryz.func5, Tryz.ntmps5
    go_wp2_with (go_at_call 9; ((with_reducible refine (HI1.out).mono ?_); rintro e w1 ⟨F1, rfl, q1, g1⟩); have H1 := Lib.hid q1; have G1 := Lib.hid g1; clear q1 g1)
    go_ret
    exact ⟨F1, rfl, H1.out, G1.out⟩
theorem bldSet_is (x n : Int) (w : World) (h : BldAt B w b d s F) (hL : ShapesLaid w) (hg : 1 < B) (hn : s.L.length ≤ 900) (hB : B ≤ w.heap.size) (n1 : -2147483648 ≤ n) (n2 : n ≤ 2147483647) :
    Calls Tryz.prog 5 #[.pointer (some ⟨b, 0, none⟩), .int .i64 x, .int .i32 n] w (BldTo B b d (setE x) (s.setR x n) F w) := by
  by_cases hs : -32768 ≤ n ∧ n ≤ 32767
  · exact bldSet_small x n w h hL (by omega) hB hs
  · by_cases hx : isReg0 x
    · have := bldSet_big x n w h hL hg hn hB hs hx n1 n2
      unfold setE Bst.setR setI
      rw [if_pos hx, if_pos hx, if_neg hs, show n % 4294967296 % 65536 = n % 65536 by omega]
      exact this
    · have := bldSet_bad x n w h hL hn hB hs hx n1 n2
      unfold setE Bst.setR
      rw [if_neg hx, if_neg hx]
      exact this
set_option maxRecDepth 100000 in
set_option maxHeartbeats 4000000 in
theorem bldGo_op (o x a k : Int) (s' : Bst) (nm : ByteArray) (w : World) (h : BldAt B w b d s F) (hB : B ≤ w.heap.size) (ho : isGo o)
    (hA : ∀ G, DrAt B w d s G → Calls Tryz.prog 22 #[.pointer (some ⟨d, 0, none⟩), .agg #[.int .i64 o, .int .i64 x, .int .i64 a, .int .i64 0, .int .i64 0], .string nm] w (DrTo B d k s' G w)) :
    Calls Tryz.prog 33 #[.pointer (some ⟨b, 0, none⟩), .int .i64 o, .int .i64 x, .int .i64 a, .string nm] w (BldTo B b d k s' F w) := by
  obtain ⟨G, h⟩ := h
  have HM := Lib.hid h.made.now
  have HA := Lib.hid (hA G h.dr)
  have H := Lib.hid h
  clear h hA
  rcases ho with rfl | rfl | rfl | rfl | rfl
  all_goals
    go_enter Tryz.func33, Tryz.ntmps33
    go_wp2_with (first
      | (go_at_call 18; ((with_reducible refine (HM.out).mono ?_); rintro e w1 ⟨rfl, rfl⟩))
      | (go_at_call 22; ((with_reducible refine (HA.out).mono ?_); rintro e w1 ⟨G', rfl, q1, g1⟩); have H1 := Lib.hid q1; have G1 := Lib.hid g1; clear q1 g1))
    go_ret
    exact H.out.to hB ⟨G', rfl, H1.out, G1.out⟩
set_option maxRecDepth 100000 in
set_option maxHeartbeats 4000000 in
theorem bldGo_no (o x a : Int) (nm : ByteArray) (w : World) (h : BldAt B w b d s F) (ho : ¬ isGo o) :
    Calls Tryz.prog 33 #[.pointer (some ⟨b, 0, none⟩), .int .i64 o, .int .i64 x, .int .i64 a, .string nm] w (BldTo B b d 2 s F w) := by
  obtain ⟨G, h⟩ := h
  have HM := Lib.hid h.made.now
  have H := Lib.hid h
  have o0 : (o == 36) = false := by simp; intro e; exact ho (.inl e)
  have o1 : (o == 37) = false := by simp; intro e; exact ho (.inr (.inl e))
  have o2 : (o == 38) = false := by simp; intro e; exact ho (.inr (.inr (.inl e)))
  have o3 : (o == 39) = false := by simp; intro e; exact ho (.inr (.inr (.inr (.inl e))))
  have o4 : (o == 40) = false := by simp; intro e; exact ho (.inr (.inr (.inr (.inr e))))
  clear h ho
  go_enter Tryz.func33, Tryz.ntmps33
  go_wp2_with (go_at_call 18; ((with_reducible refine (HM.out).mono ?_); rintro e w1 ⟨rfl, rfl⟩))
  go_ret
  exact ⟨F, rfl, ⟨G, H.out⟩, Grows.refl F w⟩
theorem bldGo_is (o x a : Int) (nm : ByteArray) (w : World) (h : BldAt B w b d s F) (hL : ShapesLaid w) (hs : nm.size ≤ maxLen) (hn : s.L.length ≤ 1000) (hd : s.ds.length ≤ 1000) (hu : s.us.length ≤ 1000) (hB : B ≤ w.heap.size) :
    Calls Tryz.prog 33 #[.pointer (some ⟨b, 0, none⟩), .int .i64 o, .int .i64 x, .int .i64 a, .string nm] w (BldTo B b d (goE o x a nm) (s.goes o x a nm) F w) := by
  by_cases ho : isGo o
  · by_cases hi : insE (o, x, a, 0, 0) = 0
    · cases hm : nameB nm
      · obtain ⟨e1, _, e2⟩ := goes_nm (s := s) ho hi hm
        rw [e1, e2]; exact bldGo_op o x a 8 s nm w h hB ho fun G hG => drAim_nm B d s G o x a nm w hG hL hs hd hu hB hi hm
      · obtain ⟨e1, _, e2⟩ := goes_yes (s := s) ho hi hm
        rw [e1, e2]; exact bldGo_op o x a 0 _ nm w h hB ho fun G hG => drAim_yes B d s G o x a nm w hG hL hs hn hd hu hB hi hm
    · obtain ⟨e1, e2⟩ := goes_bad (s := s) (n := nm) ho hi
      rw [e1, e2]; exact bldGo_op o x a _ s nm w h hB ho fun G hG => drAim_bad B d s G o x a _ nm w hG hL rfl hi
  · obtain ⟨e1, e2⟩ := goes_no (s := s) (d := x) (a := a) (n := nm) ho
    rw [e1, e2]; exact bldGo_no o x a nm w h ho
set_option maxRecDepth 100000 in
set_option maxHeartbeats 2000000 in
theorem bldFinish_no (w : World) (h : BldAt B w b d s F) (hE : ErrLaid w) (hu : s.us.length ≤ 1000) (he : resE s.ds s.us ≠ 0) :
    Calls Tryz.prog 10 #[.pointer (some ⟨b, 0, none⟩)] w (RetFin s w) := by
  have e0 : finW s = [] := by unfold finW; rw [if_neg he]
  unfold RetFin finN finE
  rw [e0]
  obtain ⟨G, h⟩ := h
  obtain ⟨t, v, T, hdr⟩ := h.dr
  have HM := Lib.hid h.made.now
  have c0 := hdr.blk.cell 0
  have HR := Lib.hid (labResolve_is B t s.ds s.us T w hdr.tab hu hE)
  have he1 : (resE s.ds s.us != 0) = true := by simpa using he
  unfold RetRes at HR
  generalize resE s.ds s.us = ke at *
  generalize resN s.ds s.us = kn at *
  clear h hdr he e0
  go_enter Tryz.func10, Tryz.ntmps10
  go_wp2_with (first
    | (go_at_call 18; ((with_reducible refine (HM.out).mono ?_); rintro e w1 ⟨rfl, rfl⟩))
    | (go_at_call 24; ((with_reducible refine (HR.out).mono ?_); rintro e w1 ⟨vf, rfl, ho, hb⟩); have HB := Lib.hid hb; clear ho hb))
  refine bodyPost_ret (v := .tuple #[.slice none 0 0, .string kn, .int .i64 ke]) (by simp [results, Tryz.results10, go_sem]) rfl ⟨.slice none 0 0, rfl, OwnW.nil _ _ _, HB.out⟩
set_option maxRecDepth 100000 in
set_option maxHeartbeats 2000000 in
theorem bldFinish_yes (w : World) (h : BldAt B w b d s F) (hL : ShapesLaid w) (hE : ErrLaid w) (hn : s.L.length ≤ 900) (hu : s.us.length ≤ 1000) (hf : Fit s) (he : resE s.ds s.us = 0) (hm : resN s.ds s.us = ⟨#[]⟩) :
    Calls Tryz.prog 10 #[.pointer (some ⟨b, 0, none⟩)] w (RetFin s w) := by
  have e0 : finW s = wordsK s.L (resL s.ds s.us) s.L.length := by unfold finW; rw [if_pos he]
  unfold RetFin finN finE
  rw [e0, he, hm]
  obtain ⟨G, h⟩ := h
  obtain ⟨t, v, T, hdr⟩ := h.dr
  obtain ⟨av, cv, rfl, -⟩ := hdr.own.at
  have HM := Lib.hid h.made.now
  have c0 := hdr.blk.cell 0
  have HR := Lib.hid (labResolve_is B t s.ds s.us T w hdr.tab hu hE)
  unfold RetRes at HR
  rw [he, hm] at HR
  have HFX := Lib.hid hf.res
  have hfl := resL_len s.ds s.us
  have HD := Lib.hid hdr
  have HL := Lib.hid hL
  generalize resL s.ds s.us = fx at *
  have HWW := Lib.hid (fun w1 (k : Below w.heap.size w w1) af cf (q : ElAt fixK w1 af fx.length cf fx) => drWords_is B d s G fx af fx.length cf w1 ⟨_, _, _, HD.out.keep k⟩ (HL.out.below k HL.out.lt) q hn HFX.out (by omega))
  clear h hdr he hm e0 hf hL
  go_enter Tryz.func10, Tryz.ntmps10
  go_wp2_with (first
    | (go_at_call 18; ((with_reducible refine (HM.out).mono ?_); rintro e w1 ⟨rfl, rfl⟩))
    | (go_at_call 24; ((with_reducible refine (HR.out).mono ?_); rintro e w1 ⟨vf, rfl, ho, hb⟩); obtain ⟨af, cf, rfl, hfe⟩ := ho.at; have HB := Lib.hid hb; have HFE := Lib.hid hfe; have c1 := (HD.out.keep hb).blk.cell 1; clear ho hb hfe)
    | (go_at_call 25; ((with_reducible refine (HWW.out _ HB.out _ _ HFE.out).mono ?_); rintro e w2 ⟨vw, rfl, ho, hb⟩); have HO := Lib.hid ho; have HB2 := Lib.hid hb; clear ho hb))
  refine bodyPost_ret (v := .tuple #[vw, .string ⟨#[]⟩, .int .i64 0]) (by simp [results, Tryz.results10, go_sem]) rfl ⟨_, rfl, HO.out.mono HB.out.size, HB.out.trans (HB2.out.mono HB.out.size)⟩
theorem bldFinish_is (w : World) (h : BldAt B w b d s F) (hL : ShapesLaid w) (hE : ErrLaid w) (hn : s.L.length ≤ 900) (hu : s.us.length ≤ 1000) (hf : Fit s) :
    Calls Tryz.prog 10 #[.pointer (some ⟨b, 0, none⟩)] w (RetFin s w) := by
  by_cases he : resE s.ds s.us = 0
  · refine bldFinish_yes w h hL hE hn hu hf he ?_
    unfold resE at he
    unfold resN
    cases hl : lackN s.ds s.us with
    | none => rfl
    | some n => rw [hl] at he; cases he
  · exact bldFinish_no w h hE hu he
end
end Go.Proofs.YtgmphfagflhglaaGreatDoor
