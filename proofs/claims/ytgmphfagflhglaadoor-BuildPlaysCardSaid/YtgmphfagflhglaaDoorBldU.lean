/- The document's own builder of code: Finish. Conditions: as few as 900. -/
import Derived.Test.YtgmphfagflhglaaDoorBldT
namespace Go.Proofs.YtgmphfagflhglaaDoor
open Go.RowKit Go.IntWalk

theorem infoU32 : (Tryd.prog.info? 56).map (fun i => (i.zero, i.size, i.bytes)) = some (some (.int .u32 0), 1, 4) := by kernel_rfl
set_option maxRecDepth 100000 in
set_option maxHeartbeats 2000000 in
theorem refBFinish_no (B x : Nat) (s : Bst) (F : Nat → Prop) (w : World) (h : RbAt B w x s F) (hd : s.ds.length ≤ 1000) (hu : s.us.length ≤ 1000) (he : resE s.ds s.us ≠ 0) :
    Calls Tryd.prog 8 #[.pointer (some ⟨x, 0, none⟩)] w (RetFin s w) := by
  have e0 : finW s = [] := by unfold finW; rw [if_neg he]
  unfold RetFin finN finE
  rw [e0]
  obtain ⟨cs, v, G, h1, h2, h3, h4, h5, h6, h7⟩ := h.ex
  have HR := Lib.hid (refResolve19o_is _ _ B x cs s.ds s.us G w h1 hd hu)
  have hz1 : (resE s.ds s.us != 0) = true := by simpa using he
  clear h h1 h2 h3 h4 h5 h6 h7 he
  go_enter Tryd.func8, Tryd.ntmps8
  go_wp2_with (go_at_call 29; ((with_reducible refine (HR.out).mono ?_); rintro e w1 ⟨vf, rfl, ho, hb⟩); have HB := Lib.hid hb; clear ho hb)
  refine bodyPost_ret (v := .tuple #[.slice none 0 0, .string (resN s.ds s.us), .int .i64 (resE s.ds s.us)]) (by simp [results, Tryd.results8, go_sem]) rfl ⟨.slice none 0 0, rfl, OwnW.nil _ _ _, HB.out⟩
set_option maxRecDepth 100000 in
set_option maxHeartbeats 2000000 in
theorem refBFinish_yes (B x : Nat) (s : Bst) (F : Nat → Prop) (w : World) (h : RbAt B w x s F) (hn : s.L.length ≤ 900) (hd : s.ds.length ≤ 1000) (hu : s.us.length ≤ 1000) (he : resE s.ds s.us = 0) (hm : resN s.ds s.us = ⟨#[]⟩) :
    Calls Tryd.prog 8 #[.pointer (some ⟨x, 0, none⟩)] w (RetFin s w) := by
  have e0 : finW s = wordsK s.L (resL s.ds s.us) s.L.length := by unfold finW; rw [if_pos he]
  unfold RetFin finN finE
  rw [e0]
  obtain ⟨cs, v, G, h1, h2, h3, h4, h5, h6, h7⟩ := h.ex
  have HR := refResolve19o_is _ _ B x cs s.ds s.us G w h1 hd hu
  unfold RetRes at HR
  rw [he, hm] at HR ⊢
  have hfl := resL_len s.ds s.us
  generalize resL s.ds s.us = fx at *
  have HR := Lib.hid HR
  obtain ⟨va, ua, hbk, -⟩ := h1.ex
  obtain ⟨a1, c1, rfl, hel⟩ := h4.at
  have H := Lib.hid h
  have HBK := Lib.hid hbk
  have HEL := Lib.hid hel
  have H3 := Lib.hid h3
  obtain ⟨N, hN⟩ : ∃ N, s.L.length = N := ⟨_, rfl⟩
  obtain ⟨i0, hi, hz0, hz1, hz2⟩ := info_el infoU32
  clear h h1 h2 h3 h4 h5 h6 h7 hbk hel e0
  go_enter Tryd.func8, Tryd.ntmps8
  go_wp2_with (go_at_call 29; ((with_reducible refine (HR.out).mono ?_); rintro e w1 ⟨vf, rfl, ho, hb⟩); have HB := Lib.hid hb; obtain ⟨af, cf, rfl, hf⟩ := ho.at; have HF := Lib.hid hf; have c0 := ((HBK.out.keep hb).cell 0).trans H3.out; clear ho hb hf)
  go_loopw [8, 9] (fun v i wr => ∃ k : Nat, k ≤ N ∧ i = .int .i64 k ∧ OwnW .u32 wr w1.heap.size 56 v (wordsK s.L fx k) ∧ Below w1.heap.size w1 wr) (fun _ i _ => N - (intOf i).toNat)
  case atStart => exact ⟨0, by omega, rfl, OwnW.nil _ _ _, Below.refl _ _⟩
  case round =>
    obtain ⟨k, hk, rfl, ho, hb1⟩ := hrel
    have hb := HB.out.trans (hb1.mono HB.out.size)
    have HO := Lib.hid ho
    have HB2 := Lib.hid hb
    have HB3 := Lib.hid hb1
    have c0 := ((HBK.out.keep hb).cell 0).trans H3.out
    have HNN := Lib.hid hN
    by_cases hlt : k < N
    · have hlt' : (k : Int) < N := by omega
      obtain ⟨g, off, rfl, d0, d1, d2, d3, d4⟩ := (HEL.out.keep hb).ins (show k < s.L.length by omega)
      clear ho hb hb1
      obtain ⟨X, hX⟩ : ∃ X, el s.L k = X := ⟨_, rfl⟩
      rw [hX] at d0 d1 d2 d3 d4
      obtain ⟨x0, x1, x2, x3, x4⟩ := X
      simp only at d0 d1 d2 d3 d4
      go_wp2
      go_loopw [11] (fun j wz => ∃ m : Nat, m ≤ fx.length ∧ j = .int .i64 m ∧ BlkAt wr.heap.size 25 #[.int .i64 x0, .int .i64 x1, .int .i64 x2, .int .i64 x3, .int .i64 (fixN (fx.take m) k x4)] wz ∧ Below wr.heap.size wr wz) (fun j _ => fx.length - (intOf j).toNat)
      case atStart => exact ⟨0, by omega, rfl, BlkAt.new _ _ _, (Below.refl _ _).alloc (Nat.le_refl _) _⟩
      case round =>
        obtain ⟨m, hm2, rfl, hbk, hbz⟩ := hrel
        have HBX := Lib.hid hbk
        have HBZ := Lib.hid hbz
        have HB4 := Lib.hid (HB3.out.trans (hbz.mono HB3.out.size))
        have hz4 := hbk.lt
        have b4 := hbk.cell 4
        have f4 := hbk.free 4
        by_cases hlm : m < fx.length
        · have hlm' : (m : Int) < (fx.length : Nat) := by omega
          obtain ⟨gf, of, rfl, r0, r1⟩ := (HF.out.keep HB4.out).fix hlm
          clear hbk hbz
          by_cases hq : (el fx m).1 = (k : Int)
          · have HQ := Lib.hid (show fixN (fx.take (m + 1)) k x4 = (el fx m).2 by rw [fixN_take _ _ _ hlm, if_pos hq])
            rw [hq] at r0
            generalize (el fx m).2 = to at *
            clear hq
            go_wp2
            go_roundw
            case rel => exact ⟨m + 1, by omega, by go_num, (HBX.out.set 4 _).eq (by rw [HQ.out]; rfl), HBZ.out.setCell (Nat.le_refl _) _⟩
            case measure => simp [intOf]; omega
          · have HQ := Lib.hid (show fixN (fx.take (m + 1)) k x4 = fixN (fx.take m) k x4 by rw [fixN_take _ _ _ hlm, if_neg hq])
            have hq2 : ((el fx m).1 == (k : Int)) = false := by simpa using hq
            generalize (el fx m).1 = af0 at *
            generalize (el fx m).2 = to at *
            clear hq
            go_wp2
            go_roundw
            case rel => exact ⟨m + 1, by omega, by go_num, HQ.out ▸ HBX.out, HBZ.out⟩
            case measure => simp [intOf]; omega
        · obtain rfl : m = fx.length := by omega
          rw [List.take_length] at *
          have b0 := hbk.cell 0
          have b1 := hbk.cell 1
          have b2 := hbk.cell 2
          have b3 := hbk.cell 3
          have HW := Lib.hid (wordsK_next s.L fx k)
          have HXW := Lib.hid (show insW (fixI fx k (el s.L k)) = cEnc x0 x1 x2 x3 (fixN fx k x4) by rw [hX]; rfl)
          have HEN := Lib.hid (fun w => refEncode_is x0 x1 x2 x3 (fixN fx k x4) (cEnc x0 x1 x2 x3 (fixN fx k x4)) (cChk x0 x1 x2 x3 (fixN fx k x4)) w rfl rfl)
          have HOZ := Lib.hid (HO.out.keep HBZ.out)
          have HB5 := Lib.hid (HB2.out.trans (HBZ.out.mono HB2.out.size))
          have hlk := wordsK_len s.L fx k
          generalize fixN fx k x4 = y4 at *
          clear hbk hbz
          go_wp2_with (first
            | (go_at_call 30; ((with_reducible refine (HEN.out _).mono ?_); rintro e w5 ⟨rfl, hb5⟩); have HN5 := Lib.hid hb5; clear hb5)
            | (at_builtin; refine wpList_append_1 rfl _ _ 41 rfl w1.heap.size 56 i0 (.int .u32 0) Tryd.underlying41 hi hz0 hz1 (by omega) rfl rfl ((HOZ.out.keep HN5.out).keep ((Below.refl _ _).alloc (Nat.le_refl _) _)) rfl ((BlkAt.new _ _ _).cell 0) (by omega) (by have := HB4.out.size; have := HN5.out.size; simp; omega) ?_; intro v' w' hown hgr hnx; have HOX := Lib.hid hown; have HBX := Lib.hid (((HB4.out.trans (HN5.out.mono HB4.out.size)).alloc (by have := HB4.out.size; have := HN5.out.size; omega) _).grown hgr (by have := HB4.out.size; have := HN5.out.size; simp; omega) fun j hj => (HO.out.lt j hj).1); obtain ⟨a2, c2, rfl, -⟩ := hown.wsn (m := k + 1) (by rw [List.length_append, hlk]; rfl); clear hown hgr hnx))
          go_roundw
          case rel => exact ⟨k + 1, by omega, by go_num, by rw [HW.out, HXW.out]; exact HOX.out, HBX.out⟩
          case measure => simp [intOf]; omega
    · obtain rfl : k = N := by omega
      obtain ⟨a0, c0', rfl, -⟩ := HO.out.wsn (wordsK_len s.L fx k)
      clear ho hb hb1
      go_wp2
      refine bodyPost_ret (v := .tuple #[.slice a0 k c0', .string ⟨#[]⟩, .int .i64 0]) (by simp [results, Tryd.results8, go_sem]) rfl ⟨.slice a0 k c0', rfl, (HNN.out ▸ HO.out.mono HB.out.size), HB2.out⟩
theorem refBFinish_is (B x : Nat) (s : Bst) (F : Nat → Prop) (w : World) (h : RbAt B w x s F) (hn : s.L.length ≤ 900) (hd : s.ds.length ≤ 1000) (hu : s.us.length ≤ 1000) :
    Calls Tryd.prog 8 #[.pointer (some ⟨x, 0, none⟩)] w (RetFin s w) := by
  by_cases he : resE s.ds s.us = 0
  · refine refBFinish_yes B x s F w h hn hd hu he ?_
    unfold resE at he
    unfold resN
    cases hl : lackN s.ds s.us with
    | none => rfl
    | some n => rw [hl] at he; cases he
  · exact refBFinish_no B x s F w h hd hu he
end Go.Proofs.YtgmphfagflhglaaDoor
