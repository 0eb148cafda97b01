/- Package label: what fixes and Resolve answer. Conditions: as few as 1000; errors.errorType is what start-up lays. -/
import Derived.Test.YtgmphfagflhglaaGreatDoorLabC
import Derived.Test.YtgmphfagflhglaaGreatDoorLabU
import Derived.Test.YtgmphfagflhglaaGreatDoorLabE
namespace Go.Proofs.YtgmphfagflhglaaGreatDoor
open Go.RowKit Go.Maps Go.IntWalk

/-- The error of fixes. -/
def lackV (ds us : Df) : Value := match lackN ds us with | some n => .iface 92 (.agg #[.string n]) | none => .nilIface
def FixRes (ds us : Df) (w : World) (e : Ending) (w' : World) : Prop := ∃ v, e = .returned (.tuple #[v, lackV ds us]) ∧ OwnEl fixK w' w.heap.size 97 v (resL ds us) ∧ Below w.heap.size w w'
set_option maxRecDepth 100000 in
set_option maxHeartbeats 2000000 in
theorem labFixes_is (B t : Nat) (ds us : Df) (F : Nat → Prop) (w : World) (h : LabAt B w t ds us F) (hn : us.length ≤ 1000) :
    Calls Tryz.prog 41 #[.pointer (some ⟨t, 0, none⟩)] w (FixRes ds us w) := by
  obtain ⟨M, m, D, rows, v0, h, -⟩ := h
  obtain ⟨ub, u1, u2, u3⟩ := h.uses
  obtain ⟨a, c, rfl, h4⟩ := u1.at
  obtain ⟨i0, hi, hz0, hz1, hz2⟩ := info_el infoFix
  rw [u2] at h4 h
  obtain ⟨n, hnl⟩ : ∃ n, us.length = n := ⟨_, rfl⟩
  rw [hnl] at h h4 hn
  have c1 : w.cell? ⟨t, 1, none⟩ = some (.slice a n c) := h.blk.cell 1
  have HNL := Lib.hid hnl
  have H := Lib.hid h
  have H4 := Lib.hid h4
  have U3 := Lib.hid u3
  clear h h4 hnl u1 u2 u3
  go_enter Tryz.func41, Tryz.ntmps41
  go_wp2
  go_loopw [4, 12] (fun v i wr => ∃ k : Nat, k ≤ n ∧ i = .int .i64 k ∧ OwnEl fixK wr w.heap.size 97 v ((us.take k).map (fixOf ds)) ∧ Below w.heap.size w wr ∧ ∀ j, j < k → plB ds (el us j).1 = true) (fun _ i _ => n - (intOf i).toNat)
  case atStart => exact ⟨0, by omega, rfl, by rw [List.take_zero]; exact OwnEl.nil _ _ _ _, Below.refl _ _, fun j hj => by omega⟩
  case round =>
    obtain ⟨k, hk, rfl, ho, hb, hall⟩ := hrel
    have HA := Lib.hid hall
    have HO := Lib.hid ho
    have HB := Lib.hid hb
    have hsz := hb.size
    by_cases hlt : k < n
    · have hlt' : (k : Int) < n := by omega
      have hkl : k < us.length := by rw [HNL.out]; exact hlt
      have hI := H.out.keep hb
      obtain ⟨b, off, rfl, d0, d1⟩ := (H4.out.keep hb).use hlt
      obtain ⟨r1, r2⟩ := U3.out k hkl
      have HFS := Lib.hid (fixes_snoc ds us hkl)
      have HRN := Lib.hid (@res_no ds us k hkl HA.out)
      rw [r2] at d1
      obtain ⟨sb, hsb⟩ : ∃ sb, (el ub k).1 = sb := ⟨_, rfl⟩
      rw [hsb] at r1 d0
      have hbk := hI.spots _ r1
      obtain ⟨Mx, hM⟩ : ∃ Mx, el us k = Mx := ⟨_, rfl⟩
      obtain ⟨s, at_⟩ := Mx
      rw [hM] at d1 HFS HRN hbk
      simp only at d1 HFS HRN hbk
      have e0 : wr.cell? ⟨sb, 0, none⟩ = some (.string s) := hbk.cell 0
      have e1 : wr.cell? ⟨sb, 1, none⟩ = some (.int .i64 (plV ds s)) := hbk.cell 1
      have e2 : wr.cell? ⟨sb, 2, none⟩ = some (.bool (plB ds s)) := hbk.cell 2
      have hsl := hbk.lt
      obtain ⟨L, hL⟩ : ∃ L, (us.take k).map (fixOf ds) = L := ⟨_, rfl⟩
      rw [hL] at HO HFS
      have hLl : L.length ≤ 1000 := by rw [← hL, List.length_map, List.length_take]; omega
      have HM := Lib.hid hM
      have HBu := Lib.hid (BlkAt.new wr 117 #[.pointer (some ⟨sb, 0, none⟩), .int .i64 at_])
      clear ho hb hall hM hL hkl r1 r2 hsb hI hbk
      cases hp : plB ds s
      · have HN := Lib.hid (HRN.out hp)
        rw [hp] at e2
        clear hp
        go_wp2
        go_quiet (fail)
        go_wp2
        refine bodyPost_ret (v := .tuple #[.slice none 0 0, .iface 92 (.agg #[.string s])]) (by simp [results, Tryz.results41, go_sem]) rfl ⟨.slice none 0 0, ?_, ?_, ?_⟩
        · unfold lackV
          rw [HN.out.2.2.2]
        · rw [HN.out.1]; exact OwnEl.nil _ _ _ _
        · have q := HB.out.alloc hsz (.cells #[.pointer (some ⟨sb, 0, none⟩), .int .i64 at_] 117)
          exact ⟨q.os, q.tape, q.output, q.size, q.block⟩
      · have HP := Lib.hid hp
        rw [hp] at e2
        obtain ⟨a0, n0, c0, rfl⟩ := OwnEl.shape HO.out
        clear hp
        go_wp2
        have ba := (Below.refl wr.heap.size wr).alloc (Nat.le_refl _) (.cells #[.pointer (some ⟨sb, 0, none⟩), .int .i64 at_] 117)
        have hsW0 : (wr.alloc (.cells #[.pointer (some ⟨sb, 0, none⟩), .int .i64 at_] 117)).heap.size = wr.heap.size + 1 := by simp
        have HBW0 := HB.out.alloc hsz (.cells #[.pointer (some ⟨sb, 0, none⟩), .int .i64 at_] 117)
        have HOW0 := HO.out.keep ba
        obtain ⟨ubl, hubl⟩ : ∃ z, wr.heap.size = z := ⟨_, rfl⟩
        obtain ⟨W, hW⟩ : ∃ W, wr.alloc (.cells #[.pointer (some ⟨sb, 0, none⟩), .int .i64 at_] 117) = W := ⟨_, rfl⟩
        have g1 := (ba.cell (p := ⟨sb, 1, none⟩) hsl).trans e1
        have b0 := HBu.out.cell 0
        have b1 := HBu.out.cell 1
        rw [hW] at HOW0 HBW0 g1 b0 b1 hsW0
        rw [hubl] at b0 b1 hsW0
        rw [hW]
        simp only [hubl]
        have f0 : W.cell? ⟨ubl, 0, none⟩ = some (.pointer (some ⟨sb, 0, none⟩)) := b0
        have f1 : W.cell? ⟨ubl, 1, none⟩ = some (.int .i64 at_) := b1
        have hsW : w.heap.size ≤ W.heap.size := by omega
        have HOW := Lib.hid HOW0
        have HBW := Lib.hid HBW0
        clear hW b0 b1 e0 e1 e2 hsW0 ba d0 d1 HOW0 HBW0
        have hall : ∀ o : Obj, OwnEl fixK (W.drew.alloc o) w.heap.size 97 (.slice a0 n0 c0) L := fun o => (HOW.out.keep (Below.refl _ _).drew).keep ((Below.refl _ _).alloc (Nat.le_refl _) _)
        have HALL := Lib.hid hall
        clear hall
        go_region_law (refine step_append_el1 rfl _ _ 58 rfl w.heap.size 97 i0 _ Tryz.underlying58 hi hz0 hz1 (by omega) rfl rfl (HALL.out _) rfl (one_el (K := fixK) (b := W.heap.size) W.drew 97 (at_, plV ds s) #[.int .i64 at_, .int .i64 (plV ds s)] rfl rfl) (by omega) (by simp; omega) ?_; intro v2 w2 hown2 hgrow2 hnext2; have HO2 := Lib.hid hown2; have HB2 := Lib.hid ((HBW.out.drew.alloc (by simpa using hsW) _).grown hgrow2 (by simp; omega) fun j hj => (HOW.out.lt j hj).1); obtain ⟨a2, n2, c2, rfl⟩ := OwnEl.shape hown2; clear hown2 hgrow2 hnext2)
        all_goals
          go_wp2
          go_roundw
          case rel => exact ⟨k + 1, by omega, by go_num, by rw [HFS.out]; exact HO2.out, HB2.out, fun j hj => by
            rcases Nat.lt_succ_iff_lt_or_eq.1 hj with q | q
            · exact HA.out j q
            · subst q; rw [HM.out]; exact HP.out⟩
          case measure => simp [intOf]; omega
    · obtain rfl : k = n := by omega
      have HY := Lib.hid (@res_yes ds us (fun j hj => HA.out j (by have := HNL.out; omega)))
      clear ho hb hall
      obtain ⟨a0, n0, c0, rfl⟩ := OwnEl.shape HO.out
      go_wp2
      refine bodyPost_ret (v := .tuple #[.slice a0 n0 c0, .nilIface]) (by simp [results, Tryz.results41, go_sem]) rfl ⟨.slice a0 n0 c0, ?_, ?_, HB.out⟩
      · unfold lackV
        rw [HY.out.2.2.2]
      · have := HO.out
        rw [HY.out.1]
        rw [← HNL.out, List.take_length] at this
        exact this
set_option maxRecDepth 100000 in
set_option maxHeartbeats 2000000 in
theorem labResolve_is (B t : Nat) (ds us : Df) (F : Nat → Prop) (w : World) (h : LabAt B w t ds us F) (hn : us.length ≤ 1000) (hE : ErrLaid w) :
    Calls Tryz.prog 24 #[.pointer (some ⟨t, 0, none⟩)] w (RetRes ds us w) := by
  have C := Lib.hid (labFixes_is B t ds us F w h hn)
  have HMD : Hid (MadeL (.pointer (some ⟨t, 0, none⟩)) w true) := by
    obtain ⟨M, m, D, rows, v0, h, -⟩ := h
    exact Lib.hid h.made
  have HE := Lib.hid hE
  clear h hE
  cases hl : lackN ds us with
  | none =>
    have e1 : lackV ds us = .nilIface := by unfold lackV; rw [hl]
    have e2 : resN ds us = ⟨#[]⟩ := by unfold resN; rw [hl]
    have e3 : resE ds us = 0 := by unfold resE; rw [hl]
    have E1 := Lib.hid e1
    have E2 := Lib.hid e2
    have E3 := Lib.hid e3
    clear e1 e2 e3 hl
    go_enter Tryz.func24, Tryz.ntmps24
    go_wp2_with (first
      | (go_at_call 40; ((with_reducible refine (HMD.out.now).mono ?_); rintro e w1 ⟨rfl, rfl⟩))
      | (go_at_call 41; ((with_reducible refine (C.out).mono ?_); rintro e w1 ⟨v, rfl, ho, hb⟩); rw [E1.out]; have HO := Lib.hid ho; have HB := Lib.hid hb; obtain ⟨a0, n0, c0, rfl⟩ := OwnEl.shape ho; clear ho hb)
      | (go_at_call 42; ((with_reducible refine (as_none _ _).mono ?_); rintro e w2 ⟨rfl, rfl⟩)))
    refine bodyPost_ret (v := .tuple #[.slice a0 n0 c0, .string ⟨#[]⟩, .int .i64 0]) (by simp [results, Tryz.results24, go_sem]) rfl ⟨.slice a0 n0 c0, ?_, ?_, ?_⟩
    · rw [E2.out, E3.out]
    · exact HO.out.keep ((Below.refl _ _).alloc (Nat.le_refl _) _)
    · exact HB.out.alloc HB.out.size _
  | some n =>
    have e1 : lackV ds us = .iface 92 (.agg #[.string n]) := by unfold lackV; rw [hl]
    have e2 : resN ds us = n := by unfold resN; rw [hl]
    have e3 : resE ds us = 10 := by unfold resE; rw [hl]
    have e4 : resL ds us = [] := by unfold resL; rw [hl]
    have E1 := Lib.hid e1
    have E2 := Lib.hid e2
    have E3 := Lib.hid e3
    have E4 := Lib.hid e4
    clear e1 e2 e3 e4 hl
    go_enter Tryz.func24, Tryz.ntmps24
    go_wp2_with (first
      | (go_at_call 40; ((with_reducible refine (HMD.out.now).mono ?_); rintro e w1 ⟨rfl, rfl⟩))
      | (go_at_call 41; ((with_reducible refine (C.out).mono ?_); rintro e w1 ⟨v, rfl, ho, hb⟩); rw [E1.out]; have HB := Lib.hid hb; have hs1 := hb.size; have HE1 := Lib.hid (HE.out.keep hb); obtain ⟨a0, n0, c0, rfl⟩ := OwnEl.shape ho; clear ho hb)
      | (go_at_call 42; ((with_reducible refine (as_lack n w1.heap.size (.string ⟨#[]⟩) _ (HE1.out.keep ((Below.refl _ _).alloc (Nat.le_refl _) _)) (by simp) (by simp)).mono ?_); rintro e w2 ⟨rfl, hc, hb2⟩); have HB2 := Lib.hid hb2; clear hb2))
    go_quiet (fail)
    go_wp2
    refine bodyPost_ret (v := .tuple #[.slice none 0 0, .string n, .int .i64 10]) (by simp [results, Tryz.results24, go_sem]) rfl ⟨.slice none 0 0, ?_, ?_, ?_⟩
    · rw [E2.out, E3.out]
    · rw [E4.out]; exact OwnEl.nil _ _ _ _
    · have q := (HB.out.alloc hs1 (.cells #[.string ⟨#[]⟩] 92)).trans (HB2.out.mono hs1)
      exact ⟨q.os, q.tape, q.output, q.size, q.block⟩
end Go.Proofs.YtgmphfagflhglaaGreatDoor
