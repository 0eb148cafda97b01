/- The document's own Names: sorted as they come. Conditions: as few as 1000. -/
import Derived.Test.YthaccdalciihpaaDoorLabT
import Derived.Sort.Walk0
namespace Go.Proofs.YthaccdalciihpaaDoor
open Go.RowKit Go.IntWalk

/-- All but place j's stand in order, and what stands behind j is no less than it. -/
structure InsAt (P : List ByteArray) (j : Nat) : Prop where
  lt : j < P.length
  rest : ∀ a b, a < b → b < P.length → a ≠ j → b ≠ j → bleq (el P a) (el P b) = true
  less : ∀ b, j < b → b < P.length → bleq (el P j) (el P b) = true
theorem up_el {L : List ByteArray} (h : L.Pairwise fun a b => bleq a b = true) {a b : Nat} (h1 : a < b) (h2 : b < L.length) : bleq (el L a) (el L b) = true := by
  have := List.pairwise_iff_getElem.1 h a b (by omega) h2 h1
  rwa [el_eq (by omega), el_eq h2] at this
theorem el_up {L : List ByteArray} (h : ∀ a b, a < b → b < L.length → bleq (el L a) (el L b) = true) : L.Pairwise fun a b => bleq a b = true := by
  rw [List.pairwise_iff_getElem]
  intro a b ha hb hab
  rw [el_eq ha, el_eq hb]
  exact h a b hab hb
theorem InsAt.start {L : List ByteArray} (h : L.Pairwise fun a b => bleq a b = true) (x : ByteArray) : InsAt (L ++ [x]) L.length := by
  have hl : (L ++ [x]).length = L.length + 1 := by simp
  refine ⟨by omega, fun a b h1 h2 h3 h4 => ?_, fun b h1 h2 => by omega⟩
  rw [hl] at h2
  rw [el_left (by omega), el_left (by omega)]
  exact up_el h h1 (by omega)
theorem InsAt.swap {P : List ByteArray} {i : Nat} (h : InsAt P (i + 1)) (hlt : bleq (el P (i + 1)) (el P i) = true) : InsAt ((P.set (i + 1) (el P i)).set i (el P (i + 1))) i := by
  have hl := h.lt
  have e : ∀ j, el ((P.set (i + 1) (el P i)).set i (el P (i + 1))) j = if j = i then el P (i + 1) else if j = i + 1 then el P i else el P j := by
    intro j
    rw [el_set _ _ _ _ (by rw [List.length_set]; omega), el_set _ _ _ _ hl]
  have hlen : ((P.set (i + 1) (el P i)).set i (el P (i + 1))).length = P.length := by rw [List.length_set, List.length_set]
  refine ⟨by omega, fun a b h1 h2 h3 h4 => ?_, fun b h1 h2 => ?_⟩
  · rw [hlen] at h2
    rw [e, e, if_neg h3, if_neg h4]
    by_cases ha : a = i + 1
    · subst ha
      rw [if_pos rfl, if_neg (by omega)]
      exact h.rest i b (by omega) h2 (by omega) (by omega)
    · rw [if_neg ha]
      by_cases hb : b = i + 1
      · subst hb
        rw [if_pos rfl]
        exact h.rest a i (by omega) (by omega) ha (by omega)
      · rw [if_neg hb]
        exact h.rest a b h1 h2 ha hb
  · rw [hlen] at h2
    rw [e, e, if_pos rfl, if_neg (by omega)]
    by_cases hb : b = i + 1
    · rw [if_pos hb]; exact hlt
    · rw [if_neg hb]; exact h.less b (by omega) h2
theorem InsAt.done0 {P : List ByteArray} (h : InsAt P 0) : P.Pairwise fun a b => bleq a b = true := by
  refine el_up fun a b h1 h2 => ?_
  rcases Nat.eq_zero_or_pos a with rfl | ha
  · exact h.less b h1 h2
  · exact h.rest a b h1 h2 (by omega) (by omega)
theorem InsAt.done {P : List ByteArray} {i : Nat} (h : InsAt P (i + 1)) (hge : bleq (el P i) (el P (i + 1)) = true) : P.Pairwise fun a b => bleq a b = true := by
  have hl := h.lt
  refine el_up fun a b h1 h2 => ?_
  by_cases ha : a = i + 1
  · subst ha; exact h.less b h1 h2
  · by_cases hb : b = i + 1
    · subst hb
      rcases Nat.lt_succ_iff_lt_or_eq.1 h1 with q | q
      · exact bleq_trans (h.rest a i q (by omega) ha (by omega)) hge
      · subst q; exact hge
    · exact h.rest a b h1 h2 ha hb
theorem swap_perm {P : List ByteArray} {i : Nat} (h : i + 1 < P.length) : ((P.set (i + 1) (el P i)).set i (el P (i + 1))).Perm P := by
  have := @List.set_set_perm _ P (i + 1) i h (by omega)
  rwa [el_eq (by omega), el_eq h] at this
theorem less_bleq {a b : ByteArray} (h : Op.bytesLess a.toList b.toList = true) : bleq a b = true := by
  rw [bytesLess_eq, ByteArray.toList_eq, ByteArray.toList_eq] at h
  unfold bleq; exact decide_eq_true (List.le_of_lt (of_decide_eq_true h))
theorem notless_bleq {a b : ByteArray} (h : Op.bytesLess a.toList b.toList = false) : bleq b a = true := by
  rw [bytesLess_eq, ByteArray.toList_eq, ByteArray.toList_eq] at h
  unfold bleq; exact decide_eq_true (List.not_lt.1 (of_decide_eq_false h))
section
variable {w : World} {base g n cap i : Nat} {e : TypeId} {l : List ByteArray}
theorem OwnEl.sCell (h : OwnEl strK w base e (.slice (some ⟨g, 0, none⟩) n cap) l) (hl : l.length = n) (hi : i < n) : w.cell? ⟨g, i, none⟩ = some (.string (el l i)) := by
  have := OwnEl.cell h hl (i := i) (j := 0) hi (by decide)
  simpa [strK] using this
theorem OwnEl.sSet (h : OwnEl strK w base e (.slice (some ⟨g, 0, none⟩) n cap) l) (hl : l.length = n) (hi : i < n) (s : ByteArray) : OwnEl strK (w.setCell ⟨g, i, none⟩ (.string s)) base e (.slice (some ⟨g, 0, none⟩) n cap) (l.set i s) := by
  have := OwnEl.set h hl (i := i) (j := 0) (x := s) (u := .string s) hi (by decide) rfl
  simpa [strK] using this
end
/-- What Names answers. -/
def RetNames (ds : Df) (w : World) (e : Ending) (w' : World) : Prop := ∃ v, e = .returned v ∧ OwnEl strK w' w.heap.size 9 v (namesOf ds) ∧ Below w.heap.size w w'
set_option maxRecDepth 100000 in
set_option maxHeartbeats 2000000 in
theorem refNames19_is (B x : Nat) (ds us : Df) (F : Nat → Prop) (w : World) (h : RefAt B w x ds us F) (hd : ds.length ≤ 1000) :
    Calls Tryd.prog 18 #[.pointer (some ⟨x, 0, none⟩)] w (RetNames ds w) := by
  obtain ⟨v0, u, h1, h3, -⟩ := h.ex
  obtain ⟨a, c, rfl, h4⟩ := h3.at
  obtain ⟨i0, hi, hz0, hz1, hz2⟩ := info_el infoStr
  obtain ⟨n, hnl⟩ : ∃ n, ds.length = n := ⟨_, rfl⟩
  rw [hnl] at h1 h4 hd
  have HNL := Lib.hid hnl
  have H1 := Lib.hid h1
  have H4 := Lib.hid h4
  clear h h1 h3 h4 hnl
  go_enter Tryd.func18, Tryd.ntmps18
  go_wp2
  go_loopw [3, 4] (fun v i wr => ∃ k : Nat, ∃ L : List ByteArray, k ≤ n ∧ i = .int .i64 k ∧ OwnEl strK wr w.heap.size 9 v L ∧ Below w.heap.size w wr ∧ L.Perm ((ds.take k).map (·.1)) ∧ L.Pairwise fun a b => bleq a b = true) (fun _ i _ => n - (intOf i).toNat)
  case atStart => exact ⟨0, [], by omega, rfl, OwnEl.nil _ _ _ _, Below.refl _ _, by simp, List.Pairwise.nil⟩
  case round =>
    obtain ⟨k, L, hk, rfl, ho, hb, hperm, hup⟩ := hrel
    have HO := Lib.hid ho
    have HB := Lib.hid hb
    have HP := Lib.hid hperm
    have HU := Lib.hid hup
    have hsz := hb.size
    have c0 : wr.cell? ⟨x, 0, none⟩ = some (.slice a n c) := (H1.out.keep hb).cell 0
    have hLl : L.length ≤ k := by have := hperm.length_eq; rw [List.length_map, List.length_take] at this; omega
    by_cases hlt : k < n
    · have hlt' : (k : Int) < n := by omega
      have hkl : k < ds.length := by rw [HNL.out]; exact hlt
      obtain ⟨b, off, rfl, d0, d1⟩ := (H4.out.keep hb).row hlt
      have HTK := Lib.hid (show (ds.take (k + 1)).map (·.1) = (ds.take k).map (·.1) ++ [(el ds k).1] by rw [take_el hkl, List.map_append]; rfl)
      obtain ⟨s, hs⟩ : ∃ s, (el ds k).1 = s := ⟨_, rfl⟩
      rw [hs] at d0 HTK
      obtain ⟨a0, n0, c0', rfl⟩ := OwnEl.shape ho
      clear ho hb hperm hup hs hkl
      go_wp2_with (at_builtin; refine wpList_append_el1 rfl _ _ 41 rfl w.heap.size 9 i0 _ Tryd.underlying41 hi hz0 hz1 (by omega) rfl rfl (HO.out.keep ((Below.refl _ _).alloc (Nat.le_refl _) _)) rfl (one_el (K := strK) (b := wr.heap.size) wr 9 s #[.string s] rfl rfl) (by omega) (by simp; omega) ?_; intro v2 w2 hown2 hgrow2 hnext2; have HO2 := Lib.hid hown2; have HB2 := Lib.hid ((HB.out.alloc hsz _).grown hgrow2 (by simp; omega) fun j hj => (HO.out.lt j hj).1); have hs2 : w.heap.size ≤ w2.heap.size := HB2.out.size; obtain ⟨N, hN⟩ : ∃ N, (L ++ [s]).length = N := ⟨_, rfl⟩; obtain ⟨g, cap, rfl, hg1, hg2, hc1, hc2⟩ := OwnEl.form hown2 hN (by simp at hN; omega); have HN := Lib.hid hN; have hN1 : 1 ≤ N := (by simp at hN; omega); have hN2 : N ≤ 1001 := (by simp at hN; omega); clear hown2 hgrow2 hnext2 hN)
      go_loopw [5] (fun q wr' => ∃ j : Nat, ∃ P : List ByteArray, q = .int .i64 j ∧ P.length = N ∧ InsAt P j ∧ P.Perm (L ++ [s]) ∧ OwnEl strK wr' w.heap.size 9 (.slice (some ⟨g, 0, none⟩) N cap) P ∧ Below w.heap.size w wr') (fun q _ => (intOf q).toNat)
      case atStart =>
        refine ⟨L.length, L ++ [s], ?_, HN.out, InsAt.start HU.out s, List.Perm.refl _, HO2.out, HB2.out⟩
        have := HN.out
        simp at this
        congr 1
        omega
      case round =>
        obtain ⟨j, P, rfl, hPN, hins, hpp, hoP, hbP⟩ := hrel
        have HPN := Lib.hid hPN
        have HIN := Lib.hid hins
        have HPP := Lib.hid hpp
        have HOP := Lib.hid hoP
        have HBP := Lib.hid hbP
        have hjN : j < N := by have := hins.lt; omega
        clear hPN hins hpp hoP hbP
        cases j with
        | zero =>
          have hz1 : decide (((0 : Nat) : Int) > 0) = false := by simp
          have hz2 : decide ((0 : Int) > 0) = false := by simp
          have hz3 : decide ((0 : Int) < 0) = false := by simp
          go_wp2
          go_quiet (fail)
          go_wp2
          refine ⟨⟨k + 1, P, by omega, by go_num, HOP.out.keep ⟨rfl, rfl, rfl, Nat.le_refl _, fun _ _ => rfl⟩, ⟨HBP.out.os, HBP.out.tape, HBP.out.output, HBP.out.size, HBP.out.block⟩, ?_, HIN.out.done0⟩, by simp [intOf]; omega⟩
          rw [HTK.out]
          exact HPP.out.trans (HP.out.append_right _)
        | succ i =>
          have hA1 : wr.cell? ⟨g, i + 1, none⟩ = some (.string (el P (i + 1))) := HOP.out.sCell HPN.out hjN
          have hA0 : wr.cell? ⟨g, i, none⟩ = some (.string (el P i)) := HOP.out.sCell HPN.out (by omega)
          have f1 : wr.frozen? ⟨g, i + 1, none⟩ = false := OwnEl.free HOP.out HPN.out (i + 1)
          have f0 : wr.frozen? ⟨g, i, none⟩ = false := OwnEl.free HOP.out HPN.out i
          have HSW := Lib.hid (HIN.out.swap)
          have HDN := Lib.hid (HIN.out.done)
          have HSP := Lib.hid (swap_perm (P := P) (i := i) (by rw [HPN.out]; exact hjN))
          obtain ⟨a1, ha1⟩ : ∃ z, el P (i + 1) = z := ⟨_, rfl⟩
          obtain ⟨a2, ha2⟩ : ∃ z, el P i = z := ⟨_, rfl⟩
          rw [ha1] at hA1 HSW HDN HSP
          rw [ha2] at hA0 HSW HDN HSP
          have s1 : (((i + 1 : Nat) : Int)).toNat = i + 1 := by omega
          have s2 : ((i : Int) + 1).toNat = i + 1 := by omega
          have hi0 : (i : Int) + 1 < N := by omega
          clear ha1 ha2
          cases hl : Op.bytesLess a1.toList a2.toList
          · have HGE := Lib.hid (HDN.out (notless_bleq hl))
            go_wp2
            go_quiet (fail)
            go_wp2
            refine ⟨⟨k + 1, P, by omega, by go_num, HOP.out.keep ⟨rfl, rfl, rfl, Nat.le_refl _, fun _ _ => rfl⟩, ⟨HBP.out.os, HBP.out.tape, HBP.out.output, HBP.out.size, HBP.out.block⟩, ?_, HGE.out⟩, by simp [intOf]; omega⟩
            rw [HTK.out]
            exact HPP.out.trans (HP.out.append_right _)
          · have HLT := Lib.hid (HSW.out (less_bleq hl))
            go_wp2
            go_quiet (fail)
            go_wp2
            have o1 := HOP.out.keep (w' := wr.drewN nq) ⟨rfl, rfl, rfl, Nat.le_refl _, fun _ _ => rfl⟩
            have o2 := OwnEl.sSet o1 HPN.out hjN a2
            have o3 := OwnEl.sSet o2 (by rw [List.length_set]; exact HPN.out) (i := i) (by omega) a1
            have b1 : Below w.heap.size w (wr.drewN nq) := ⟨HBP.out.os, HBP.out.tape, HBP.out.output, HBP.out.size, HBP.out.block⟩
            exact ⟨⟨i, _, rfl, by rw [List.length_set, List.length_set]; exact HPN.out, HLT.out, HSP.out.trans HPP.out, o3, (b1.setCell (p := ⟨g, i + 1, none⟩) hg1 _).setCell (p := ⟨g, i, none⟩) hg1 _⟩, by simp [intOf]⟩
    · obtain rfl : k = n := by omega
      have HE := Lib.hid (show L = namesOf ds from srt_of (by have := HP.out; rw [← HNL.out, List.take_length] at this; exact this) HU.out)
      clear ho hb hperm hup
      go_wp2
      go_ret
      exact ⟨_, rfl, by rw [← HE.out]; exact HO.out, HB.out⟩
end Go.Proofs.YthaccdalciihpaaDoor
