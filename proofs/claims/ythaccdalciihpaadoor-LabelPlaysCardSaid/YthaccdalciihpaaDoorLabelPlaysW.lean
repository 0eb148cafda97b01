/- The walk of the law LabelPlays: it returns true and writes nothing that was there. -/
import Derived.Test.YthaccdalciihpaaDoorLabL
import Derived.Deep.RegionHeld3
namespace Go.Proofs.YthaccdalciihpaaDoor
open Go.RowKit Go.IntWalk Go.Maps

namespace labelPlays
/-- What a region's loads find, and that nothing of the caller's has turned. -/
abbrev Sees (b o : Nat) (s : ByteArray) (p : Int) (w W : World) : Prop := (W.cell? ⟨b, o + 1, none⟩ = some (.string s) ∧ W.cell? ⟨b, o + 2, none⟩ = some (.int .i64 p)) ∧ Below w.heap.size w W
theorem sees_on {b o : Nat} {s : ByteArray} {p : Int} {w W W' : World} (h : Sees b o s p w W) (hb : b < w.heap.size) (k : Below w.heap.size W W') : Sees b o s p w W' :=
  ⟨⟨(k.cell (p := ⟨b, o + 1, none⟩) hb).trans h.1.1, (k.cell (p := ⟨b, o + 2, none⟩) hb).trans h.1.2⟩, h.2.trans k⟩
set_option maxRecDepth 100000 in
set_option maxHeartbeats 8000000 in
theorem within (a : Option Addr) (n c : Nat) (l : List Ac) (name : ByteArray) (w : World) (h : ElAt actK w a n c l) (hs : ∀ x ∈ l, x.2.1.size ≤ maxLen) (hE : ErrLaid w) (hn : n ≤ 100) (hm : name.size ≤ 100) :
    Calls Tryd.prog 3 #[.slice a n c, .string name] w fun e w' => e = .returned (.bool true) ∧ Below w.heap.size w w' := by
  have hcap := h.cap
  have hbig := h.big
  unfold maxLen at hbig
  have HL := Lib.hid h
  have HLN := Lib.hid h.len
  have HE := Lib.hid hE
  have HS := Lib.hid hs
  have hn' : (n : Int) ≤ 100 := by omega
  have hm' : (name.size : Int) ≤ 100 := by omega
  have HNM := Lib.hid (show name.size ≤ maxLen by unfold maxLen; omega)
  clear h hs hE
  go_enter Tryd.func3, Tryd.ntmps3
  go_wp2_with (first
    | (go_at_call 6; ((with_reducible refine (labNew_is w.heap.size w (Nat.le_refl _)).mono ?_); rintro e w1 ⟨t, F, rfl, h1, hF1, hb1⟩); have H1 := Lib.hid h1; have HB1 := Lib.hid hb1; have hs1 := hb1.size; clear h1 hb1 hF1))
  have HT0 := Lib.hid (show Pair w.heap.size (w1.alloc (.cells #[.slice none 0 0, .slice none 0 0] 29)) t w1.heap.size (dsOf (l.take 0)) (usOf (l.take 0)) (dsOf (l.take 0)) (usOf (l.take 0)) from ⟨F, fun j => j = w1.heap.size, H1.out.keep ((Below.refl _ _).alloc (Nat.le_refl _) _), RefAt.new w1 w.heap.size hs1, fun j f q => by have := (H1.out.low j f).2; omega⟩)
  have HB0 := Lib.hid (HB1.out.alloc hs1 (.cells #[.slice none 0 0, .slice none 0 0] 29))
  obtain ⟨x, hx⟩ : ∃ x, w1.heap.size = x := ⟨_, rfl⟩
  obtain ⟨w0, hw0⟩ : ∃ W, w1.alloc (.cells #[.slice none 0 0, .slice none 0 0] 29) = W := ⟨_, rfl⟩
  rw [hw0] at HT0 HB0
  rw [hx] at HT0
  rw [hw0]
  simp only [hx]
  clear hw0 hx H1 HB1 hs1
  go_loopw [7] (fun i wr => ∃ k : Nat, k ≤ n ∧ i = .int .i64 k ∧ Pair w.heap.size wr t x (dsOf (l.take k)) (usOf (l.take k)) (dsOf (l.take k)) (usOf (l.take k)) ∧ Below w.heap.size w wr) (fun i _ => n - (intOf i).toNat)
  case atStart => exact ⟨0, by omega, rfl, HT0.out, HB0.out⟩
  case round =>
    clear HT0 HB0
    obtain ⟨k, hk, rfl, ht, hb⟩ := hrel
    have HTW := Lib.hid ht
    have HB := Lib.hid hb
    have hsz := hb.size
    by_cases hlt : k < n
    · have hlt' : (k : Int) < n := by omega
      have hkl : k < l.length := by rw [HLN.out]; exact hlt
      obtain ⟨b, off, rfl, d0, d1, d2⟩ := (HL.out.keep hb).act hlt
      have hbl : b < w.heap.size := HL.out.lt (by omega) b off rfl
      have hDT := dsOf_take hkl
      have hUT := usOf_take hkl
      have hSM := HS.out (el l k) (by rw [← el_eq hkl]; exact List.getElem_mem _)
      have hDL := dsOf_len l k (by omega)
      have hUL := usOf_len l k (by omega)
      obtain ⟨Mx, hM⟩ : ∃ Mx, el l k = Mx := ⟨_, rfl⟩
      obtain ⟨fl, s, p⟩ := Mx
      rw [hM] at d0 d1 d2 hDT hUT hSM
      simp only at d0 d1 d2 hDT hUT hSM
      have HDT := Lib.hid hDT
      have HUT := Lib.hid hUT
      have HBL := Lib.hid hbl
      by_cases hsl : 100 < s.size
      · have hsl' : (100 : Int) < s.size := by omega
        have HEW := Lib.hid (HE.out.keep HB.out)
        clear ht hb hDT hUT hSM hDL hUL hM hkl hsl
        go_wp2_with (go_at_call 5; ((with_reducible refine (labAwake_is _ HEW.out).mono ?_); rintro e w9 ⟨rfl, hb9⟩); have HB9 := Lib.hid hb9; clear hb9)
        go_ret
        exact ⟨rfl, HB.out.trans (HB9.out.mono hsz)⟩
      · have hsl' : (s.size : Int) ≤ 100 := by omega
        cases fl
        · have K1 := Lib.hid (fun W (h : Pair w.heap.size W t x (dsOf (l.take k)) (usOf (l.take k)) (dsOf (l.take k)) (usOf (l.take k))) (h2 : Sees b (off + k * 3) s p w W) => pair_use1 (s := s) (p := p) h hSM (by omega) h2.2.size)
          have K2 := Lib.hid (fun W (h : Pair w.heap.size W t x (dsOf (l.take k)) (useS (usOf (l.take k)) s p) (dsOf (l.take k)) (usOf (l.take k))) (h2 : Sees b (off + k * 3) s p w W) => pair_use2 (s := s) (p := p) h hSM (by omega) h2.2.size)
          obtain ⟨de, hde⟩ : ∃ z, useE s = z := ⟨_, rfl⟩
          rw [hde] at K1 K2
          have hne : (de != de) = false := by simp
          have hS0 : (wr.drew.cell? ⟨b, off + k * 3 + 1, none⟩ = some (.string s) ∧ wr.drew.cell? ⟨b, off + k * 3 + 2, none⟩ = some (.int .i64 p)) ∧ Below w.heap.size w wr.drew := ⟨⟨d1, d2⟩, HB.out.drew⟩
          have HP := Lib.hid (HTW.out.keep (Below.refl wr.heap.size wr).drew)
          clear ht hb hDT hUT hSM hDL hUL hM hkl hsl hde
          go_wp2
          go_region_held (fun W => (W.cell? ⟨b, off + k * 3 + 1, none⟩ = some (.string s) ∧ W.cell? ⟨b, off + k * 3 + 2, none⟩ = some (.int .i64 p)) ∧ Below w.heap.size w W)
            (first | with_reducible assumption)
            (first
              | (go_at_call 9; ((with_reducible refine (K1.out _ HP.out (by assumption)).mono ?_); rintro e w3 ⟨rfl, ht3, hb3⟩); have HP3 := Lib.hid ht3; have HP3d := Lib.hid (ht3.keep (Below.refl _ _).drew); have hS := sees_on hS0 HBL.out hb3; clear ht3 hb3)
              | (go_at_call 10; ((with_reducible refine (K2.out _ HP3.out (by assumption)).mono ?_); rintro e w4 ⟨rfl, ht4, hb4⟩); have HP4 := Lib.hid ht4; have hS := sees_on hS HBL.out hb4; clear ht4 hb4)
              | (go_at_call 10; ((with_reducible refine (K2.out _ HP3d.out (by assumption)).mono ?_); rintro e w4 ⟨rfl, ht4, hb4⟩); have HP4 := Lib.hid ht4; have hS := sees_on hS HBL.out hb4; clear ht4 hb4))
          go_wp2
          go_roundw
          case rel => exact ⟨k + 1, by omega, by go_num, by rw [HDT.out, HUT.out]; exact HP4.out, hS.2⟩
          case measure => simp [intOf]; omega
        · have K1 := Lib.hid (fun W (h : Pair w.heap.size W t x (dsOf (l.take k)) (usOf (l.take k)) (dsOf (l.take k)) (usOf (l.take k))) (h2 : Sees b (off + k * 3) s p w W) => pair_def1 (s := s) (p := p) h hSM (by omega) h2.2.size)
          have K2 := Lib.hid (fun W (h : Pair w.heap.size W t x (defS (dsOf (l.take k)) s p) (usOf (l.take k)) (dsOf (l.take k)) (usOf (l.take k))) (h2 : Sees b (off + k * 3) s p w W) => pair_def2 (s := s) (p := p) h hSM (by omega) h2.2.size)
          obtain ⟨de, hde⟩ : ∃ z, defE (dsOf (l.take k)) s = z := ⟨_, rfl⟩
          rw [hde] at K1 K2
          have hne : (de != de) = false := by simp
          have hS0 : (wr.drew.cell? ⟨b, off + k * 3 + 1, none⟩ = some (.string s) ∧ wr.drew.cell? ⟨b, off + k * 3 + 2, none⟩ = some (.int .i64 p)) ∧ Below w.heap.size w wr.drew := ⟨⟨d1, d2⟩, HB.out.drew⟩
          have HP := Lib.hid (HTW.out.keep (Below.refl wr.heap.size wr).drew)
          clear ht hb hDT hUT hSM hDL hUL hM hkl hsl hde
          go_wp2
          go_region_held (fun W => (W.cell? ⟨b, off + k * 3 + 1, none⟩ = some (.string s) ∧ W.cell? ⟨b, off + k * 3 + 2, none⟩ = some (.int .i64 p)) ∧ Below w.heap.size w W)
            (first | with_reducible assumption)
            (first
              | (go_at_call 7; ((with_reducible refine (K1.out _ HP.out (by assumption)).mono ?_); rintro e w3 ⟨rfl, ht3, hb3⟩); have HP3 := Lib.hid ht3; have HP3d := Lib.hid (ht3.keep (Below.refl _ _).drew); have hS := sees_on hS0 HBL.out hb3; clear ht3 hb3)
              | (go_at_call 8; ((with_reducible refine (K2.out _ HP3.out (by assumption)).mono ?_); rintro e w4 ⟨rfl, ht4, hb4⟩); have HP4 := Lib.hid ht4; have hS := sees_on hS HBL.out hb4; clear ht4 hb4)
              | (go_at_call 8; ((with_reducible refine (K2.out _ HP3d.out (by assumption)).mono ?_); rintro e w4 ⟨rfl, ht4, hb4⟩); have HP4 := Lib.hid ht4; have hS := sees_on hS HBL.out hb4; clear ht4 hb4))
          go_wp2
          go_roundw
          case rel => exact ⟨k + 1, by omega, by go_num, by rw [HDT.out, HUT.out]; exact HP4.out, hS.2⟩
          case measure => simp [intOf]; omega
    · obtain rfl : n = k := by omega
      have HTA := Lib.hid (show Pair w.heap.size wr t x (dsOf l) (usOf l) (dsOf l) (usOf l) by have := HTW.out; rw [← HLN.out, List.take_length] at this; exact this)
      have HDA := Lib.hid (show (dsOf l).length ≤ 100 by have := dsOf_len l l.length (Nat.le_refl _); rw [List.take_length] at this; have := HLN.out; omega)
      have HUA := Lib.hid (show (usOf l).length ≤ 100 by have := usOf_len l l.length (Nat.le_refl _); rw [List.take_length] at this; have := HLN.out; omega)
      obtain ⟨N, hN⟩ : ∃ z, (resL (dsOf l) (usOf l)).length = z := ⟨_, rfl⟩
      obtain ⟨N2, hN2⟩ : ∃ z, (namesOf (dsOf l)).length = z := ⟨_, rfl⟩
      have HEW := Lib.hid (HE.out.keep HB.out)
      have R1 := fun W (h : Below wr.heap.size wr W) => pair_res1 (HTA.out.keep h) (by have := HUA.out; omega) (HEW.out.keep h) hN
      have R2 := fun W (h : Below wr.heap.size wr W) => pair_res2 (HTA.out.keep h) (by have := HDA.out; omega) (by have := HUA.out; omega) hN
      have R3 := fun W (h : Below wr.heap.size wr W) => pair_names1 (HTA.out.keep h) (by have := HUA.out; have := HDA.out; omega) hN2
      have R4 := fun W (h : Below wr.heap.size wr W) => pair_names2 (HTA.out.keep h) (by have := HUA.out; have := HDA.out; omega) hN2
      have R5 := fun W (h : Below wr.heap.size wr W) => pair_place1 (HTA.out.keep h) name HNM.out
      have R6 := fun W (h : Below wr.heap.size wr W) => pair_place2 (HTA.out.keep h) name (by have := HDA.out; omega)
      have R7 := fun W => labIs_is name W HNM.out
      have R8 := fun W => refIs19_is name W HNM.out
      obtain ⟨nm, hnm⟩ : ∃ z, resN (dsOf l) (usOf l) = z := ⟨_, rfl⟩
      obtain ⟨ec, hec⟩ : ∃ z, resE (dsOf l) (usOf l) = z := ⟨_, rfl⟩
      obtain ⟨L1, hL1⟩ : ∃ z, resL (dsOf l) (usOf l) = z := ⟨_, rfl⟩
      obtain ⟨L2, hL2⟩ : ∃ z, namesOf (dsOf l) = z := ⟨_, rfl⟩
      obtain ⟨pv, hpv⟩ : ∃ z, plV (dsOf l) name = z := ⟨_, rfl⟩
      obtain ⟨pb, hpb⟩ : ∃ z, plB (dsOf l) name = z := ⟨_, rfl⟩
      obtain ⟨nb, hnb⟩ : ∃ z, nameB name = z := ⟨_, rfl⟩
      simp only [hnm, hec, hL1, hL2, hpv, hpb, hnb] at R1 R2 R3 R4 R5 R6 R7 R8
      have HR1 := Lib.hid R1
      have HR2 := Lib.hid R2
      have HR3 := Lib.hid R3
      have HR4 := Lib.hid R4
      have HR5 := Lib.hid R5
      have HR6 := Lib.hid R6
      have HR7 := Lib.hid R7
      have HR8 := Lib.hid R8
      have e1 : (nm.toList == nm.toList) = true := by simp
      have e2 : (ec == ec) = true := by simp
      have e3 : (pv == pv) = true := by simp
      have e4 : (pb == pb) = true := by simp
      have e5 : (nb == nb) = true := by simp
      clear R1 R2 R3 R4 R5 R6 R7 R8 hnm hec hL1 hL2 hN hN2 hpv hpb hnb ht hb hlt HTW
      go_wp2_with (first
        | (go_at_call 11; ((with_reducible refine (HR1.out _ (Below.refl _ _)).mono ?_); rintro e w3 ⟨a3, c3, rfl, hat3, hb3⟩); have HA3 := Lib.hid hat3; have HB3 := Lib.hid hb3; clear hat3 hb3)
        | (go_at_call 12; ((with_reducible refine (HR2.out _ HB3.out).mono ?_); rintro e w4 ⟨a4, c4, rfl, hat4, hb4⟩); have HA4 := Lib.hid hat4; have HA34 := Lib.hid (HA3.out.keep hb4); have HB4 := Lib.hid (HB3.out.trans (hb4.mono HB3.out.size)); clear hat4 hb4)
        | (go_at_call 13; ((with_reducible refine (HR5.out _ HB4.out).mono ?_); rintro e w5 ⟨rfl, rfl⟩))
        | (go_at_call 14; ((with_reducible refine (HR6.out _ HB4.out).mono ?_); rintro e w5 ⟨rfl, rfl⟩))
        | (go_at_call 15; ((with_reducible refine (refSame19_is _ _ _ _ _ _ _ HA34.out HA4.out).mono ?_); rintro e w5 ⟨rfl, hb5⟩); have HB5 := Lib.hid (HB4.out.trans (hb5.mono HB4.out.size)); clear hb5)
        | (go_at_call 17; ((with_reducible refine (HR3.out _ HB5.out).mono ?_); rintro e w6 ⟨a6, c6, rfl, hat6, hb6⟩); have HA6 := Lib.hid hat6; have HB6 := Lib.hid (HB5.out.trans (hb6.mono HB5.out.size)); clear hat6 hb6)
        | (go_at_call 18; ((with_reducible refine (HR4.out _ HB6.out).mono ?_); rintro e w7 ⟨a7, c7, rfl, hat7, hb7⟩); have HA7 := Lib.hid hat7; have HA67 := Lib.hid (HA6.out.keep hb7); have HB7 := Lib.hid (HB6.out.trans (hb7.mono HB6.out.size)); clear hat7 hb7)
        | (go_at_call 16; ((with_reducible refine (refTexts14_is _ _ _ _ _ _ _ HA67.out HA7.out).mono ?_); rintro e w8 ⟨rfl, hb8⟩); have HB8 := Lib.hid (HB7.out.trans (hb8.mono HB7.out.size)); clear hb8)
        | (go_at_call 19; ((with_reducible refine (HR7.out _).mono ?_); rintro e w9 ⟨rfl, rfl⟩))
        | (go_at_call 20; ((with_reducible refine (HR8.out _).mono ?_); rintro e w9 ⟨rfl, rfl⟩))
        | (go_at_call 5; ((with_reducible refine (labAwake_is _ (HEW.out.keep HB8.out)).mono ?_); rintro e w9 ⟨rfl, hb9⟩); have HB9 := Lib.hid (HB8.out.trans (hb9.mono HB8.out.size)); clear hb9))
      go_ret
      exact ⟨rfl, HB.out.trans (HB9.out.mono hsz)⟩
set_option maxRecDepth 100000 in
theorem walk (a : Option Addr) (n c : Nat) (l : List Ac) (name : ByteArray) (w : World) (h : ElAt actK w a n c l ∧ ∀ x ∈ l, x.2.1.size ≤ maxLen) (_hw : name.size ≤ maxLen) (hE : ErrLaid w) :
    Calls Tryd.prog 3 #[.slice a n c, .string name] w fun e w' => e = .returned (.bool true) ∧ Below w.heap.size w w' := by
  by_cases hn : n ≤ 100
  · by_cases hm : name.size ≤ 100
    · exact within a n c l name w h.1 h.2 hE hn hm
    · have hcap := h.1.cap
      have hbig := h.1.big
      unfold maxLen at hbig
      have HE := Lib.hid hE
      have hn' : (n : Int) ≤ 100 := by omega
      have hm' : (100 : Int) < name.size := by omega
      clear h hE hn hm
      go_enter Tryd.func3, Tryd.ntmps3
      go_wp2_with (go_at_call 5; ((with_reducible refine (labAwake_is _ HE.out).mono ?_); rintro e w9 ⟨rfl, hb9⟩); have HB9 := Lib.hid hb9; clear hb9)
      go_ret
      exact ⟨rfl, HB9.out⟩
  · have hcap := h.1.cap
    have hbig := h.1.big
    unfold maxLen at hbig
    have HE := Lib.hid hE
    have hn' : (100 : Int) < n := by omega
    clear h hE hn
    go_enter Tryd.func3, Tryd.ntmps3
    go_wp2_with (go_at_call 5; ((with_reducible refine (labAwake_is _ HE.out).mono ?_); rintro e w9 ⟨rfl, hb9⟩); have HB9 := Lib.hid hb9; clear hb9)
    go_ret
    exact ⟨rfl, HB9.out⟩
end labelPlays
end Go.Proofs.YthaccdalciihpaaDoor
