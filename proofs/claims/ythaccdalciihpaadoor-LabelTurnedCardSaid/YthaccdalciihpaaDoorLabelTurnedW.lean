/- The walk of the law LabelTurned: it returns true and writes nothing that was there. -/
import Derived.Test.YthaccdalciihpaaDoorLabL
namespace Go.Proofs.YthaccdalciihpaaDoor
open Go.RowKit Go.IntWalk Go.Maps

namespace labelTurned
set_option maxRecDepth 100000 in
set_option maxHeartbeats 8000000 in
theorem within (a : Option Addr) (n c : Nat) (l : List Ac) (w : World) (h : ElAt actK w a n c l) (hs : ∀ x ∈ l, x.2.1.size ≤ maxLen) (hE : ErrLaid w) (hn : n ≤ 100) :
    Calls Tryd.prog 4 #[.slice a n c] w fun e w' => e = .returned (.bool true) ∧ Below w.heap.size w w' := by
  have hcap := h.cap
  have hbig := h.big
  unfold maxLen at hbig
  have HL := Lib.hid h
  have HLN := Lib.hid h.len
  have HE := Lib.hid hE
  have HS := Lib.hid hs
  have HN := Lib.hid hn
  have hn' : (n : Int) ≤ 100 := by omega
  clear h hs hE
  go_enter Tryd.func4, Tryd.ntmps4
  go_wp2_with (first
    | (go_at_call 6; ((with_reducible refine (labNew_is w.heap.size w (Nat.le_refl _)).mono ?_); rintro e w1 ⟨t, F, rfl, h1, hF1, hb1⟩); have H1 := Lib.hid h1; have HB1 := Lib.hid hb1; have hs1 := hb1.size; clear h1 hb1 hF1)
    | (go_at_call 6; ((with_reducible refine (labNew_is w.heap.size w1 hs1).mono ?_); rintro e w2 ⟨t2, F2, rfl, h2, hF2, hb2⟩); have HB2 := Lib.hid (HB1.out.trans (hb2.mono hs1)); have HT := Lib.hid (show Twin w.heap.size w2 t t2 [] [] [] [] from ⟨F, F2, H1.out.keep hb2, h2, fun j f q => by have := (H1.out.low j f).2; have := hF2 j q; omega⟩); clear h2 hF2 hb2))
  go_loopw [5] (fun i wr => ∃ k : Nat, k ≤ n ∧ i = .int .i64 k ∧ Twin w.heap.size wr t t2 (dsOf (l.take k)) [] [] [] ∧ Below w.heap.size w wr) (fun i _ => n - (intOf i).toNat)
  case atStart => exact ⟨0, by omega, rfl, HT.out, HB2.out⟩
  case round =>
    obtain ⟨k, hk, rfl, ht, hb⟩ := hrel
    have HTW := Lib.hid ht
    have HB := Lib.hid hb
    have hsz := hb.size
    by_cases hlt : k < n
    · have hlt' : (k : Int) < n := by omega
      have hkl : k < l.length := by rw [HLN.out]; exact hlt
      obtain ⟨b, off, rfl, d0, d1, d2⟩ := (HL.out.keep hb).act hlt
      have hDT := dsOf_take hkl
      have hSM := HS.out (el l k) (by rw [← el_eq hkl]; exact List.getElem_mem _)
      have hDL := dsOf_len l k (by omega)
      obtain ⟨Mx, hM⟩ : ∃ Mx, el l k = Mx := ⟨_, rfl⟩
      obtain ⟨fl, s, p⟩ := Mx
      rw [hM] at d0 d1 d2 hDT hSM
      simp only at d0 d1 d2 hDT hSM
      have HSM := Lib.hid hSM
      have HDL := Lib.hid hDL
      cases fl
      · have HDT := Lib.hid hDT
        clear ht hb hDT hSM hDL hM hkl
        go_wp2
        go_roundw
        case rel => exact ⟨k + 1, by omega, by go_num, by rw [HDT.out]; exact HTW.out, HB.out⟩
        case measure => simp [intOf]; omega
      · have HDT := Lib.hid hDT
        have HC := Lib.hid (twin_def1 (w := wr.drew) (s := s) (p := p) (HTW.out.keep (Below.refl _ _).drew) HSM.out (by have := HDL.out; simp; omega) hsz)
        clear ht hb hDT hSM hDL hM hkl
        go_wp2
        go_still_tail 11, (by kernel_rfl)
        go_wp2_with (go_at_call 7; ((with_reducible refine (HC.out).mono ?_); rintro e w3 ⟨rfl, ht3, hb3⟩); have HT3 := Lib.hid ht3; have HB3 := Lib.hid (HB.out.drew.trans hb3); clear ht3 hb3)
        go_roundw
        case rel => exact ⟨k + 1, by omega, by go_num, by rw [HDT.out]; exact HT3.out, HB3.out⟩
        case measure => simp [intOf]; omega
    · obtain rfl : n = k := by omega
      have HTA := Lib.hid (show Twin w.heap.size wr t t2 (dsOf l) (usOf (l.take 0)) [] (usOf (l.take 0)) by have := HTW.out; rw [← HLN.out, List.take_length] at this; exact this)
      have HDA := Lib.hid (show (dsOf l).length ≤ 100 by have := dsOf_len l l.length (Nat.le_refl _); rw [List.take_length] at this; have := HLN.out; omega)
      have HUA := Lib.hid (show (usOf l).length ≤ 100 by have := usOf_len l l.length (Nat.le_refl _); rw [List.take_length] at this; have := HLN.out; omega)
      clear ht hb hlt
      go_wp2
      go_loopw [6] (fun i wr' => ∃ k : Nat, k ≤ n ∧ i = .int .i64 k ∧ Twin w.heap.size wr' t t2 (dsOf l) (usOf (l.take k)) [] (usOf (l.take k)) ∧ Below w.heap.size w wr') (fun i _ => n - (intOf i).toNat)
      case atStart => exact ⟨0, by omega, rfl, HTA.out, HB.out⟩
      case round =>
        clear HTA HTW HB hsz
        obtain ⟨k, hk, rfl, ht, hb⟩ := hrel
        have HTW := Lib.hid ht
        have HB := Lib.hid hb
        have hsz := hb.size
        by_cases hlt : k < n
        · have hlt' : (k : Int) < n := by omega
          have hkl : k < l.length := by rw [HLN.out]; exact hlt
          obtain ⟨b, off, rfl, d0, d1, d2⟩ := (HL.out.keep hb).act hlt
          have hDT := usOf_take hkl
          have hSM := HS.out (el l k) (by rw [← el_eq hkl]; exact List.getElem_mem _)
          have hDL := usOf_len l k (by omega)
          have HCE := Lib.hid (fun W (h : Below w.heap.size w W) => (HL.out.keep h).acts hlt)
          obtain ⟨Mx, hM⟩ : ∃ Mx, el l k = Mx := ⟨_, rfl⟩
          obtain ⟨fl, s, p⟩ := Mx
          rw [hM] at d0 d1 d2 hDT hSM HCE
          simp only at d0 d1 d2 hDT hSM HCE
          have HSM := Lib.hid hSM
          have HDL := Lib.hid hDL
          cases fl
          · have HDT := Lib.hid hDT
            have HC := Lib.hid (twin_use1 (w := wr.drew) (s := s) (p := p) (HTW.out.keep (Below.refl _ _).drew) HSM.out (by have := HDL.out; have := HDA.out; omega) hsz)
            clear ht hb hDT hSM hDL hM hkl
            go_wp2
            go_still_tail 11, (by kernel_rfl)
            go_wp2_with (go_at_call 9; ((with_reducible refine (HC.out).mono ?_); rintro e w3 ⟨rfl, ht3, hb3⟩); have HT3 := Lib.hid ht3; have HB3 := Lib.hid (HB.out.drew.trans hb3); obtain ⟨-, g1, g2⟩ := HCE.out _ HB3.out; have hs3 : w.heap.size ≤ w3.heap.size := HB3.out.size; have HC2 := Lib.hid (twin_use2 (w := w3.drew) (s := s) (p := p) (HT3.out.keep (Below.refl _ _).drew) HSM.out (by have := HDL.out; simp; omega) hs3); clear ht3 hb3)
            go_still_tail 11, (by kernel_rfl)
            go_wp2_with (go_at_call 9; ((with_reducible refine (HC2.out).mono ?_); rintro e w4 ⟨rfl, ht4, hb4⟩); have HT4 := Lib.hid ht4; have HB4 := Lib.hid (HB3.out.drew.trans hb4); clear ht4 hb4)
            go_roundw
            case rel => exact ⟨k + 1, by omega, by go_num, by rw [HDT.out]; exact HT4.out, HB4.out⟩
            case measure => simp [intOf]; omega
          · have HDT := Lib.hid hDT
            clear ht hb hDT hSM hDL hM hkl
            go_wp2
            go_roundw
            case rel => exact ⟨k + 1, by omega, by go_num, by rw [HDT.out]; exact HTW.out, HB.out⟩
            case measure => simp [intOf]; omega
        · obtain rfl : n = k := by omega
          have HTA := Lib.hid (show Twin w.heap.size wr t t2 (dsOf l) (usOf l) (dsOf (l.take 0)) (usOf l) by have := HTW.out; rw [← HLN.out, List.take_length] at this; exact this)
          clear ht hb hlt
          go_wp2
          go_loopw [7] (fun i wr' => ∃ k : Nat, k ≤ n ∧ i = .int .i64 k ∧ Twin w.heap.size wr' t t2 (dsOf l) (usOf l) (dsOf (l.take k)) (usOf l) ∧ Below w.heap.size w wr') (fun i _ => n - (intOf i).toNat)
          case atStart => exact ⟨0, by omega, rfl, HTA.out, HB.out⟩
          case round =>
            clear HTA HTW HB hsz
            obtain ⟨k, hk, rfl, ht, hb⟩ := hrel
            have HTW := Lib.hid ht
            have HB := Lib.hid hb
            have hsz := hb.size
            by_cases hlt : k < n
            · have hlt' : (k : Int) < n := by omega
              have hkl : k < l.length := by rw [HLN.out]; exact hlt
              obtain ⟨b, off, rfl, d0, d1, d2⟩ := (HL.out.keep hb).act hlt
              have hDT := dsOf_take hkl
              have hSM := HS.out (el l k) (by rw [← el_eq hkl]; exact List.getElem_mem _)
              have hDL := dsOf_len l k (by omega)
              obtain ⟨Mx, hM⟩ : ∃ Mx, el l k = Mx := ⟨_, rfl⟩
              obtain ⟨fl, s, p⟩ := Mx
              rw [hM] at d0 d1 d2 hDT hSM
              simp only at d0 d1 d2 hDT hSM
              have HSM := Lib.hid hSM
              have HDL := Lib.hid hDL
              cases fl
              · have HDT := Lib.hid hDT
                clear ht hb hDT hSM hDL hM hkl
                go_wp2
                go_roundw
                case rel => exact ⟨k + 1, by omega, by go_num, by rw [HDT.out]; exact HTW.out, HB.out⟩
                case measure => simp [intOf]; omega
              · have HDT := Lib.hid hDT
                have HC := Lib.hid (twin_def2 (w := wr.drew) (s := s) (p := p) (HTW.out.keep (Below.refl _ _).drew) HSM.out (by have := HDL.out; have := HUA.out; omega) hsz)
                clear ht hb hDT hSM hDL hM hkl
                go_wp2
                go_still_tail 11, (by kernel_rfl)
                go_wp2_with (go_at_call 7; ((with_reducible refine (HC.out).mono ?_); rintro e w3 ⟨rfl, ht3, hb3⟩); have HT3 := Lib.hid ht3; have HB3 := Lib.hid (HB.out.drew.trans hb3); clear ht3 hb3)
                go_roundw
                case rel => exact ⟨k + 1, by omega, by go_num, by rw [HDT.out]; exact HT3.out, HB3.out⟩
                case measure => simp [intOf]; omega
            · obtain rfl : n = k := by omega
              have HTA := Lib.hid (show Twin w.heap.size wr t t2 (dsOf l) (usOf l) (dsOf l) (usOf l) by have := HTW.out; rw [← HLN.out, List.take_length] at this; exact this)
              clear ht hb hlt HTW
              obtain ⟨N, hN⟩ : ∃ z, (resL (dsOf l) (usOf l)).length = z := ⟨_, rfl⟩
              obtain ⟨N2, hN2⟩ : ∃ z, (namesOf (dsOf l)).length = z := ⟨_, rfl⟩
              have HEW := Lib.hid (HE.out.keep HB.out)
              have R1 := fun W (h : Below wr.heap.size wr W) => twin_res1 (HTA.out.keep h) (by have := HUA.out; omega) (HEW.out.keep h) hN
              have R2 := fun W (h : Below wr.heap.size wr W) => twin_res2 (HTA.out.keep h) (by have := HUA.out; omega) (HEW.out.keep h) hN
              have R3 := fun W (h : Below wr.heap.size wr W) => twin_names1 (HTA.out.keep h) (by have := HUA.out; have := HDA.out; omega) hN2
              have R4 := fun W (h : Below wr.heap.size wr W) => twin_names2 (HTA.out.keep h) (by have := HUA.out; have := HDA.out; omega) hN2
              obtain ⟨nm, hnm⟩ : ∃ z, resN (dsOf l) (usOf l) = z := ⟨_, rfl⟩
              obtain ⟨ec, hec⟩ : ∃ z, resE (dsOf l) (usOf l) = z := ⟨_, rfl⟩
              obtain ⟨L1, hL1⟩ : ∃ z, resL (dsOf l) (usOf l) = z := ⟨_, rfl⟩
              obtain ⟨L2, hL2⟩ : ∃ z, namesOf (dsOf l) = z := ⟨_, rfl⟩
              simp only [hnm, hec, hL1, hL2] at R1 R2 R3 R4
              have HR1 := Lib.hid R1
              have HR2 := Lib.hid R2
              have HR3 := Lib.hid R3
              have HR4 := Lib.hid R4
              have e1 : (nm.toList == nm.toList) = true := by simp
              have e2 : (ec == ec) = true := by simp
              clear R1 R2 R3 R4 hnm hec hL1 hL2 hN hN2
              go_wp2_with (first
                | (go_at_call 11; ((with_reducible refine (HR1.out _ (Below.refl _ _)).mono ?_); rintro e w3 ⟨a3, c3, rfl, hat3, hb3⟩); have HA3 := Lib.hid hat3; have HB3 := Lib.hid hb3; clear hat3 hb3)
                | (go_at_call 11; ((with_reducible refine (HR2.out _ HB3.out).mono ?_); rintro e w4 ⟨a4, c4, rfl, hat4, hb4⟩); have HA4 := Lib.hid hat4; have HA34 := Lib.hid (HA3.out.keep hb4); have HB4 := Lib.hid (HB3.out.trans (hb4.mono HB3.out.size)); clear hat4 hb4)
                | (go_at_call 15; ((with_reducible refine (refSame19_is _ _ _ _ _ _ _ HA34.out HA4.out).mono ?_); rintro e w5 ⟨rfl, hb5⟩); have HB5 := Lib.hid (HB4.out.trans (hb5.mono HB4.out.size)); clear hb5)
                | (go_at_call 17; ((with_reducible refine (HR3.out _ HB5.out).mono ?_); rintro e w6 ⟨a6, c6, rfl, hat6, hb6⟩); have HA6 := Lib.hid hat6; have HB6 := Lib.hid (HB5.out.trans (hb6.mono HB5.out.size)); clear hat6 hb6)
                | (go_at_call 17; ((with_reducible refine (HR4.out _ HB6.out).mono ?_); rintro e w7 ⟨a7, c7, rfl, hat7, hb7⟩); have HA7 := Lib.hid hat7; have HA67 := Lib.hid (HA6.out.keep hb7); have HB7 := Lib.hid (HB6.out.trans (hb7.mono HB6.out.size)); clear hat7 hb7)
                | (go_at_call 16; ((with_reducible refine (refTexts14_is _ _ _ _ _ _ _ HA67.out HA7.out).mono ?_); rintro e w8 ⟨rfl, hb8⟩); have HB8 := Lib.hid (HB7.out.trans (hb8.mono HB7.out.size)); clear hb8)
                | (go_at_call 5; ((with_reducible refine (labAwake_is _ (HEW.out.keep HB8.out)).mono ?_); rintro e w9 ⟨rfl, hb9⟩); have HB9 := Lib.hid (HB8.out.trans (hb9.mono HB8.out.size)); clear hb9))
              go_ret
              exact ⟨rfl, HB.out.trans (HB9.out.mono hsz)⟩
theorem walk (a : Option Addr) (n c : Nat) (l : List Ac) (w : World) (h : ElAt actK w a n c l ∧ ∀ x ∈ l, x.2.1.size ≤ maxLen) (hE : ErrLaid w) :
    Calls Tryd.prog 4 #[.slice a n c] w fun e w' => e = .returned (.bool true) ∧ Below w.heap.size w w' := by
  by_cases hn : n ≤ 100
  · exact within a n c l w h.1 h.2 hE hn
  · have hcap := h.1.cap
    have hbig := h.1.big
    unfold maxLen at hbig
    have HE := Lib.hid hE
    have hn' : (100 : Int) < n := by omega
    clear h hE hn
    go_enter Tryd.func4, Tryd.ntmps4
    go_wp2_with (go_at_call 5; ((with_reducible refine (labAwake_is _ HE.out).mono ?_); rintro e w9 ⟨rfl, hb9⟩); have HB9 := Lib.hid hb9; clear hb9)
    go_ret
    exact ⟨rfl, HB9.out⟩
end labelTurned
end Go.Proofs.YthaccdalciihpaaDoor
