/- The walk of the law CoreSplits: it returns true and writes nothing that was there. -/
import Derived.Test.YtcoicgkpikoibaaGreatDoorCorL
namespace Go.Proofs.YtcoicgkpikoibaaGreatDoor
open Go.RowKit Go.IntWalk

namespace coreSplits
theorem lower {w : World} {base base' b : Nat} {F : Nat → Prop} {code : List Int} {s : Cst} (h : CorAt w base b F code s) (hb : base' ≤ base) (ht : TabsAt base' w) : CorAt w base' b F code s := by
  obtain ⟨rb, ca, cn, cc, rv, mv, h⟩ := h
  exact ⟨rb, ca, cn, cc, rv, mv, h.blk, h.code, h.ram.mono hb, h.marks.mono hb, ht, h.fb, h.fr, h.fv, h.fm, h.fc, fun j f => ⟨Nat.le_trans hb (h.fF j f).1, (h.fF j f).2⟩⟩
/-- Two cores apart. -/
structure Twin (W : World) (b1 b2 : Nat) (code : List Int) (s t : Cst) (w : World) (F G : Nat → Prop) : Prop where
  one : CorAt w W.heap.size b1 F code s
  two : CorAt w W.heap.size b2 G code t
  apart : Apart F G
  below : Below W.heap.size W w
section
variable {W w w' : World} {b1 b2 : Nat} {code : List Int} {s t u : Cst} {F G : Nat → Prop}
theorem Twin.keep (h : Twin W b1 b2 code s t w F G) (k : Below w.heap.size w w') : Twin W b1 b2 code s t w' F G := ⟨h.one.keep k, h.two.keep k, h.apart, bel_next h.below k⟩
theorem Twin.left (h : Twin W b1 b2 code s t w F G) (k : CorTo w W.heap.size b1 F code u w') : ∃ F', Twin W b1 b2 code u t w' F' G := by
  obtain ⟨F', hc, g⟩ := k
  refine ⟨F', hc, h.two.kept g.keeps (fun j f => (h.one.fF j f).1) fun j g2 f => h.apart j f g2, ?_, ?_⟩
  · exact Apart.symm (g.apart fun j g2 => ⟨fun f => h.apart j f g2, (h.two.fF j g2).2⟩)
  · exact g.keeps.below h.below h.below.size fun j f => (h.one.fF j f).1
theorem Twin.right (h : Twin W b1 b2 code s t w F G) (k : CorTo w W.heap.size b2 G code u w') : ∃ G', Twin W b1 b2 code s u w' F G' := by
  obtain ⟨G', hc, g⟩ := k
  refine ⟨G', h.one.kept g.keeps (fun j f => (h.two.fF j f).1) fun j f g2 => h.apart j f g2, hc, ?_, ?_⟩
  · exact g.apart fun j f => ⟨fun g2 => h.apart j f g2, (h.one.fF j f).2⟩
  · exact g.keeps.below h.below h.below.size fun j f => (h.two.fF j f).1
theorem twin_marks1 {n : Nat} (h : Twin W b1 b2 code s t w F G) (hn : s.mks.length = n) (hL : n ≤ 1048576) : Calls Tryz.prog 14 #[.pointer (some ⟨b1, 0, none⟩)] w fun e w' => ∃ a c, e = .returned (.slice a n c) ∧ MkAt w' a n c s.mks ∧ Below w.heap.size w w' := by
  subst hn
  refine (corMarks_is h.one hL).mono ?_
  rintro e w' ⟨v, rfl, ho, hk⟩
  obtain ⟨a, c, rfl, hm⟩ := ho.at
  exact ⟨a, c, rfl, hm, hk⟩
theorem twin_marks2 {n : Nat} (h : Twin W b1 b2 code s t w F G) (hn : t.mks.length = n) (hL : n ≤ 1048576) : Calls Tryz.prog 14 #[.pointer (some ⟨b2, 0, none⟩)] w fun e w' => ∃ a c, e = .returned (.slice a n c) ∧ MkAt w' a n c t.mks ∧ Below w.heap.size w w' := by
  subst hn
  refine (corMarks_is h.two hL).mono ?_
  rintro e w' ⟨v, rfl, ho, hk⟩
  obtain ⟨a, c, rfl, hm⟩ := ho.at
  exact ⟨a, c, rfl, hm, hk⟩
theorem twin_ram1 {n : Nat} (h : Twin W b1 b2 code s t w F G) (hn : s.ram.length = n) (hL : n ≤ 1048576) : Calls Tryz.prog 16 #[.pointer (some ⟨b1, 0, none⟩)] w fun e w' => ∃ a c, e = .returned (.slice a n c) ∧ Ws .i32 w' a n c s.ram ∧ Below w.heap.size w w' := by
  subst hn
  refine (corRam_is h.one hL).mono ?_
  rintro e w' ⟨v, rfl, ho, hk⟩
  obtain ⟨a, c, rfl, hm⟩ := ho.ws
  exact ⟨a, c, rfl, hm, hk⟩
theorem twin_ram2 {n : Nat} (h : Twin W b1 b2 code s t w F G) (hn : t.ram.length = n) (hL : n ≤ 1048576) : Calls Tryz.prog 16 #[.pointer (some ⟨b2, 0, none⟩)] w fun e w' => ∃ a c, e = .returned (.slice a n c) ∧ Ws .i32 w' a n c t.ram ∧ Below w.heap.size w w' := by
  subst hn
  refine (corRam_is h.two hL).mono ?_
  rintro e w' ⟨v, rfl, ho, hk⟩
  obtain ⟨a, c, rfl, hm⟩ := ho.ws
  exact ⟨a, c, rfl, hm, hk⟩
end
/-- Marks that a call made are not a core's own. -/
theorem marks_own {w : World} {base b n : Nat} {F : Nat → Prop} {code : List Int} {s : Cst} (h : CorAt w base b F code s) (hn : s.mks.length = n) (hL : n ≤ 1048576) : Calls Tryz.prog 14 #[.pointer (some ⟨b, 0, none⟩)] w fun e w' => ∃ a c, e = .returned (.slice a n c) ∧ MkAt w' a n c s.mks ∧ (∀ g off, a = some ⟨g, off, none⟩ → ¬ F g) ∧ Below w.heap.size w w' := by
  subst hn
  refine (corMarks_is h hL).mono ?_
  rintro e w' ⟨v, rfl, ho, hk⟩
  obtain ⟨a, c, rfl, hm⟩ := ho.at
  refine ⟨a, c, rfl, hm, fun g off e f => ?_, hk⟩
  have h1 := (h.fF g f).2
  have h2 := (ho.lt g (by rw [e]; rfl)).1
  omega
theorem MkAt.kept {F : Nat → Prop} {w w' : World} {a : Option Addr} {n c : Nat} {l : List Mk} (h : MkAt w a n c l) (k : Keeps F w w') (hn : ∀ g off, a = some ⟨g, off, none⟩ → ¬ F g) : MkAt w' a n c l := by
  refine ⟨h.len, h.cap, h.big, h.nil, fun h0 => ?_⟩
  obtain ⟨b, off, e, hc⟩ := h.lie h0
  refine ⟨b, off, e, fun i hi => ?_⟩
  obtain ⟨c0, c1, c2⟩ := hc i hi
  exact ⟨k.cell (hn b off e) c0, k.cell (hn b off e) c1, k.cell (hn b off e) c2⟩
set_option maxRecDepth 100000 in
set_option maxHeartbeats 8000000 in
theorem within (a : Option Addr) (n c : Nat) (l : List Int) (a' : Option Addr) (n' c' : Nat) (data : List Int) (x y : Nat) (w : World) (h : Ws .u32 w a n c l) (h2 : Ws .i32 w a' n' c' data) (hb : ∀ i, i < l.length → 0 ≤ byAt l i ∧ byAt l i < 4294967296) (hdb : ∀ k, w32 (byAt data k)) (hn : n ≤ 200) (hn' : n' ≤ 2048) (hx : x ≤ 255) (hy : y ≤ 255) (ht : TabsAt w.heap.size w) :
    Calls Tryz.prog 4 #[.slice a n c, .slice a' n' c', .int .u8 (x : Int), .int .u8 (y : Int)] w fun e w' => e = .returned (.bool true) ∧ Below w.heap.size w w' := by
  have hcap := h.cap
  have hbig := h.big
  have hcap' := h2.cap
  have hbig' := h2.big
  unfold maxLen at hbig hbig'
  have HFew := Lib.hid (fun w => corFew_is (a := a) (n := n) (c := c) (a' := a') (n' := n') (c' := c') (w := w) (k := true) (decide_eq_true ⟨hn, hn'⟩) (by omega) (by omega))
  have HT := Lib.hid ht
  have HL := Lib.hid h
  have HD := Lib.hid h2
  have HWB := Lib.hid hb
  have HG := Lib.hid (show Good l.length n' (beginS data) from h2.len ▸ good_begin hdb)
  have HLN := Lib.hid (show l.length ≤ 200 by rw [h.len]; exact hn)
  have HNN := Lib.hid (And.intro hn hn')
  have HXY := Lib.hid (And.intro hx hy)
  have hx' : (x : Int) ≤ 255 := by omega
  have hy' : (y : Int) ≤ 255 := by omega
  obtain ⟨s1, hs1⟩ : ∃ s, runT l x (beginS data) = s := ⟨_, rfl⟩
  obtain ⟨s2, hs2⟩ : ∃ s, runT l y s1 = s := ⟨_, rfl⟩
  have hs3 : runT l (x + y) (beginS data) = s2 := by rw [runT_add, hs1, hs2]
  obtain ⟨r1, hr1⟩ : ∃ r : Int, (runN l x (beginS data) : Int) = r := ⟨_, rfl⟩
  obtain ⟨r2, hr2⟩ : ∃ r : Int, (runN l y s1 : Int) = r := ⟨_, rfl⟩
  have hr3 : (runN l (x + y) (beginS data) : Int) = r1 + r2 := by rw [runN_add, hs1, ← hr1, ← hr2]; rfl
  have hrb : 0 ≤ r1 ∧ r1 ≤ 255 ∧ 0 ≤ r2 ∧ r2 ≤ 255 := by
    have := runN_le l x (beginS data)
    have := runN_le l y s1
    omega
  obtain ⟨q0, q1, q2, q3⟩ := hrb
  have hm1 : s1.mks.length ≤ 255 := hs1 ▸ Nat.le_trans (mks_run l x (beginS data)) (by show 0 + x ≤ 255; omega)
  have hm2 : s2.mks.length ≤ 510 := hs2 ▸ Nat.le_trans (mks_run l y s1) (by omega)
  have hg1 : Good l.length n' s1 := hs1 ▸ HG.out.run (by have := HLN.out; omega) x
  have hg2 : Good l.length n' s2 := hs2 ▸ hg1.run (by have := HLN.out; omega) y
  have R1 := Lib.hid (fun (v : World) base b F (h : CorAt v base b F l (beginS data)) => hs1 ▸ corRun_v (fuel := (x : Int)) hr1 h HG.out (by have := HLN.out; omega) (by have := HNN.out.2; omega) (.inr ⟨by omega, by omega, rfl⟩) (by omega) (by show 0 + x < _; omega))
  have R2 := Lib.hid (fun (v : World) base b F (h : CorAt v base b F l s1) => hs2 ▸ corRun_v (fuel := (y : Int)) hr2 h hg1 (by have := HLN.out; omega) (by have := HNN.out.2; omega) (.inr ⟨by omega, by omega, rfl⟩) (by omega) (by omega))
  have R3 := Lib.hid (fun (v : World) base b F (h : CorAt v base b F l (beginS data)) => hs3 ▸ corRun_v (fuel := (x : Int) + (y : Int)) (m := x + y) hr3 h HG.out (by have := HLN.out; omega) (by have := HNN.out.2; omega) (.inr ⟨by omega, by omega, by omega⟩) (by omega) (by show 0 + (x + y) < _; omega))
  obtain ⟨nm, hnm⟩ : ∃ n, s2.mks.length = n := ⟨_, rfl⟩
  have HNM := Lib.hid hnm
  have HNL := Lib.hid (show nm ≤ 1048576 by omega)
  have HRL := Lib.hid (show s2.ram.length = n' from hg2.len)
  have HRN := Lib.hid (show n' ≤ 1048576 by omega)
  obtain ⟨st, hst⟩ : ∃ n, s2.st = n := ⟨_, rfl⟩
  obtain ⟨pc, hpc⟩ : ∃ n, s2.pc = n := ⟨_, rfl⟩
  have HSt := Lib.hid hst
  have HPc := Lib.hid hpc
  clear h h2 hb hdb ht hn hn' hx hy hs1 hs2 hs3 hr1 hr2 hr3 hm1 hm2 hg1 hg2 hnm hst hpc
  go_enter Tryz.func4, Tryz.ntmps4
  go_upto_region 7 with (first
    | (go_at_call 7; ((with_reducible refine (HFew.out _).mono ?_); rintro e w1 ⟨rfl, rfl⟩))
    | (go_at_call 9; ((with_reducible refine (corNew_is a n c l a' n' c' data w HL.out HD.out (by have := HNN.out.1; omega) HNN.out.2 HT.out HWB.out).mono ?_); rintro e w1 ⟨b1, F, rfl, hc, hk⟩); have HC1 := Lib.hid hc; have HK1 := Lib.hid hk; have HL1 := Lib.hid (HL.out.keep hk); have HD1 := Lib.hid (HD.out.keep hk); have HT1 := Lib.hid (HT.out.next hk); clear hc hk)
    | (go_at_call 9; ((with_reducible refine (corNew_is a n c l a' n' c' data w1 HL1.out HD1.out (by have := HNN.out.1; omega) HNN.out.2 HT1.out HWB.out).mono ?_); rintro e w2 ⟨b2, G, rfl, hc, hk⟩); have HTw := Lib.hid (show Twin w b1 b2 l (beginS data) (beginS data) w2 F G from ⟨HC1.out.keep hk, lower hc HK1.out.size (HT.out.keep (bel_next HK1.out hk)), fun j f g => (by have h1 := (HC1.out.fF j f).2; have h2 := (hc.fF j g).1; omega), bel_next HK1.out hk⟩); clear hc hk))
  go_cut [13] (fun s13 wx => s13 = .int .i64 (r1 + r2) ∧ ∃ F, Twin w b1 b2 l s2 (beginS data) wx F G)
  case first =>
    go_wp2_with (first
      | (go_at_call 19; ((with_reducible refine (R1.out _ _ _ _ HTw.out.one).mono ?_); rintro e w3 ⟨rfl, hq⟩); obtain ⟨F3, ht3⟩ := HTw.out.left hq; have HTw3 := Lib.hid ht3; clear hq ht3)
      | (go_at_call 19; ((with_reducible refine (R2.out _ _ _ _ HTw3.out.one).mono ?_); rintro e w4 ⟨rfl, hq⟩); obtain ⟨F4, ht4⟩ := HTw3.out.left hq; have HTw4 := Lib.hid ht4; clear hq ht4))
    go_meet
    exact ⟨rfl, _, HTw4.out⟩
  case rest =>
    obtain ⟨rfl, F3, hT3⟩ := hcut
    have HT3 := Lib.hid hT3
    clear hT3
    go_upto_region 9 with (go_at_call 19; ((with_reducible refine (R3.out _ _ _ _ HT3.out.two).mono ?_); rintro e w5 ⟨rfl, hq⟩); obtain ⟨G4, ht4⟩ := HT3.out.right hq; have HTc := Lib.hid ht4; clear hq ht4)
    go_cut [88] (fun s88 wx => s88 = .bool false ∧ Twin w b1 b2 l s2 s2 wx F3 G4)
    case first =>
      go_wp2_with (first
        | (go_at_call 14; ((with_reducible refine (twin_marks1 HTc.out HNM.out HNL.out).mono ?_); rintro e w6 ⟨av, cv, rfl, hm, hq⟩); have HV := Lib.hid hm; have HTc := Lib.hid (HTc.out.keep hq); clear hm hq)
        | (go_at_call 14; ((with_reducible refine (twin_marks2 HTc.out HNM.out HNL.out).mono ?_); rintro e w7 ⟨bv, dv, rfl, hm, hq⟩); have HV1 := Lib.hid (HV.out.keep hq); have HV2 := Lib.hid hm; have HTc := Lib.hid (HTc.out.keep hq); clear hm hq)
        | (go_at_call 13; ((with_reducible refine (refSameM_is _ _ _ _ _ _ _ HV1.out HV2.out).mono ?_); rintro e w8 ⟨rfl, hq⟩); have HTc := Lib.hid (HTc.out.keep hq); clear hq)
        | (go_at_call 16; ((with_reducible refine (twin_ram1 HTc.out HRL.out HRN.out).mono ?_); rintro e w9 ⟨au, cu, rfl, hm, hq⟩); have HU := Lib.hid hm; have HTc := Lib.hid (HTc.out.keep hq); clear hm hq)
        | (go_at_call 16; ((with_reducible refine (twin_ram2 HTc.out HRL.out HRN.out).mono ?_); rintro e w10 ⟨bu, du, rfl, hm, hq⟩); have HU1 := Lib.hid (HU.out.keep hq); have HU2 := Lib.hid hm; have HTc := Lib.hid (HTc.out.keep hq); clear hm hq)
        | (go_at_call 15; ((with_reducible refine (refSameW_is _ _ _ _ _ _ _ HU1.out HU2.out).mono ?_); rintro e w11 ⟨rfl, hq⟩); have HTc := Lib.hid (HTc.out.keep hq); clear hq)
        | (go_at_call 20; ((with_reducible refine (corState_v HTc.out.one HSt.out).mono ?_); rintro e w12 ⟨rfl, rfl⟩))
        | (go_at_call 20; ((with_reducible refine (corState_v HTc.out.two HSt.out).mono ?_); rintro e w12 ⟨rfl, rfl⟩))
        | (go_at_call 21; ((with_reducible refine (corPC_v HTc.out.one HPc.out).mono ?_); rintro e w12 ⟨rfl, rfl⟩))
        | (go_at_call 21; ((with_reducible refine (corPC_v HTc.out.two HPc.out).mono ?_); rintro e w12 ⟨rfl, rfl⟩)))
      go_meet
      exact ⟨rfl, HTc.out⟩
    case rest =>
      obtain ⟨rfl, hT5⟩ := hcut
      have HT5 := Lib.hid hT5
      clear hT5
      go_wp2_with (go_at_call 14; ((with_reducible refine (marks_own HT5.out.one HNM.out HNL.out).mono ?_); rintro e w6 ⟨wa, wp, rfl, hm, ho, hq⟩); have HM := Lib.hid hm; have HOw := Lib.hid ho; have HC := Lib.hid (HT5.out.one.keep hq); have HB := Lib.hid (bel_next HT5.out.below hq); clear hm ho hq)
      go_loopw [16] (fun i wr => ∃ k : Nat, k ≤ n' ∧ i = .int .i64 k ∧ ∃ L, CorAt wr w.heap.size b1 F3 l (s2.hold L) ∧ L.length = n' ∧ (∀ j, j < k → byAt L j = byAt data j) ∧ MkAt wr wa nm wp s2.mks ∧ Below w.heap.size w wr) (fun i _ => n' - (intOf i).toNat)
      case atStart => exact ⟨0, by omega, rfl, s2.ram, HC.out, HRL.out, fun j hj => absurd hj (Nat.not_lt_zero _), HM.out, HB.out⟩
      case round =>
        obtain ⟨k, hk, rfl, L, hC, hLl, hLj, hM, hb⟩ := hrel
        have HCk := Lib.hid hC
        have HMk := Lib.hid hM
        have HBk := Lib.hid hb
        have HLl := Lib.hid hLl
        have HLj := Lib.hid hLj
        by_cases hlt : k < n'
        · obtain ⟨db, dof, rfl, hc⟩ := (HD.out.keep hb).lie (by omega)
          have c9 := hc k hlt
          obtain ⟨v, hv⟩ : ∃ v, byAt data k = v := ⟨_, rfl⟩
          rw [hv] at c9
          have HV := Lib.hid hv
          have hlt' : (k : Int) < n' := by omega
          have HPo := Lib.hid (corPoke_is (x := (k : Int)) (u := v) (k := true) hC (by show L.length ≤ _; rw [hLl]; exact HRN.out) (by have := HRN.out; omega) (decide_eq_true ⟨by omega, by show _ < (L.length : Int); rw [hLl]; exact hlt'⟩))
          clear hC hLl hLj hM hb hc hv
          go_wp2_with (go_at_call 22; ((with_reducible refine (HPo.out).mono ?_); rintro e w9 ⟨rfl, hc, hq⟩); have HC9 := Lib.hid hc; have HQ9 := Lib.hid hq; clear hc hq)
          go_roundw
          case rel =>
            refine ⟨k + 1, by omega, by go_num, stL L (k : Int) v, HC9.out, by rw [stL_len]; exact HLl.out, fun j hj => ?_, MkAt.kept HMk.out HQ9.out HOw.out, HQ9.out.below HBk.out HBk.out.size fun j f => (HCk.out.fF j f).1⟩
            rw [byAt_stL]
            by_cases e : j = k
            · subst e
              rw [if_pos ⟨rfl, by rw [HLl.out]; exact hlt⟩, HV.out]
            · rw [if_neg (by omega)]
              exact HLj.out j (by omega)
          case measure => simp [intOf]; omega
        · obtain rfl : k = n' := by omega
          have hLd : L = data := by
            have hdl := HD.out.len
            refine List.ext_getElem (by rw [hLl, hdl]) fun i h1 h2 => ?_
            rw [byAt_eq h1, byAt_eq h2]
            exact hLj i (by omega)
          subst hLd
          have HBe := Lib.hid (corBegin_is hC)
          clear hC hLl hLj hM hb
          go_wp2_with (first
            | (go_at_call 23; ((with_reducible refine (HBe.out).mono ?_); rintro e w9 ⟨rfl, hc, hq⟩); have HC9 := Lib.hid (show CorAt w9 w.heap.size b1 F3 l (beginS L) from hc); have HM9 := Lib.hid (MkAt.kept HMk.out hq fun g off e f => HOw.out g off e (f ▸ HCk.out.fb)); have HB9 := Lib.hid (hq.below HBk.out HBk.out.size fun j f => f ▸ (HCk.out.fF b1 HCk.out.fb).1); clear hc hq)
            | (go_at_call 21; ((with_reducible refine (corPC_v HC9.out (k := 0) (Eq.refl 0)).mono ?_); rintro e w12 ⟨rfl, rfl⟩))
            | (go_at_call 20; ((with_reducible refine (corState_v HC9.out (k := 0) (Eq.refl 0)).mono ?_); rintro e w12 ⟨rfl, rfl⟩))
            | (go_at_call 17; ((with_reducible refine (corCycles_v HC9.out (k := 0) (Eq.refl 0)).mono ?_); rintro e w12 ⟨rfl, rfl⟩))
            | (go_at_call 14; ((with_reducible refine (marks_own HC9.out (n := 0) (Eq.refl 0) (Nat.zero_le _)).mono ?_); rintro e w10 ⟨zv, zc, rfl, hm, ho, hq⟩); have HC10 := Lib.hid (HC9.out.keep hq); have HM10 := Lib.hid (HM9.out.keep hq); have HB10 := Lib.hid (bel_next HB9.out hq); clear hm ho hq)
            | (go_at_call 19; ((with_reducible refine (R3.out _ _ _ _ HC10.out).mono ?_); rintro e w11 ⟨rfl, F7, hc, hg⟩); have HC11 := Lib.hid hc; have HM11 := Lib.hid (MkAt.kept HM10.out hg.keeps HOw.out); have HB11 := Lib.hid (hg.keeps.below HB10.out HB10.out.size fun j f => (HC10.out.fF j f).1); clear hc hg)
            | (go_at_call 14; ((with_reducible refine (marks_own HC11.out HNM.out HNL.out).mono ?_); rintro e w13 ⟨yv, yc, rfl, hm, ho, hq⟩); have HM13 := Lib.hid (HM11.out.keep hq); have HY := Lib.hid hm; have HB13 := Lib.hid (bel_next HB11.out hq); clear hm ho hq)
            | (go_at_call 13; ((with_reducible refine (refSameM_is _ _ _ _ _ _ _ HY.out HM13.out).mono ?_); rintro e w14 ⟨rfl, hq⟩); have HB14 := Lib.hid (bel_next HB13.out hq); have HAw := Lib.hid (corAwake_is _ (HT.out.next (bel_next HB13.out hq))); clear hq)
            | (go_at_call 8; ((with_reducible refine (HAw.out).mono ?_); rintro e w15 ⟨rfl, hq⟩); have HB15 := Lib.hid (bel_next HB14.out hq); clear hq))
          go_ret
          exact ⟨rfl, HB15.out⟩
theorem walk (a0 : Option Addr) (len0 cap0 : Nat) (z0 : List Int) (a1 : Option Addr) (len1 cap1 : Nat) (z1 : List Int) (a2 a3 : Int) (w : World) (h0 : IsRow .u32 w a0 len0 cap0 z0) (h1 : IsRow .i32 w a1 len1 cap1 z1) (h2 : (Lit.int .u8 a2).wf = true) (h3 : (Lit.int .u8 a3).wf = true) (ht : TabsAt w.heap.size w) :
    Calls Tryz.prog 4 #[.slice a0 len0 cap0, .slice a1 len1 cap1, .int .u8 a2, .int .u8 a3] w fun e w' => e = .returned (.bool true) ∧ Below w.heap.size w w' := by
  have g0 := Ws.of_row h0
  have g1 := Ws.of_row h1
  obtain ⟨b0, b1⟩ := bounds_u8 h2
  obtain ⟨b2, b3⟩ := bounds_u8 h3
  obtain ⟨x, rfl⟩ : ∃ m : Nat, a2 = m := ⟨a2.toNat, by omega⟩
  obtain ⟨y, rfl⟩ : ∃ m : Nat, a3 = m := ⟨a3.toNat, by omega⟩
  by_cases hn : len0 ≤ 200 ∧ len1 ≤ 2048
  · exact within _ _ _ _ _ _ _ _ x y w g0 g1 h0.words h1.datas hn.1 hn.2 (by omega) (by omega) ht
  · have k0 := g0.big
    have k1 := g1.big
    have k2 := g0.cap
    have k3 := g1.cap
    unfold maxLen at k0 k1
    have HFew := Lib.hid (fun w => corFew_is (a := a0) (n := len0) (c := cap0) (a' := a1) (n' := len1) (c' := cap1) (w := w) (k := false) (decide_eq_false hn) (by omega) (by omega))
    have HAw := Lib.hid (corAwake_is w ht)
    clear g0 g1 h0 h1 h2 h3 hn ht
    go_enter Tryz.func4, Tryz.ntmps4
    go_wp2_with (first
      | (go_at_call 7; ((with_reducible refine (HFew.out _).mono ?_); rintro e w1 ⟨rfl, rfl⟩))
      | (go_at_call 8; ((with_reducible refine (HAw.out).mono ?_); rintro e w2 ⟨rfl, hq⟩); have HQ := Lib.hid hq; clear hq))
    go_ret
    exact ⟨rfl, HQ.out⟩
end coreSplits
end Go.Proofs.YtcoicgkpikoibaaGreatDoor
