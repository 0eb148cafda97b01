/- The walk of the law CoreCosts: it returns true and writes nothing that was there. -/
import Derived.Test.YtcoicgkpikoibaaGreatDoorCorL
import Derived.Test.YtcoicgkpikoibaaGreatDoorCorY
namespace Go.Proofs.YtcoicgkpikoibaaGreatDoor
open Go.RowKit Go.IntWalk

namespace coreCosts
theorem mk_at {w : World} {base b n : Nat} {F : Nat → Prop} {code : List Int} {s : Cst} (h : CorAt w base b F code s) (hn : s.mks.length = n) (hL : n ≤ 1048576) : Calls Tryz.prog 14 #[.pointer (some ⟨b, 0, none⟩)] w fun e w' => ∃ a c, e = .returned (.slice a n c) ∧ MkAt w' a n c s.mks ∧ Below w.heap.size w w' := by
  subst hn
  refine (corMarks_is h hL).mono ?_
  rintro e w' ⟨v, rfl, ho, hk⟩
  obtain ⟨a, c, rfl, hm⟩ := ho.at
  exact ⟨a, c, rfl, hm, hk⟩
theorem ram_at {w : World} {base b n : Nat} {F : Nat → Prop} {code : List Int} {s : Cst} (h : CorAt w base b F code s) (hn : s.ram.length = n) (hL : n ≤ 1048576) : Calls Tryz.prog 16 #[.pointer (some ⟨b, 0, none⟩)] w fun e w' => ∃ a c, e = .returned (.slice a n c) ∧ Ws .i32 w' a n c s.ram ∧ Below w.heap.size w w' := by
  subst hn
  refine (corRam_is h hL).mono ?_
  rintro e w' ⟨v, rfl, ho, hk⟩
  obtain ⟨a, c, rfl, hm⟩ := ho.ws
  exact ⟨a, c, rfl, hm, hk⟩
theorem cost_at {a : Option Addr} {n c : Nat} {l : List Mk} {w : World} {k : Int} (h : MkAt w a n c l) (hn : n ≤ 1048576) (hc : ∀ k, k < l.length → 1 ≤ (mkAt l k).2.2 ∧ (mkAt l k).2.2 ≤ 34) (hk : costS l = k) :
    Calls Tryz.prog 18 #[.slice a n c] w fun e w' => e = .returned (.int .i64 k) ∧ w = w' := by
  subst hk
  exact refMkCost_is a n c l w h hn hc
set_option maxRecDepth 100000 in
set_option maxHeartbeats 8000000 in
theorem within (a : Option Addr) (n c : Nat) (l : List Int) (a' : Option Addr) (n' c' : Nat) (data : List Int) (x : Nat) (w : World) (h : Ws .u32 w a n c l) (h2 : Ws .i32 w a' n' c' data) (hb : ∀ i, i < l.length → 0 ≤ byAt l i ∧ byAt l i < 4294967296) (hdb : ∀ k, w32 (byAt data k)) (hn : n ≤ 200) (hn' : n' ≤ 2048) (hx : x ≤ 255) (ht : TabsAt w.heap.size w) :
    Calls Tryz.prog 5 #[.slice a n c, .slice a' n' c', .int .u8 (x : Int)] w fun e w' => e = .returned (.bool true) ∧ Below w.heap.size w w' := by
  have hcap := h.cap
  have hbig := h.big
  have hcap' := h2.cap
  have hbig' := h2.big
  unfold maxLen at hbig hbig'
  have HFew := Lib.hid (fun w => corFew_is (a := a) (n := n) (c := c) (a' := a') (n' := n') (c' := c') (w := w) (k := true) (decide_eq_true ⟨hn, hn'⟩) (by omega) (by omega))
  have HT := Lib.hid ht
  have HL := Lib.hid h
  have HD := Lib.hid h2
  have HWB := Lib.hid hb
  have HG := Lib.hid (show Good l.length n' (beginS data) from h2.len ▸ good_begin hdb)
  have HLL := Lib.hid h.len
  have HLN := Lib.hid (show l.length ≤ 200 by rw [h.len]; exact hn)
  have HNN := Lib.hid (And.intro hn hn')
  have hx' : (x : Int) ≤ 255 := by omega
  obtain ⟨s, hs⟩ : ∃ s, runT l x (beginS data) = s := ⟨_, rfl⟩
  obtain ⟨r, hr⟩ : ∃ r : Int, (runN l x (beginS data) : Int) = r := ⟨_, rfl⟩
  have hg : Good l.length n' s := hs ▸ HG.out.run (by have := HLN.out; omega) x
  have hm : s.mks.length ≤ 255 := hs ▸ Nat.le_trans (mks_run l x (beginS data)) (by show 0 + x ≤ 255; omega)
  have HKp := Lib.hid (show Kept l data s from hs ▸ Kept.run x (kept_begin l data))
  have R1 := Lib.hid (fun (v : World) base b F (h : CorAt v base b F l (beginS data)) => hs ▸ corRun_v (fuel := (x : Int)) hr h HG.out (by have := HLN.out; omega) (by have := HNN.out.2; omega) (.inr ⟨by omega, by omega, rfl⟩) (by omega) (by show 0 + x < _; omega))
  have hlen := run_len (code := l) x (s := beginS data) rfl (by rw [hs]; exact hg.st.1)
  rw [hs] at hlen
  obtain ⟨nm, hnm⟩ : ∃ n, s.mks.length = n := ⟨_, rfl⟩
  obtain ⟨st, hst⟩ : ∃ n, s.st = n := ⟨_, rfl⟩
  obtain ⟨cy, hcy⟩ : ∃ n, costS s.mks = n := ⟨_, rfl⟩
  have HNM := Lib.hid hnm
  have HSt := Lib.hid hst
  have HCy := Lib.hid hcy
  have hlen2 : (nm : Int) + (if 1 < st then 1 else 0) = r := by
    rw [hst, hnm] at hlen
    have e0 : (beginS data).mks.length = 0 := rfl
    rw [e0] at hlen
    rw [← hr]
    split at hlen
    · rename_i q; rw [if_pos q]; omega
    · rename_i q; rw [if_neg q]; omega
  have HLen := Lib.hid hlen2
  have hnb : (nm : Int) ≤ 255 := by omega
  have hrb : 0 ≤ r ∧ r ≤ 256 := by split at hlen2 <;> omega
  obtain ⟨rb0, rb1⟩ := hrb
  have HNL := Lib.hid (show nm ≤ 1048576 by omega)
  have HRL := Lib.hid (show s.ram.length = n' from hg.len)
  have HRN := Lib.hid (show n' ≤ 1048576 by omega)
  have HGs := Lib.hid hg
  clear h h2 hb hdb ht hn hn' hx hs hr hg hm hlen hlen2 hnm hst hcy
  go_enter Tryz.func5, Tryz.ntmps5
  go_upto_if 39 with (first
    | (go_at_call 7; ((with_reducible refine (HFew.out _).mono ?_); rintro e w1 ⟨rfl, rfl⟩))
    | (go_at_call 9; ((with_reducible refine (corNew_is a n c l a' n' c' data w HL.out HD.out (by have := HNN.out.1; omega) HNN.out.2 HT.out HWB.out).mono ?_); rintro e w1 ⟨b, F, rfl, hc, hk⟩); have HC1 := Lib.hid hc; have HK1 := Lib.hid hk; clear hc hk)
    | (go_at_call 19; ((with_reducible refine (R1.out _ _ _ _ HC1.out).mono ?_); rintro e w2 ⟨rfl, F2, hc, hg⟩); have HC := Lib.hid hc; have HB := Lib.hid (hg.keeps.below HK1.out HK1.out.size fun j f => (HC1.out.fF j f).1); clear hc hg)
    | (go_at_call 14; ((with_reducible refine (mk_at HC.out HNM.out HNL.out).mono ?_); rintro e w3 ⟨ma, mc, rfl, hm, hq⟩); have HM3 := Lib.hid hm; have HC3 := Lib.hid (HC.out.keep hq); have HB3 := Lib.hid (bel_next HB.out hq); clear hm hq)
    | (go_at_call 16; ((with_reducible refine (ram_at HC3.out HRL.out HRN.out).mono ?_); rintro e w4 ⟨ra, rc, rfl, hm, hq⟩); have HR4 := Lib.hid hm; have HM4 := Lib.hid (HM3.out.keep hq); have HC4 := Lib.hid (HC3.out.keep hq); have HB4 := Lib.hid (bel_next HB3.out hq); clear hm hq)
    | (go_at_call 20; ((with_reducible refine (corState_v HC4.out HSt.out).mono ?_); rintro e w5 ⟨rfl, rfl⟩)))
  go_cut [9] (fun s9 wx => s9 = .int .i64 (nm : Int) ∧ wx = w4)
  case first =>
    by_cases h1 : 1 < st
    · have hl := HLen.out
      rw [if_pos h1] at hl
      have HL2 := Lib.hid hl
      clear hl
      go_wp2_with fail
      go_meet
      exact ⟨congrArg (Value.int .i64) (by have := HL2.out; omega), rfl⟩
    · have hl := HLen.out
      rw [if_neg h1] at hl
      have HL2 := Lib.hid hl
      have h1' : st ≤ 1 := by omega
      clear hl h1
      go_wp2_with fail
      go_meet
      exact ⟨congrArg (Value.int .i64) (by have := HL2.out; omega), rfl⟩
  case rest =>
    obtain ⟨rfl, rfl⟩ := hcut
    have hmcap := HM4.out.cap
    have hmbig := HM4.out.big
    unfold maxLen at hmbig
    have hrcap := HR4.out.cap
    have hrbig := HR4.out.big
    unfold maxLen at hrbig
    go_wp2_with (first
      | (go_at_call 17; ((with_reducible refine (corCycles_v HC4.out HCy.out).mono ?_); rintro e w5 ⟨rfl, rfl⟩))
      | (go_at_call 18; ((with_reducible refine (cost_at HM4.out HNL.out (fun k hk => ⟨(HGs.out.mks k hk).2.2.2.2.1, (HGs.out.mks k hk).2.2.2.2.2⟩) HCy.out).mono ?_); rintro e w5 ⟨rfl, rfl⟩)))
    go_loopw [12] (fun i wa => ∃ k : Nat, k ≤ nm ∧ i = .int .i64 k ∧ wa = wc) (fun i _ => nm - (intOf i).toNat)
    case atStart => exact ⟨0, by omega, rfl, rfl⟩
    case round =>
      obtain ⟨k, hk, rfl, rfl⟩ := hrel
      by_cases hlt : k < nm
      · obtain ⟨g, off, rfl, hc⟩ := HM4.out.lie (by omega)
        obtain ⟨c0, c1, c2⟩ := hc k hlt
        have hb := HGs.out.mks k (by rw [HNM.out]; exact hlt)
        rw [HLL.out] at hb
        obtain ⟨p0, hp0⟩ : ∃ p, (mkAt s.mks k).1 = p := ⟨_, rfl⟩
        obtain ⟨p1, hp1⟩ : ∃ p, (mkAt s.mks k).2.1 = p := ⟨_, rfl⟩
        obtain ⟨p2, hp2⟩ : ∃ p, (mkAt s.mks k).2.2 = p := ⟨_, rfl⟩
        rw [hp0, hp1, hp2] at hb
        rw [hp0] at c0
        rw [hp1] at c1
        rw [hp2] at c2
        obtain ⟨b0, b1, b2, b3, b4, b5⟩ := hb
        have hlt' : (k : Int) < nm := by omega
        have d0 : decide (p0 < 0) = false := by simpa using b0
        have d1 : decide ((n : Int) ≤ p0) = false := by simpa using b1
        have d2 : decide (p1 < -1) = false := by simpa using b2
        have d3 : decide ((n' : Int) ≤ p1) = false := by simpa using b3
        have d4 : decide (p2 < 1) = false := by simpa using b4
        have d5 : decide (34 < p2) = false := by simpa using b5
        clear hc hp0 hp1 hp2 hlt
        go_wp2
        go_roundw
        case rel => exact ⟨k + 1, by omega, by go_num, by first | rfl | trivial⟩
        case measure => simp [intOf]; omega
      · obtain rfl : k = nm := by omega
        clear hlt
        go_wp2
        go_loopw [13, 14, 15] (fun i _ _ wb => ∃ q : Nat, q ≤ n' ∧ i = .int .i64 q ∧ Below wr.heap.size wr wb) (fun i _ _ _ => n' - (intOf i).toNat)
        case atStart => exact ⟨0, by omega, rfl, Below.refl _ _⟩
        case round =>
          obtain ⟨q, hq, rfl, hbb⟩ := hrel
          have HBb := Lib.hid hbb
          by_cases hlt : q < n'
          · have hlt' : (q : Int) < n' := by omega
            obtain ⟨dg, dof, e', hdc⟩ := (HD.out.keep (bel_next HB4.out hbb)).lie (by omega)
            have c8 := hdc q hlt
            obtain ⟨rg, rof, e'', hrc⟩ := (HR4.out.keep hbb).lie (by omega)
            have c9 := hrc q hlt
            subst e' e''
            obtain ⟨v, hv⟩ : ∃ v, byAt data q = v := ⟨_, rfl⟩
            obtain ⟨u, hu⟩ : ∃ v, byAt s.ram q = v := ⟨_, rfl⟩
            rw [hv] at c8
            rw [hu] at c9
            have HUV := Lib.hid (show stB l s.mks q k = false → u = v from fun hf => by
              rcases HKp.out q (by rw [HRL.out]; exact hlt) with ⟨j, hj, e1, e2⟩ | e
              · rw [stB_of e1 e2 (by rw [HNM.out] at hj; exact hj)] at hf
                cases hf
              · rw [← hu, ← hv]; exact e)
            clear hdc hrc hv hu hbb
            go_wp2
            go_loopw [14, 15] (fun t j wd => ∃ m : Nat, m ≤ k ∧ j = .int .i64 m ∧ t = .bool (stB l s.mks q m) ∧ wd = wr) (fun _ j _ => k - (intOf j).toNat)
            case atStart => exact ⟨0, by omega, rfl, rfl, rfl⟩
            case round =>
              obtain ⟨m, hm, rfl, rfl, rfl⟩ := hrel
              obtain ⟨t, ht⟩ : ∃ t, stB l s.mks q m = t := ⟨_, rfl⟩
              rw [ht]
              by_cases hlt2 : m < k
              · obtain ⟨g, off, rfl, hc⟩ := (HM4.out.keep HBb.out).lie (by omega)
                obtain ⟨c0, c1, c2⟩ := hc m hlt2
                have hb := HGs.out.mks m (by rw [HNM.out]; exact hlt2)
                rw [HLL.out] at hb
                obtain ⟨p0, hp0⟩ : ∃ p : Nat, (mkAt s.mks m).1 = p := ⟨(mkAt s.mks m).1.toNat, by omega⟩
                obtain ⟨p1, hp1⟩ : ∃ p, (mkAt s.mks m).2.1 = p := ⟨_, rfl⟩
                rw [hp0] at c0 hb
                rw [hp1] at c1
                have hpn : p0 < n := by omega
                obtain ⟨wg, wof, rfl, hwc⟩ := (HL.out.keep (bel_next HB4.out HBb.out)).lie (by omega)
                have c7 := hwc p0 hpn
                obtain ⟨y, hy⟩ : ∃ y, byAt l p0 = y := ⟨_, rfl⟩
                rw [hy] at c7
                have hyb := HWB.out p0 (by rw [HLL.out]; exact hpn)
                rw [hy] at hyb
                obtain ⟨y0, y1⟩ := hyb
                have HN2 := Lib.hid (show stB l s.mks q (m + 1) = (t || ((p1 == (q : Int)) && (y / 67108864 == 35))) by
                  show (stB l s.mks q m || _) = _
                  rw [ht, hp1, hp0, show ((p0 : Int)).toNat = p0 from rfl, hy])
                have hlt2' : (m : Int) < k := by omega
                have hpn' : (p0 : Int) < n := by omega
                clear hc hp0 hp1 hwc hy hlt2 ht hb
                cases t with
                | true =>
                  go_wp2
                  go_roundw
                  case rel => exact ⟨m + 1, by omega, by go_num, by rw [HN2.out]; rfl, by first | rfl | trivial⟩
                  case measure => simp [intOf]; omega
                | false =>
                  by_cases e : p1 = (q : Int)
                  · have e1 : (p1 == (q : Int)) = true := by simpa using e
                    clear e
                    go_wp2
                    go_roundw
                    case rel => exact ⟨m + 1, by omega, by go_num, by rw [HN2.out, e1]; rfl, by first | rfl | trivial⟩
                    case measure => simp [intOf]; omega
                  · have e1 : (p1 == (q : Int)) = false := by simpa using e
                    clear e
                    go_wp2
                    go_roundw
                    case rel => exact ⟨m + 1, by omega, by go_num, by rw [HN2.out, e1]; rfl, by first | rfl | trivial⟩
                    case measure => simp [intOf]; omega
              · obtain rfl : m = k := by omega
                have HTT := Lib.hid ht
                clear hlt2 ht
                cases t with
                | true =>
                  go_wp2
                  go_quiet (fail)
                  go_wp2
                  go_roundw
                  case rel => exact ⟨q + 1, by omega, by go_num, below_drewN HBb.out _⟩
                  case measure => simp [intOf]; omega
                | false =>
                  obtain rfl := HUV.out HTT.out
                  go_wp2
                  go_quiet (fail)
                  go_wp2
                  go_roundw
                  case rel => exact ⟨q + 1, by omega, by go_num, below_drewN HBb.out _⟩
                  case measure => simp [intOf]; omega
          · obtain rfl : q = n' := by omega
            have HAw := Lib.hid (corAwake_is _ (HT.out.next (bel_next HB4.out hbb)))
            clear hlt hbb
            go_wp2_with (go_at_call 8; ((with_reducible refine (HAw.out).mono ?_); rintro e w9 ⟨rfl, hq⟩); have HQ := Lib.hid hq; clear hq)
            go_ret
            exact ⟨rfl, bel_next (bel_next HB4.out HBb.out) HQ.out⟩
theorem walk (a0 : Option Addr) (len0 cap0 : Nat) (z0 : List Int) (a1 : Option Addr) (len1 cap1 : Nat) (z1 : List Int) (a2 : Int) (w : World) (h0 : IsRow .u32 w a0 len0 cap0 z0) (h1 : IsRow .i32 w a1 len1 cap1 z1) (h2 : (Lit.int .u8 a2).wf = true) (ht : TabsAt w.heap.size w) :
    Calls Tryz.prog 5 #[.slice a0 len0 cap0, .slice a1 len1 cap1, .int .u8 a2] w fun e w' => e = .returned (.bool true) ∧ Below w.heap.size w w' := by
  have g0 := Ws.of_row h0
  have g1 := Ws.of_row h1
  obtain ⟨b0, b1⟩ := bounds_u8 h2
  obtain ⟨x, rfl⟩ : ∃ m : Nat, a2 = m := ⟨a2.toNat, by omega⟩
  by_cases hn : len0 ≤ 200 ∧ len1 ≤ 2048
  · exact within _ _ _ _ _ _ _ _ x w g0 g1 h0.words h1.datas hn.1 hn.2 (by omega) ht
  · have k0 := g0.big
    have k1 := g1.big
    have k2 := g0.cap
    have k3 := g1.cap
    unfold maxLen at k0 k1
    have HFew := Lib.hid (fun w => corFew_is (a := a0) (n := len0) (c := cap0) (a' := a1) (n' := len1) (c' := cap1) (w := w) (k := false) (decide_eq_false hn) (by omega) (by omega))
    have HAw := Lib.hid (corAwake_is w ht)
    clear g0 g1 h0 h1 h2 hn ht
    go_enter Tryz.func5, Tryz.ntmps5
    go_wp2_with (first
      | (go_at_call 7; ((with_reducible refine (HFew.out _).mono ?_); rintro e w1 ⟨rfl, rfl⟩))
      | (go_at_call 8; ((with_reducible refine (HAw.out).mono ?_); rintro e w2 ⟨rfl, hq⟩); have HQ := Lib.hid hq; clear hq))
    go_ret
    exact ⟨rfl, HQ.out⟩
end coreCosts
end Go.Proofs.YtcoicgkpikoibaaGreatDoor
