/- The walk of the law CorePlays: it returns true and writes nothing that was there. -/
import Derived.Test.YtcoicgkpikoibaaGreatDoorCorL
namespace Go.Proofs.YtcoicgkpikoibaaGreatDoor
open Go.RowKit Go.IntWalk

namespace corePlays
/-- Behind the loop: what the document's core holds can still be read. -/
abbrev EndS (w : World) (b2 : Nat) (mv rv : Value) (w' : World) : Prop := (w'.cell? ⟨b2, 36, none⟩ = some mv ∧ w'.cell? ⟨b2, 1, none⟩ = some rv) ∧ Below w.heap.size w w'
theorem ends {w w1 w' : World} {b2 : Nat} {mv rv : Value} (h : EndS w b2 mv rv w1) (k : Below w1.heap.size w1 w') : EndS w b2 mv rv w' :=
  ⟨⟨(k.cell (p := ⟨b2, 36, none⟩) (cell_lt h.1.1)).trans h.1.1, (k.cell (p := ⟨b2, 1, none⟩) (cell_lt h.1.2)).trans h.1.2⟩, bel_next h.2 k⟩
section
variable {W w w1 : World} {b b2 : Nat} {l : List Int} {s : Cst} {F F2 : Nat → Prop} {mv rv : Value}
theorem end_marks (hP : Pair W b b2 l s w F F2) (hm : s.mks.length ≤ 1048576) (h : EndS w b2 mv rv w1) : Calls Tryz.prog 14 #[.pointer (some ⟨b, 0, none⟩)] w1 fun e w' => ∃ a c, e = .returned (.slice a s.mks.length c) ∧ MkAt w' a s.mks.length c s.mks ∧ EndS w b2 mv rv w' := by
  refine (corMarks_is (hP.cor.keep h.2) hm).mono ?_
  rintro e w' ⟨v, rfl, ho, hk⟩
  obtain ⟨a, c, rfl, hmk⟩ := ho.at
  exact ⟨a, c, rfl, hmk, ends h hk⟩
theorem end_same {a ma : Option Addr} {n c mc : Nat} {ms : List Mk} (h1 : MkAt w1 a n c ms) (h2 : MkAt w ma n mc ms) (h : EndS w b2 mv rv w1) : Calls Tryz.prog 13 #[.slice a n c, .slice ma n mc] w1 fun e w' => e = .returned (.bool true) ∧ EndS w b2 mv rv w' :=
  (refSameM_is a ma n c mc ms w1 h1 (h2.keep h.2)).mono fun _ _ ⟨he, hk⟩ => ⟨he, ends h hk⟩
theorem end_ram (hP : Pair W b b2 l s w F F2) (hm : s.ram.length ≤ 1048576) {n : Nat} (hn : s.ram.length = n) (h : EndS w b2 mv rv w1) : Calls Tryz.prog 16 #[.pointer (some ⟨b, 0, none⟩)] w1 fun e w' => ∃ a c, e = .returned (.slice a n c) ∧ Ws .i32 w' a n c s.ram ∧ EndS w b2 mv rv w' := by
  subst hn
  refine (corRam_is (hP.cor.keep h.2) hm).mono ?_
  rintro e w' ⟨v, rfl, ho, hk⟩
  obtain ⟨a, c, rfl, hmk⟩ := ho.ws
  exact ⟨a, c, rfl, hmk, ends h hk⟩
theorem end_sameW {a ma : Option Addr} {n c mc : Nat} {ms : List Int} (h1 : Ws .i32 w1 a n c ms) (h2 : Ws .i32 w ma n mc ms) (h : EndS w b2 mv rv w1) : Calls Tryz.prog 15 #[.slice a n c, .slice ma n mc] w1 fun e w' => e = .returned (.bool true) ∧ EndS w b2 mv rv w' :=
  (refSameW_is a ma n c mc ms w1 h1 (h2.keep h.2)).mono fun _ _ ⟨he, hk⟩ => ⟨he, ends h hk⟩
theorem end_cyc (hP : Pair W b b2 l s w F F2) {k : Int} (hk : costS s.mks = k) (h : EndS w b2 mv rv w1) : Calls Tryz.prog 17 #[.pointer (some ⟨b, 0, none⟩)] w1 fun e w' => e = .returned (.int .i64 k) ∧ EndS w b2 mv rv w' :=
  (corCycles_v (hP.cor.keep h.2) hk).mono fun _ _ ⟨he, hw⟩ => ⟨he, hw ▸ h⟩
theorem end_cost {ma : Option Addr} {n mc N R : Nat} {k : Int} (hk : costS s.mks = k) (hg : Good N R s) (hn : n ≤ 1048576) (h2 : MkAt w ma n mc s.mks) (h : EndS w b2 mv rv w1) : Calls Tryz.prog 18 #[.slice ma n mc] w1 fun e w' => e = .returned (.int .i64 k) ∧ EndS w b2 mv rv w' := by
  subst hk
  exact (refMkCost_is ma n mc s.mks w1 (h2.keep h.2) hn fun k hk => ⟨(hg.mks k hk).2.2.2.2.1, (hg.mks k hk).2.2.2.2.2⟩).mono fun _ _ ⟨he, hw⟩ => ⟨he, hw ▸ h⟩
theorem end_awake (hW : TabsAt W.heap.size W) (hb : Below W.heap.size W w) (h : EndS w b2 mv rv w1) : Calls Tryz.prog 8 #[] w1 fun e w' => e = .returned (.bool true) ∧ EndS w b2 mv rv w' :=
  (corAwake_is w1 ((hW.next hb).next h.2)).mono fun _ _ ⟨he, hk⟩ => ⟨he, ends h hk⟩
end
set_option maxRecDepth 100000 in
set_option maxHeartbeats 8000000 in
theorem within (a : Option Addr) (n c : Nat) (l : List Int) (a' : Option Addr) (n' c' : Nat) (data : List Int) (m : Nat) (w : World) (h : Ws .u32 w a n c l) (h2 : Ws .i32 w a' n' c' data) (hb : ∀ i, i < l.length → 0 ≤ byAt l i ∧ byAt l i < 4294967296) (hdb : ∀ k, w32 (byAt data k)) (hn : n ≤ 200) (hn' : n' ≤ 2048) (hm : m ≤ 255) (ht : TabsAt w.heap.size w) :
    Calls Tryz.prog 3 #[.slice a n c, .slice a' n' c', .int .u8 (m : Int)] w fun e w' => e = .returned (.bool true) ∧ Below w.heap.size w w' := by
  have hcap := h.cap
  have hbig := h.big
  have hcap' := h2.cap
  have hbig' := h2.big
  unfold maxLen at hbig hbig'
  have HFew := Lib.hid (fun w => corFew_is (a := a) (n := n) (c := c) (a' := a') (n' := n') (c' := c') (w := w) (k := true) (decide_eq_true ⟨hn, hn'⟩) (by omega) (by omega))
  have HT := Lib.hid ht
  have HL := Lib.hid h
  have HD := Lib.hid h2
  have HWB := Lib.hid hb
  have HG := Lib.hid (show Good l.length n' (beginS data) from h2.len ▸ good_begin hdb)
  have HLN := Lib.hid (show l.length ≤ 200 by rw [h.len]; exact hn)
  have HNN := Lib.hid (And.intro hn hn')
  have hm' : (m : Int) ≤ 255 := by omega
  clear h h2 hb hdb ht hn hn'
  go_enter Tryz.func3, Tryz.ntmps3
  go_wp2_with (first
    | (go_at_call 7; ((with_reducible refine (HFew.out _).mono ?_); rintro e w1 ⟨rfl, rfl⟩))
    | (go_at_call 9; ((with_reducible refine (corNew_is a n c l a' n' c' data _ HL.out HD.out (by have := HNN.out.1; omega) HNN.out.2 HT.out HWB.out).mono ?_); rintro e w1 ⟨b, F, rfl, hc, hk⟩); have HP := Lib.hid (ref_begin HL.out HD.out hc hk (ref_cells a n c a' n' c' data)); clear hc hk))
  go_loopw [10, 11] (fun i _ wr => ∃ k : Nat, k ≤ m ∧ i = .int .i64 k ∧ ∃ F F2, Pair w b w1.heap.size l (runT l k (beginS data)) wr F F2) (fun i _ _ => m - (intOf i).toNat)
  case atStart => exact ⟨0, by omega, rfl, _, _, HP.out⟩
  case round =>
    obtain ⟨k, hk, rfl, F1, F2, hP⟩ := hrel
    have HP1 := Lib.hid hP
    have HGk := Lib.hid (HG.out.run (by have := HLN.out; omega) k)
    have HMk := Lib.hid (show (runT l k (beginS data)).mks.length ≤ 255 from Nat.le_trans (mks_run l k (beginS data)) (by show 0 + k ≤ 255; omega))
    by_cases hlt : k < m
    · have hlt' : (k : Int) < m := by omega
      have c35 := hP.ref.cells.2.1
      have hs := corStepT_is hP.cor HGk.out (by have := HLN.out; omega) (by have := HNN.out.2; omega) (by have := HMk.out; omega)
      obtain ⟨s, hs0⟩ : ∃ s, runT l k (beginS data) = s := ⟨_, rfl⟩
      have HSN := Lib.hid (show runT l (k + 1) (beginS data) = stepT l s by rw [runT_next, hs0])
      rw [hs0] at c35 hs
      rw [hs0] at HP1 HGk HMk
      clear hP hs0
      by_cases hst : s.st = 0
      · rw [decide_eq_true hst, stepT_on hst] at hs
        rw [hst] at c35
        have HS := Lib.hid hs
        have HSN2 := Lib.hid (HSN.out.trans (stepT_on hst))
        clear hs hst HSN
        go_wp2_with (first
          | (go_at_call 10; ((with_reducible refine (HS.out).mono ?_); rintro e w2 ⟨rfl, hq⟩); obtain ⟨F3, hq3⟩ := HP1.out.half hq; have HH := Lib.hid hq3; have HR := Lib.hid (refStep_is hq3.ref HGk.out (by have := HLN.out; omega) (by have := HNN.out.2; omega) (by have := HMk.out; omega) HWB.out); clear hq hq3)
          | (go_at_call 11; ((with_reducible refine (HR.out).mono ?_); rintro e w3 ⟨rfl, hq⟩); obtain ⟨F4, hq4⟩ := HH.out.pair hq; have HP4 := Lib.hid hq4; have HSa := Lib.hid (corSame_is hq4.cor hq4.ref); clear hq hq4)
          | (go_at_call 12; ((with_reducible refine (HSa.out).mono ?_); rintro e w4 ⟨rfl, hq⟩); have HP5 := Lib.hid (HP4.out.keep hq); clear hq))
        go_roundw
        case rel => exact ⟨k + 1, by omega, by go_num, _, _, HSN2.out ▸ HP5.out⟩
        case measure => simp [intOf]; omega
      · rw [decide_eq_false hst, stepT_off hst] at hs
        have e0 : (s.st == 0) = false := by simpa using hst
        have HS := Lib.hid hs
        have HSN2 := Lib.hid (HSN.out.trans (stepT_off hst))
        clear hs hst HSN
        go_wp2_with (first
          | (go_at_call 10; ((with_reducible refine (HS.out).mono ?_); rintro e w2 ⟨rfl, hq⟩); obtain ⟨F3, hq3⟩ := HP1.out.half hq; have HP4 := Lib.hid hq3.same; have HSa := Lib.hid (corSame_is hq3.same.cor hq3.same.ref); clear hq hq3)
          | (go_at_call 12; ((with_reducible refine (HSa.out).mono ?_); rintro e w4 ⟨rfl, hq⟩); have HP5 := Lib.hid (HP4.out.keep hq); clear hq))
        go_roundw
        case rel => exact ⟨k + 1, by omega, by go_num, _, _, HSN2.out ▸ HP5.out⟩
        case measure => simp [intOf]; omega
    · obtain rfl : k = m := by omega
      obtain ⟨s, hs0⟩ : ∃ s, runT l k (beginS data) = s := ⟨_, rfl⟩
      rw [hs0] at HP1 HGk HMk
      obtain ⟨ca, cn, cc, ra, rn, rc, mv, hw⟩ := HP1.out.ref
      obtain ⟨ma, mc, rfl, hmk⟩ := hw.marks.at
      have c36 := hw.cpc.2.2.2.2
      have c1 := hw.cpc.2.1
      have hrn := hw.ram.len
      obtain ⟨nm, hnm⟩ : ∃ n, s.mks.length = n := ⟨_, rfl⟩
      obtain ⟨cy, hcy⟩ : ∃ c, costS s.mks = c := ⟨_, rfl⟩
      have hml := HMk.out
      have hrl : s.ram.length ≤ 1048576 := by rw [HGk.out.len]; have := HNN.out.2; omega
      have K1 := Lib.hid (fun w2 (h : EndS wr w1.heap.size (.slice ma s.mks.length mc) (.slice ra rn rc) w2) => end_marks HP1.out (by omega) h)
      have K2 := Lib.hid (fun w2 a c (h1 : MkAt w2 a s.mks.length c s.mks) (h : EndS wr w1.heap.size (.slice ma s.mks.length mc) (.slice ra rn rc) w2) => end_same h1 hmk h)
      have K3 := Lib.hid (fun w2 (h : EndS wr w1.heap.size (.slice ma s.mks.length mc) (.slice ra rn rc) w2) => end_ram HP1.out hrl hrn h)
      have K4 := Lib.hid (fun w2 a c (h1 : Ws .i32 w2 a rn c s.ram) (h : EndS wr w1.heap.size (.slice ma s.mks.length mc) (.slice ra rn rc) w2) => end_sameW h1 hw.ram h)
      have K5 := Lib.hid (fun w2 (h : EndS wr w1.heap.size (.slice ma s.mks.length mc) (.slice ra rn rc) w2) => end_cyc HP1.out hcy h)
      have K6 := Lib.hid (fun w2 (h : EndS wr w1.heap.size (.slice ma s.mks.length mc) (.slice ra rn rc) w2) => end_cost hcy HGk.out (by omega) hmk h)
      have K7 := Lib.hid (fun w2 (h : EndS wr w1.heap.size (.slice ma s.mks.length mc) (.slice ra rn rc) w2) => end_awake HT.out HP1.out.below h)
      rw [hnm] at K1 K2 K3 K4 K5 K6 K7 c36
      have hS0 : (wr.drew.cell? ⟨w1.heap.size, 36, none⟩ = some (.slice ma nm mc) ∧ wr.drew.cell? ⟨w1.heap.size, 1, none⟩ = some (.slice ra rn rc)) ∧ Below wr.heap.size wr wr.drew := ⟨⟨c36, c1⟩, (Below.refl _ _).drew⟩
      have e9 : (cy == cy) = true := by simp
      clear hP hlt hs0 hw hmk hrn hnm hcy hml hrl
      go_wp2
      go_region_held (fun w' => (w'.cell? ⟨w1.heap.size, 36, none⟩ = some (.slice ma nm mc) ∧ w'.cell? ⟨w1.heap.size, 1, none⟩ = some (.slice ra rn rc)) ∧ Below wr.heap.size wr w')
        (first | with_reducible assumption)
        (first
          | (go_at_call 14; ((with_reducible refine (K1.out _ (by assumption)).mono ?_); rintro e w2 ⟨av, cv, rfl, hv, hS⟩); have HV := Lib.hid hv; have HVd := Lib.hid (hv.keep ((Below.refl _ _).drew)); clear hv)
          | (go_at_call 13; ((with_reducible refine (K2.out _ _ _ HV.out (by assumption)).mono ?_); rintro e w3 ⟨rfl, hS⟩))
          | (go_at_call 13; ((with_reducible refine (K2.out _ _ _ HVd.out (by assumption)).mono ?_); rintro e w3 ⟨rfl, hS⟩))
          | (go_at_call 16; ((with_reducible refine (K3.out _ (by assumption)).mono ?_); rintro e w2 ⟨av, cv, rfl, hv, hS⟩); have HU := Lib.hid hv; have HUd := Lib.hid (hv.keep ((Below.refl _ _).drew)); clear hv)
          | (go_at_call 15; ((with_reducible refine (K4.out _ _ _ HU.out (by assumption)).mono ?_); rintro e w3 ⟨rfl, hS⟩))
          | (go_at_call 15; ((with_reducible refine (K4.out _ _ _ HUd.out (by assumption)).mono ?_); rintro e w3 ⟨rfl, hS⟩))
          | (go_at_call 17; ((with_reducible refine (K5.out _ (by assumption)).mono ?_); rintro e w3 ⟨rfl, hS⟩))
          | (go_at_call 18; ((with_reducible refine (K6.out _ (by assumption)).mono ?_); rintro e w3 ⟨rfl, hS⟩))
          | (go_at_call 8; ((with_reducible refine (K7.out _ (by assumption)).mono ?_); rintro e w3 ⟨rfl, hS⟩)))
      go_wp2
      go_ret
      first
        | exact ⟨rfl, bel_next HP1.out.below hS.2⟩
        | exact ⟨rfl, (bel_next HP1.out.below hS.2).drew⟩
theorem walk (a0 : Option Addr) (len0 cap0 : Nat) (z0 : List Int) (a1 : Option Addr) (len1 cap1 : Nat) (z1 : List Int) (a2 : Int) (w : World) (h0 : IsRow .u32 w a0 len0 cap0 z0) (h1 : IsRow .i32 w a1 len1 cap1 z1) (h2 : (Lit.int .u8 a2).wf = true) (ht : TabsAt w.heap.size w) :
    Calls Tryz.prog 3 #[.slice a0 len0 cap0, .slice a1 len1 cap1, .int .u8 a2] w fun e w' => e = .returned (.bool true) ∧ Below w.heap.size w w' := by
  have g0 := Ws.of_row h0
  have g1 := Ws.of_row h1
  obtain ⟨b0, b1⟩ := bounds_u8 h2
  obtain ⟨m, rfl⟩ : ∃ m : Nat, a2 = m := ⟨a2.toNat, by omega⟩
  by_cases hn : len0 ≤ 200 ∧ len1 ≤ 2048
  · exact within _ _ _ _ _ _ _ _ m w g0 g1 h0.words h1.datas hn.1 hn.2 (by omega) ht
  · have k0 := g0.big
    have k1 := g1.big
    have k2 := g0.cap
    have k3 := g1.cap
    unfold maxLen at k0 k1
    have HFew := Lib.hid (fun w => corFew_is (a := a0) (n := len0) (c := cap0) (a' := a1) (n' := len1) (c' := cap1) (w := w) (k := false) (decide_eq_false hn) (by omega) (by omega))
    have HAw := Lib.hid (corAwake_is w ht)
    clear g0 g1 h0 h1 h2 hn ht
    go_enter Tryz.func3, Tryz.ntmps3
    go_wp2_with (first
      | (go_at_call 7; ((with_reducible refine (HFew.out _).mono ?_); rintro e w1 ⟨rfl, rfl⟩))
      | (go_at_call 8; ((with_reducible refine (HAw.out).mono ?_); rintro e w2 ⟨rfl, hq⟩); have HQ := Lib.hid hq; clear hq))
    go_ret
    exact ⟨rfl, HQ.out⟩
end corePlays
end Go.Proofs.YtcoicgkpikoibaaGreatDoor
