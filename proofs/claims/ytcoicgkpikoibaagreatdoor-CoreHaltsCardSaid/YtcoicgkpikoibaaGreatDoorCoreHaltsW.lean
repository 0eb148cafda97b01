/- The walk of the law CoreHalts: it returns true and writes nothing that was there. -/
import Derived.Test.YtcoicgkpikoibaaGreatDoorCorL
namespace Go.Proofs.YtcoicgkpikoibaaGreatDoor
open Go.RowKit Go.IntWalk

namespace coreHalts
theorem mk_clone {w : World} {base b : Nat} {F : Nat → Prop} {code : List Int} {s : Cst} {n : Nat} (h : CorAt w base b F code s) (hn : s.mks.length = n) (hL : n ≤ 1048576) : Calls Tryz.prog 14 #[.pointer (some ⟨b, 0, none⟩)] w fun e w' => ∃ a c, e = .returned (.slice a n c) ∧ Below w.heap.size w w' := by
  subst hn
  refine (corMarks_is h hL).mono ?_
  rintro e w' ⟨v, rfl, ho, hk⟩
  obtain ⟨a, c, rfl, -⟩ := ho.at
  exact ⟨a, c, rfl, hk⟩
theorem cor_below {W w w' : World} {b : Nat} {F : Nat → Prop} {code : List Int} {s t : Cst} (h : CorAt w W.heap.size b F code s) (hb : Below W.heap.size W w) (k : CorTo w W.heap.size b F code t w') : Below W.heap.size W w' :=
  match k with | ⟨_, _, g⟩ => g.keeps.below hb hb.size fun j f => (h.fF j f).1
theorem ld_st (L : List Int) (x u : Int) : ldB (stL L x u) x = ldB L x ∧ ldV (stL L x u) x = if ldB L x = true then u else 0 := by
  refine ⟨by unfold ldB; rw [stL_len], ?_⟩
  by_cases h : 0 ≤ x ∧ x < L.length
  · rw [show ldB L x = true from decide_eq_true h, if_pos rfl]
    unfold ldV
    rw [if_pos (by rw [stL_len]; exact h)]
    obtain ⟨k, rfl⟩ : ∃ k : Nat, x = k := ⟨x.toNat, by omega⟩
    rw [byAt_stL, if_pos ⟨rfl, by omega⟩]
  · rw [show ldB L x = false from decide_eq_false h, if_neg (by decide)]
    unfold ldV
    rw [if_neg (by rw [stL_len]; exact h)]
theorem good_hold {N R : Nat} {s : Cst} (h : Good N R s) (x : Int) {u : Int} (hu : w32 u) : Good N R (s.hold (stL s.ram x u)) := h.hold x hu
set_option maxRecDepth 100000 in
set_option maxHeartbeats 8000000 in
theorem within (a : Option Addr) (n c : Nat) (l : List Int) (a' : Option Addr) (n' c' : Nat) (data : List Int) (f addr x : Int) (w : World) (h : Ws .u32 w a n c l) (h2 : Ws .i32 w a' n' c' data) (hb : ∀ i, i < l.length → 0 ≤ byAt l i ∧ byAt l i < 4294967296) (hdb : ∀ k, w32 (byAt data k)) (hn : n ≤ 16384) (hn' : n' ≤ 2048)
    (hf : -9223372036854775808 ≤ f ∧ f ≤ 9223372036854775807) (ha : -9223372036854775808 ≤ addr ∧ addr ≤ 9223372036854775807) (hx : w32 x) (ht : TabsAt w.heap.size w) :
    Calls Tryz.prog 6 #[.slice a n c, .slice a' n' c', .int .i64 f, .int .i64 addr, .int .i32 x] w fun e w' => e = .returned (.bool true) ∧ Below w.heap.size w w' := by
  have hcap := h.cap
  have hbig := h.big
  have hcap' := h2.cap
  have hbig' := h2.big
  unfold maxLen at hbig hbig'
  have HT := Lib.hid ht
  have HL := Lib.hid h
  have HD := Lib.hid h2
  have HWB := Lib.hid hb
  have HG := Lib.hid (show Good l.length n' (beginS data) from h2.len ▸ good_begin hdb)
  have HLN := Lib.hid (show l.length ≤ 16384 by rw [h.len]; exact hn)
  have HNN := Lib.hid (And.intro hn hn')
  have HF := Lib.hid hf
  have HA := Lib.hid ha
  have HX := Lib.hid hx
  have e1 : (n : Int) ≤ 16384 := by omega
  have e2 : (n' : Int) ≤ 2048 := by omega
  clear h h2 hb hdb ht hn hn' hf ha hx
  go_enter Tryz.func6, Tryz.ntmps6
  go_upto_region 8 with (go_at_call 9; ((with_reducible refine (corNew_is a n c l a' n' c' data _ HL.out HD.out HNN.out.1 HNN.out.2 HT.out HWB.out).mono ?_); rintro e w1 ⟨b, F, rfl, hc, hk⟩); have HC := Lib.hid hc; have HK := Lib.hid hk; clear hc hk)
  go_cut [] (fun wx => ∃ m F, CorAt wx w.heap.size b F l (runT l m (beginS data)) ∧ Below w.heap.size w wx ∧ m ≤ 300)
  case first =>
    by_cases hle : f ≤ 300
    · obtain ⟨m, hm⟩ : ∃ m : Nat, (f ≤ 0 ∧ m = 0) ∨ (0 ≤ f ∧ f ≤ 1048576 ∧ f = m) := by
        by_cases h0 : f ≤ 0
        · exact ⟨0, .inl ⟨h0, rfl⟩⟩
        · exact ⟨f.toNat, .inr ⟨by omega, by omega, by omega⟩⟩
      have HR := Lib.hid (corRun_is f m HC.out HG.out (by have := HLN.out; omega) (by have := HNN.out.2; omega) hm HF.out.1 (by show 0 + m < _; omega))
      have HMM := Lib.hid (show m ≤ 300 by omega)
      clear hm
      go_wp2_with (go_at_call 19; ((with_reducible refine (HR.out).mono ?_); rintro e w2 ⟨rfl, hq⟩); have HQ := Lib.hid hq; clear hq)
      go_meet
      obtain ⟨F', hc', g'⟩ := HQ.out
      exact ⟨m, F', hc', cor_below HC.out HK.out HQ.out, HMM.out⟩
    · have hge : 300 < f := by omega
      have HR := Lib.hid (corRun_is 300 300 HC.out HG.out (by have := HLN.out; omega) (by have := HNN.out.2; omega) (.inr ⟨by decide, by decide, rfl⟩) (by decide) (by show 0 + 300 < _; omega))
      clear hle
      go_wp2_with (go_at_call 19; ((with_reducible refine (HR.out).mono ?_); rintro e w2 ⟨rfl, hq⟩); have HQ := Lib.hid hq; clear hq)
      all_goals go_meet
      all_goals obtain ⟨F', hc', g'⟩ := HQ.out
      all_goals exact ⟨300, F', hc', cor_below HC.out HK.out HQ.out, Nat.le_refl _⟩
  case rest =>
    obtain ⟨m, F1, hC, hK, hm⟩ := hcut
    have hmk := mks_run l m (beginS data)
    have hg := HG.out.run (by have := HLN.out; omega) m
    obtain ⟨s, hs⟩ : ∃ s, runT l m (beginS data) = s := ⟨_, rfl⟩
    rw [hs] at hC hmk hg
    have HC1 := Lib.hid hC
    have HK1 := Lib.hid hK
    have HG1 := Lib.hid hg
    have HM1 := Lib.hid (show s.mks.length ≤ 300 from Nat.le_trans hmk (by show 0 + m ≤ 300; omega))
    have HRL := Lib.hid (show s.ram.length ≤ 1048576 by rw [hg.len]; have := HNN.out.2; omega)
    have HRN := Lib.hid (show s.ram.length = n' from hg.len)
    obtain ⟨cy, hcy⟩ : ∃ c, costS s.mks = c := ⟨_, rfl⟩
    obtain ⟨pc, hpc⟩ : ∃ c, s.pc = c := ⟨_, rfl⟩
    obtain ⟨st, hst⟩ : ∃ c, s.st = c := ⟨_, rfl⟩
    obtain ⟨nm, hnm⟩ : ∃ c, s.mks.length = c := ⟨_, rfl⟩
    obtain ⟨k, hkk⟩ : ∃ k, ldB s.ram addr = k := ⟨_, rfl⟩
    have K1 := Lib.hid (fun (v : World) F (h : CorAt v w.heap.size b F l s) => corCycles_v h hcy)
    have K2 := Lib.hid (fun (v : World) F (h : CorAt v w.heap.size b F l s) => corPC_v h hpc)
    have K3 := Lib.hid (fun (v : World) F (h : CorAt v w.heap.size b F l s) => corState_v h hst)
    have K4 := Lib.hid (mk_clone hC hnm (by have := HM1.out; omega))
    have HKK := Lib.hid hkk
    have HE := Lib.hid (And.intro hcy (And.intro hpc (And.intro hst hnm)))
    clear hC hK hm hmk hg hs hcy hpc hst hnm hkk
    go_upto_region 12 with (first
      | (go_at_call 17; ((with_reducible refine (K1.out _ _ HC1.out).mono ?_); rintro e w2 ⟨rfl, rfl⟩))
      | (go_at_call 21; ((with_reducible refine (K2.out _ _ HC1.out).mono ?_); rintro e w2 ⟨rfl, rfl⟩))
      | (go_at_call 20; ((with_reducible refine (K3.out _ _ HC1.out).mono ?_); rintro e w2 ⟨rfl, rfl⟩))
      | (go_at_call 14; ((with_reducible refine (K4.out).mono ?_); rintro e w2 ⟨ax, cx, rfl, hq⟩); have HC2 := Lib.hid (HC1.out.keep hq); have HK2 := Lib.hid (bel_next HK1.out hq); have HPo := Lib.hid (corPoke_is (u := x) (HC1.out.keep hq) HRL.out HA.out HKK.out); clear hq)
      | (go_at_call 22; ((with_reducible refine (HPo.out).mono ?_); rintro e w3 ⟨rfl, hc, hq⟩); have HC3 := Lib.hid hc; have HK3 := Lib.hid (hq.below HK2.out HK2.out.size fun j f => (HC2.out.fF j f).1); have HLo := Lib.hid (corLoadX_is (y := if k = true then x else 0) (k := k) hc (by show (stL _ _ _).length ≤ _; rw [stL_len]; exact HRL.out) HA.out (by rw [← HKK.out]; exact (ld_st _ _ _).2) (by rw [← HKK.out]; exact (ld_st _ _ _).1)); clear hc hq)
      | (go_at_call 24; ((with_reducible refine (HLo.out).mono ?_); rintro e w5 ⟨rfl, hq⟩); have HC5 := Lib.hid (HC3.out.keep hq); have HK5 := Lib.hid (bel_next HK3.out hq); clear hq))
    have hr := HRN.out
    go_cut [107] (fun s107 wx => s107 = .bool false ∧ wx = w5)
    case first =>
      by_cases hin : 0 ≤ addr ∧ addr < n'
      · obtain ⟨i0, i1⟩ := hin
        obtain rfl : k = true := by rw [← HKK.out]; exact decide_eq_true ⟨i0, by omega⟩
        clear hr
        go_wp2_with fail
        go_meet
        exact ⟨rfl, rfl⟩
      · obtain rfl : k = false := by rw [← HKK.out]; exact decide_eq_false (by omega)
        by_cases i0 : addr < 0
        · have e9 : decide (0 ≤ addr) = false := by simpa using i0
          clear hr hin
          go_wp2_with fail
          go_meet
          exact ⟨rfl, rfl⟩
        · have i1 : 0 ≤ addr := by omega
          have i2 : (n' : Int) ≤ addr := by omega
          clear hr hin i0
          go_wp2_with fail
          go_meet
          exact ⟨congrArg Value.bool (decide_eq_false (by omega)), rfl⟩
    case rest =>
      obtain ⟨rfl, rfl⟩ := hcut
      obtain ⟨q1, q2, q3, q4⟩ := HE.out
      have HG5 := Lib.hid (good_hold HG1.out addr HX.out)
      obtain ⟨t, ht⟩ : ∃ t, s.hold (stL s.ram addr x) = t := ⟨_, rfl⟩
      have HT1 := Lib.hid (show costS t.mks = cy by rw [← ht]; exact q1)
      have HT2 := Lib.hid (show t.pc = pc by rw [← ht]; exact q2)
      have HT3 := Lib.hid (show t.st = st by rw [← ht]; exact q3)
      have HT4 := Lib.hid (show t.mks.length = nm by rw [← ht]; exact q4)
      have hc5 := HC5.out
      have hg5 := HG5.out
      rw [ht] at hc5 hg5
      have HN3 := Lib.hid (show nm ≤ 300 from q4 ▸ HM1.out)
      have HC6 := Lib.hid hc5
      have HG6 := Lib.hid hg5
      clear q1 q2 q3 q4 ht hc5 hg5 hr
      by_cases h0 : st = 0
      · have HR := Lib.hid (corRun_v (fuel := -1) (m := 0) (r := 0) rfl HC6.out HG6.out (by have := HLN.out; omega) (by have := HNN.out.2; omega) (.inl ⟨by decide, rfl⟩) (by decide) (by rw [HT4.out]; have := HN3.out; omega))
        have e9 : (st != 0) = false := by simpa using h0
        have e8 : (st == 0) = true := by simpa using h0
        clear h0
        go_wp2_with (first
          | (go_at_call 19; ((with_reducible refine (HR.out).mono ?_); rintro e w6 ⟨rfl, hq⟩); have HK6 := Lib.hid (cor_below HC6.out HK5.out hq); have HAw := Lib.hid (corAwake_is w6 (HT.out.next (cor_below HC6.out HK5.out hq))); clear hq)
          | (go_at_call 8; ((with_reducible refine (HAw.out).mono ?_); rintro e w7 ⟨rfl, hq⟩); have HK7 := Lib.hid (bel_next HK6.out hq); clear hq))
        all_goals go_ret
        all_goals exact ⟨rfl, HK7.out⟩
      · have hoff : t.st ≠ 0 := by rw [HT3.out]; exact h0
        have e9 : (st != 0) = true := by simpa using h0
        have e8 : (st == 0) = false := by simpa using h0
        have HOff := Lib.hid hoff
        have hs := corStepT_is HC6.out HG6.out (by have := HLN.out; omega) (by have := HNN.out.2; omega) (by rw [HT4.out]; have := HN3.out; omega)
        rw [decide_eq_false hoff, stepT_off hoff] at hs
        have HS := Lib.hid hs
        have hrun := fun (v : World) F (h : CorAt v w.heap.size b F l t) => corRun_v (fuel := 5) (m := 5) (r := 0) (by rw [runN_off hoff]; rfl) h HG6.out (by have := HLN.out; omega) (by have := HNN.out.2; omega) (.inr ⟨by decide, by decide, rfl⟩) (by decide) (by rw [HT4.out]; have := HN3.out; omega)
        have hrun2 := fun (v : World) F (h : CorAt v w.heap.size b F l t) => corRun_v (fuel := -1) (m := 0) (r := 0) rfl h HG6.out (by have := HLN.out; omega) (by have := HNN.out.2; omega) (.inl ⟨by decide, rfl⟩) (by decide) (by rw [HT4.out]; have := HN3.out; omega)
        rw [runT_off hoff] at hrun hrun2
        have HR5 := Lib.hid hrun
        have HR1 := Lib.hid hrun2
        have HCy := Lib.hid (fun (v : World) F (h : CorAt v w.heap.size b F l t) => corCycles_v h HT1.out)
        have HPc := Lib.hid (fun (v : World) F (h : CorAt v w.heap.size b F l t) => corPC_v h HT2.out)
        have HMk := Lib.hid (fun (v : World) F (h : CorAt v w.heap.size b F l t) => mk_clone h HT4.out (by have := HN3.out; omega))
        clear hoff hs hrun hrun2 h0
        go_wp2_with (first
          | (go_at_call 10; ((with_reducible refine (HS.out).mono ?_); rintro e w6 ⟨rfl, F6, hc6, hg6⟩); have HK6 := Lib.hid (cor_below HC6.out HK5.out ⟨F6, hc6, hg6⟩); have HC7 := Lib.hid hc6; clear hc6 hg6)
          | (go_at_call 19; ((with_reducible refine (HR5.out _ _ HC7.out).mono ?_); rintro e w7 ⟨rfl, F7, hc6, hg6⟩); have HK7 := Lib.hid (cor_below HC7.out HK6.out ⟨F7, hc6, hg6⟩); have HC8 := Lib.hid hc6; clear hc6 hg6)
          | (go_at_call 19; ((with_reducible refine (HR1.out _ _ HC8.out).mono ?_); rintro e w8 ⟨rfl, F8, hc6, hg6⟩); have HK8 := Lib.hid (cor_below HC8.out HK7.out ⟨F8, hc6, hg6⟩); have HC9 := Lib.hid hc6; clear hc6 hg6)
          | (go_at_call 17; ((with_reducible refine (HCy.out _ _ HC9.out).mono ?_); rintro e w9 ⟨rfl, rfl⟩))
          | (go_at_call 21; ((with_reducible refine (HPc.out _ _ HC9.out).mono ?_); rintro e w9 ⟨rfl, rfl⟩))
          | (go_at_call 14; ((with_reducible refine (HMk.out _ _ HC9.out).mono ?_); rintro e w9 ⟨ay, cy', rfl, hq⟩); have HK9 := Lib.hid (bel_next HK8.out hq); have HAw := Lib.hid (corAwake_is _ (HT.out.next (bel_next HK8.out hq))); clear hq)
          | (go_at_call 8; ((with_reducible refine (HAw.out).mono ?_); rintro e w10 ⟨rfl, hq⟩); have HK10 := Lib.hid (bel_next HK9.out hq); clear hq))
        all_goals go_ret
        all_goals exact ⟨rfl, HK10.out⟩
theorem walk (a0 : Option Addr) (len0 cap0 : Nat) (z0 : List Int) (a1 : Option Addr) (len1 cap1 : Nat) (z1 : List Int) (a2 a3 a4 : Int) (w : World) (h0 : IsRow .u32 w a0 len0 cap0 z0) (h1 : IsRow .i32 w a1 len1 cap1 z1) (h2 : (Lit.int .i64 a2).wf = true) (h3 : (Lit.int .i64 a3).wf = true) (h4 : (Lit.int .i32 a4).wf = true) (ht : TabsAt w.heap.size w) :
    Calls Tryz.prog 6 #[.slice a0 len0 cap0, .slice a1 len1 cap1, .int .i64 a2, .int .i64 a3, .int .i32 a4] w fun e w' => e = .returned (.bool true) ∧ Below w.heap.size w w' := by
  have g0 := Ws.of_row h0
  have g1 := Ws.of_row h1
  have b2 := bounds_i64 h2
  have b3 := bounds_i64 h3
  have b4 := bounds_i32 h4
  have k0 := g0.big
  have k1 := g1.big
  have k2 := g0.cap
  have k3 := g1.cap
  unfold maxLen at k0 k1
  have HAw := Lib.hid (fun w2 (hk : Below w.heap.size w w2) => corAwake_is w2 (ht.next hk))
  have HB := Lib.hid (Below.refl w.heap.size w)
  by_cases c0 : 20000 < len0
  · have c0' : (20000 : Int) < len0 := by omega
    clear g0 g1 h0 h1 h2 h3 h4 b2 b3 b4 ht c0
    go_enter Tryz.func6, Tryz.ntmps6
    go_wp2_with (go_at_call 8; ((with_reducible refine (HAw.out _ HB.out).mono ?_); rintro e w2 ⟨rfl, hq⟩); have HQ := Lib.hid hq; clear hq)
    go_ret
    exact ⟨rfl, HQ.out⟩
  have c0' : (len0 : Int) ≤ 20000 := by omega
  have e0 : decide ((20000 : Int) < len0) = false := by simpa using c0'
  by_cases c1 : 3000 < len1
  · have c1' : (3000 : Int) < len1 := by omega
    clear g0 g1 h0 h1 h2 h3 h4 b2 b3 b4 ht c0 c1
    go_enter Tryz.func6, Tryz.ntmps6
    go_wp2_with (go_at_call 8; ((with_reducible refine (HAw.out _ HB.out).mono ?_); rintro e w2 ⟨rfl, hq⟩); have HQ := Lib.hid hq; clear hq)
    go_ret
    exact ⟨rfl, HQ.out⟩
  have c1' : (len1 : Int) ≤ 3000 := by omega
  by_cases c2 : 16384 < len0
  · have c2' : (16384 : Int) < len0 := by omega
    have HN := Lib.hid (corNew_code a0 len0 cap0 a1 len1 cap1 w c2)
    clear g0 g1 h0 h1 h2 h3 h4 b2 b3 b4 ht c0 c1 c2
    go_enter Tryz.func6, Tryz.ntmps6
    go_wp2_with (first
      | (go_at_call 9; ((with_reducible refine (HN.out).mono ?_); rintro e w1 ⟨rfl, hq⟩); have HK := Lib.hid hq; clear hq)
      | (go_at_call 8; ((with_reducible refine (HAw.out _ HK.out).mono ?_); rintro e w2 ⟨rfl, hq⟩); have HQ := Lib.hid (bel_next HK.out hq); clear hq))
    go_ret
    exact ⟨rfl, HQ.out⟩
  by_cases c3 : 2048 < len1
  · have c3' : (2048 : Int) < len1 := by omega
    have c2' : (len0 : Int) ≤ 16384 := by omega
    have HN := Lib.hid (corNew_long a0 len0 cap0 a1 len1 cap1 w (by omega) c3)
    clear g0 g1 h0 h1 h2 h3 h4 b2 b3 b4 ht c0 c1 c2 c3
    go_enter Tryz.func6, Tryz.ntmps6
    go_wp2_with (first
      | (go_at_call 9; ((with_reducible refine (HN.out).mono ?_); rintro e w1 ⟨rfl, hq⟩); have HK := Lib.hid hq; clear hq)
      | (go_at_call 8; ((with_reducible refine (HAw.out _ HK.out).mono ?_); rintro e w2 ⟨rfl, hq⟩); have HQ := Lib.hid (bel_next HK.out hq); clear hq))
    go_ret
    exact ⟨rfl, HQ.out⟩
  exact within _ _ _ _ _ _ _ _ a2 a3 a4 w g0 g1 h0.words h1.datas (by omega) (by omega) b2 b3 b4 ht
end coreHalts
end Go.Proofs.YtcoicgkpikoibaaGreatDoor
