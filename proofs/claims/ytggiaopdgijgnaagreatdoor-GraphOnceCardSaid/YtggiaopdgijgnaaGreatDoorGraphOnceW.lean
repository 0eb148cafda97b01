/- The walk of the law GraphOnce: it returns true and writes nothing that was there. -/
import Derived.Test.YtggiaopdgijgnaaGreatDoorGrfA
namespace Go.Proofs.YtggiaopdgijgnaaGreatDoor
open Go.RowKit Go.IntWalk

namespace graphOnce
set_option maxRecDepth 100000 in
set_option maxHeartbeats 2000000 in
theorem walk (a0 : Option Addr) (len0 cap0 : Nat) (z0 : List Int) (a1 : Option Addr) (len1 cap1 : Nat) (z1 : List Int) (w : World) (h0 : IsRow .u32 w a0 len0 cap0 z0) (h1 : IsRow .i32 w a1 len1 cap1 z1) (ht : TabsAt w.heap.size w) :
    Calls Tryz.prog 4 #[.slice a0 len0 cap0, .slice a1 len1 cap1] w fun e w' => e = .returned (.bool true) ∧ Below w.heap.size w w' := by
  have g0 := Ws.of_row h0
  have g1 := Ws.of_row h1
  have gb := row_words h0
  have gd := row_datas h1
  clear h0 h1
  generalize z0.take len0 = l at g0 gb
  generalize z1.take len1 = data at g1 gd
  obtain rfl := g0.len
  have hcap := g0.cap
  have hbig := g0.big
  have hcap1 := g1.cap
  have hbig1 := g1.big
  unfold maxLen at hbig hbig1
  have HS := Lib.hid (fun w2 (k : Below w.heap.size w w2) => ht.shapes.below k ht.shapes.lt)
  have HAw := Lib.hid (fun w2 (k : Below w.heap.size w w2) => graAwake_is w2 (HS.out w2 k))
  have HB0 := Lib.hid (Below.refl w.heap.size w)
  have HW := Lib.hid (fun w2 (k : Below w.heap.size w w2) => g0.keep k)
  have HBD := Lib.hid gb
  have HRn := Lib.hid (fun w2 (k : Below w.heap.size w w2) (hn : l.length ≤ 60) (hn2 : len1 ≤ 2048) => show Calls Tryz.prog 7 #[.slice a0 l.length cap0, .slice a1 len1 cap1, .int .u8 200] w2 (fun e w' => ∃ v, e = .returned v ∧ OwnMk w' w2.heap.size 31 v (runT l 200 (beginS data)).mks ∧ Below w2.heap.size w2 w') from lawRun_is 200 (by decide) (g0.keep k) (g1.keep k) hn hn2 (tabs_next ht k) gb gd)
  have HGd := Lib.hid (show l.length ≤ 1048576 → Good l.length data.length (runT l 200 (beginS data)) from fun q => Good.run q 200 (good_begin gd))
  clear g0 g1 gb gd ht
  by_cases c0 : 60 < l.length
  · have c0' : (60 : Int) < l.length := by omega
    go_enter Tryz.func4, Tryz.ntmps4
    go_wp2_with (go_at_call 6; ((with_reducible refine (HAw.out _ HB0.out).mono ?_); rintro e w2 ⟨rfl, hq⟩); have HQ := Lib.hid hq; clear hq)
    go_ret
    exact ⟨rfl, HQ.out⟩
  have c0' : (l.length : Int) ≤ 60 := by omega
  have e0 : decide ((60 : Int) < l.length) = false := by simpa using c0'
  have e0' : decide (60 < l.length) = false := by simpa using c0
  by_cases c1 : 2048 < len1
  · have c1' : (2048 : Int) < len1 := by omega
    clear c0
    go_enter Tryz.func4, Tryz.ntmps4
    go_wp2_with (go_at_call 6; ((with_reducible refine (HAw.out _ HB0.out).mono ?_); rintro e w2 ⟨rfl, hq⟩); have HQ := Lib.hid hq; clear hq)
    go_ret
    exact ⟨rfl, HQ.out⟩
  have c1' : (len1 : Int) ≤ 2048 := by omega
  have e1 : decide ((2048 : Int) < len1) = false := by simpa using c1'
  have e1' : decide (2048 < len1) = false := by simpa using c1
  have HN := Lib.hid (show l.length ≤ 60 by omega)
  have HN1 := Lib.hid (show len1 ≤ 2048 by omega)
  have HJm := Lib.hid (refJumps_is (HW.out w HB0.out) HN.out HBD.out)
  clear c0 c1
  cases hj : jmpB l
  case true =>
    rw [hj] at HJm
    clear hj
    go_enter Tryz.func4, Tryz.ntmps4
    go_wp2_with (first
      | (go_at_call 5; ((with_reducible refine HJm.out.mono ?_); rintro e w1 ⟨rfl, hq⟩); have HB1 := Lib.hid hq; clear hq)
      | (go_at_call 6; ((with_reducible refine (HAw.out _ HB1.out).mono ?_); rintro e w2 ⟨rfl, hq⟩); have HQ := Lib.hid (below_on HB1.out hq); clear hq))
    go_ret
    exact ⟨rfl, HQ.out⟩
  rw [hj] at HJm
  have HCm := Lib.hid (fun w2 (k : Below w.heap.size w w2) => graCyclic_c (HW.out w2 k) HN.out (HS.out w2 k) HBD.out)
  cases hcy : cycB l
  case true =>
    rw [hcy] at HCm
    clear hj hcy
    go_enter Tryz.func4, Tryz.ntmps4
    go_wp2_with (first
      | (go_at_call 5; ((with_reducible refine HJm.out.mono ?_); rintro e w1 ⟨rfl, hq⟩); have HB1 := Lib.hid hq; clear hq)
      | (go_at_call 11; ((with_reducible refine (HCm.out _ HB1.out).mono ?_); rintro e w2 ⟨rfl, hq⟩); have HB2 := Lib.hid (below_on HB1.out hq); clear hq)
      | (go_at_call 6; ((with_reducible refine (HAw.out _ HB2.out).mono ?_); rintro e w3 ⟨rfl, hq⟩); have HQ := Lib.hid (below_on HB2.out hq); clear hq))
    go_ret
    exact ⟨rfl, HQ.out⟩
  rw [hcy] at HCm
  have hR := (RunW.begin l data).run (jmpB_no.1 hj) 200
  have hfew := run_few l 200 (beginS data)
  have hal := hR.along
  have hnat := hR.nat
  have hgm := (HGd.out (by have := HN.out; omega)).mks
  obtain ⟨ML, hML⟩ : ∃ ML, (runT l 200 (beginS data)).mks = ML := ⟨_, rfl⟩
  rw [hML] at HRn hal hnat hfew hgm
  have HCo := Lib.hid (show ∀ k, k < ML.length → 1 ≤ (mkAt ML k).2.2 ∧ (mkAt ML k).2.2 ≤ 34 from fun k hk => (hgm k hk).2.2.2.2)
  obtain ⟨N, hN⟩ : ∃ N, ML.length = N := ⟨_, rfl⟩
  rw [hN] at hal hnat hfew
  have HNN := Lib.hid hN
  obtain ⟨f, hf⟩ : ∃ f : Nat → Nat, (fun i => (mkAt ML i).1.toNat) = f := ⟨_, rfl⟩
  rw [hf] at hal
  have HMk := Lib.hid (show ∀ i, i < N → (mkAt ML i).1 = (f i : Int) from fun i hi => by rw [← hf]; have := hnat i hi; show _ = (((mkAt ML i).1.toNat : Nat) : Int); omega)
  have HAl := Lib.hid hal
  have HOn := Lib.hid (show ∀ i, i < N → snB f i (f i) = false from fun i hi => snB_no fun j hj => hal.once hcy hj hi)
  have hNl : N ≤ l.length := hal.few hcy
  have hNl' : (N : Int) ≤ l.length := by omega
  have hcs : (N : Int) ≤ costS ML := by
    have := runCost_few (fun k hk => (HCo.out k hk).1) ML.length (Nat.le_refl _)
    rw [runCost_all, hN] at this
    exact this
  obtain ⟨cs, hce⟩ : ∃ cs, costS ML = cs := ⟨_, rfl⟩
  rw [hce] at hcs
  have HCE := Lib.hid hce
  have hN3 : (N : Int) ≤ 60 := by have := HN.out; omega
  obtain ⟨i0, hi, hz0, hz1, hz2⟩ := info_parts infoBool
  have hmk := run_falses (P := Tryz.prog) 28 4 i0 Tryz.underlying28 hi hz0 hz1 l.length (by rw [hz2]; have := HN.out; omega) (by unfold maxLen; have := HN.out; omega)
  clear hj hcy hR hfew hal hnat hgm hML hN hf hce
  go_enter Tryz.func4, Tryz.ntmps4
  go_upto_region 5 with (first
    | (go_at_call 5; ((with_reducible refine HJm.out.mono ?_); rintro e w1 ⟨rfl, hq⟩); have HB1 := Lib.hid hq; clear hq)
    | (go_at_call 11; ((with_reducible refine (HCm.out _ HB1.out).mono ?_); rintro e w2 ⟨rfl, hq⟩); have HB2 := Lib.hid (below_on HB1.out hq); clear hq)
    | (go_at_call 7; ((with_reducible refine (HRn.out _ HB2.out HN.out HN1.out).mono ?_); rintro e w3 ⟨v3, rfl, ho3, hb3⟩); obtain ⟨am, cm, rfl, hm3⟩ := ho3.at; rw [HNN.out] at hm3 ⊢; have HM3 := Lib.hid hm3; have HB3 := Lib.hid (below_on HB2.out hb3); clear ho3 hb3 hm3))
  obtain ⟨W4, hW4⟩ : ∃ W4, w3.alloc (.cells (fnArr l.length fun _ => .bool false) 4) = W4 := ⟨_, rfl⟩
  have HA0 := Lib.hid (show Brs 4 w3.heap.size l.length (snB f 0) W4 from hW4 ▸ BlkAt.new w3 _ _)
  have HK0 := Lib.hid (show Below w3.heap.size w3 W4 from hW4 ▸ (Below.refl _ _).alloc (Nat.le_refl _) _)
  have HZ0 := Lib.hid (show w3.heap.size < W4.heap.size by rw [← hW4]; simp)
  rw [hW4]
  clear hW4 hmk
  have hcm := HM3.out.cap
  have hbm := HM3.out.big
  unfold maxLen at hbm
  go_wp2
  go_loopw [7] (fun s wr => ∃ i : Nat, i ≤ N ∧ s = .int .i64 i ∧ Brs 4 w3.heap.size l.length (snB f i) wr ∧ Below w3.heap.size w3 wr ∧ w3.heap.size < wr.heap.size) (fun s _ => N - (intOf s).toNat)
  case atStart => exact ⟨0, by omega, rfl, HA0.out, HK0.out, HZ0.out⟩
  case round =>
    obtain ⟨i, hiN, rfl, hA, hk, hz⟩ := hrel
    have HA := Lib.hid hA
    have HK := Lib.hid hk
    have HZ := Lib.hid hz
    by_cases hlt : i < N
    case pos =>
      obtain ⟨g, off, rfl, hc⟩ := mk_lie (HM3.out.keep hk) (by omega)
      have c0 := hc i hlt
      rw [HMk.out i hlt] at c0
      have hfi := HAl.out.lt hlt
      have fb := hA.free (f i)
      have cb := hA.cell (f i)
      rw [fnArr_get _ hfi, HOn.out i hlt] at cb
      have hfi' : (f i : Int) < l.length := by omega
      have d0 : decide ((f i : Int) < 0) = false := by simp
      have d1 : decide ((l.length : Int) ≤ (f i : Int)) = false := by simp; omega
      have d2 : decide (l.length ≤ f i) = false := by simp; omega
      have HIN := Lib.hid hlt
      have hlt' : (i : Int) < N := by omega
      have q1 := brs_set hA (f i)
      rw [← snB_succ] at q1
      have HEnd := Lib.hid (And.intro q1 (And.intro ((Keeps.set1 wr w3.heap.size (f i) (.bool true)).below hk hk.size fun j e => by omega) (Nat.lt_of_lt_of_le hz (Keeps.set1 wr w3.heap.size (f i) (.bool true)).size)))
      clear hA hk hz hc hlt q1
      go_wp2
      go_roundw
      case rel => exact ⟨i + 1, by have := HIN.out; omega, by go_num, HEnd.out⟩
      case measure => have := HIN.out; simp [intOf]; omega
    case neg =>
      obtain rfl : i = N := by omega
      have HBW := Lib.hid (below_on HB3.out hk)
      have HCC := Lib.hid (runCost_is am _ cm ML wr (HM3.out.keep hk) (by omega) HCo.out)
      rw [HCE.out] at HCC
      clear hA hk hz hlt
      go_wp2_with (first
        | (go_at_call 12; ((with_reducible refine HCC.out.mono ?_); rintro e w5 ⟨rfl, rfl⟩))
        | (go_at_call 6; ((with_reducible refine (HAw.out _ HBW.out).mono ?_); rintro e w6 ⟨rfl, hq⟩); have HQ := Lib.hid (below_on HBW.out hq); clear hq))
      go_ret
      exact ⟨rfl, HQ.out⟩
end graphOnce
end Go.Proofs.YtggiaopdgijgnaaGreatDoor
