/- The walk of the law GraphRuns: it returns true and writes nothing that was there. -/
import Derived.Test.YtggiaopdgijgnaaGreatDoorGrfA
namespace Go.Proofs.YtggiaopdgijgnaaGreatDoor
open Go.RowKit Go.IntWalk

namespace graphRuns
set_option maxRecDepth 100000 in
set_option maxHeartbeats 2000000 in
theorem walk (a0 : Option Addr) (len0 cap0 : Nat) (z0 : List Int) (a1 : Option Addr) (len1 cap1 : Nat) (z1 : List Int) (a2 : Int) (w : World) (h0 : IsRow .u32 w a0 len0 cap0 z0) (h1 : IsRow .i32 w a1 len1 cap1 z1) (h2 : (Lit.int .u8 a2).wf = true) (ht : TabsAt w.heap.size w) :
    Calls Tryz.prog 3 #[.slice a0 len0 cap0, .slice a1 len1 cap1, .int .u8 a2] w fun e w' => e = .returned (.bool true) ∧ Below w.heap.size w w' := by
  have g0 := Ws.of_row h0
  have g1 := Ws.of_row h1
  have gb := row_words h0
  have gd := row_datas h1
  have b2 := bounds_u8 h2
  clear h0 h1 h2
  generalize z0.take len0 = l at g0 gb
  generalize z1.take len1 = data at g1 gd
  obtain rfl := g0.len
  obtain ⟨m, rfl⟩ : ∃ m : Nat, a2 = m := ⟨a2.toNat, by omega⟩
  have hm : m ≤ 255 := by omega
  have hcap := g0.cap
  have hbig := g0.big
  have hcap1 := g1.cap
  have hbig1 := g1.big
  unfold maxLen at hbig hbig1
  have HS := Lib.hid (fun w2 (k : Below w.heap.size w w2) => ht.shapes.below k ht.shapes.lt)
  have HAw := Lib.hid (fun w2 (k : Below w.heap.size w w2) => graAwake_is w2 (HS.out w2 k))
  have HB0 := Lib.hid (Below.refl w.heap.size w)
  have HW := Lib.hid (fun w2 (k : Below w.heap.size w w2) => g0.keep k)
  have HBD := Lib.hid gb
  have HRn := Lib.hid (fun w2 (k : Below w.heap.size w w2) (hn : l.length ≤ 60) (hn2 : len1 ≤ 2048) => lawRun_is m hm (g0.keep k) (g1.keep k) hn hn2 (tabs_next ht k) gb gd)
  clear g0 g1 gb gd ht b2
  by_cases c0 : 60 < l.length
  · have c0' : (60 : Int) < l.length := by omega
    go_enter Tryz.func3, Tryz.ntmps3
    go_wp2_with (go_at_call 6; ((with_reducible refine (HAw.out _ HB0.out).mono ?_); rintro e w2 ⟨rfl, hq⟩); have HQ := Lib.hid hq; clear hq)
    go_ret
    exact ⟨rfl, HQ.out⟩
  have c0' : (l.length : Int) ≤ 60 := by omega
  have e0 : decide ((60 : Int) < l.length) = false := by simpa using c0'
  have e0' : decide (60 < l.length) = false := by simpa using c0
  by_cases c1 : 2048 < len1
  · have c1' : (2048 : Int) < len1 := by omega
    clear c0
    go_enter Tryz.func3, Tryz.ntmps3
    go_wp2_with (go_at_call 6; ((with_reducible refine (HAw.out _ HB0.out).mono ?_); rintro e w2 ⟨rfl, hq⟩); have HQ := Lib.hid hq; clear hq)
    go_ret
    exact ⟨rfl, HQ.out⟩
  have c1' : (len1 : Int) ≤ 2048 := by omega
  have e1 : decide ((2048 : Int) < len1) = false := by simpa using c1'
  have e1' : decide (2048 < len1) = false := by simpa using c1
  have HN := Lib.hid (show l.length ≤ 60 by omega)
  have HN1 := Lib.hid (show len1 ≤ 2048 by omega)
  have HJm := Lib.hid (refJumps_is (HW.out w HB0.out) HN.out HBD.out)
  clear c0 c1
  cases hj : jmpB l
  case true =>
    rw [hj] at HJm
    clear hj
    go_enter Tryz.func3, Tryz.ntmps3
    go_wp2_with (first
      | (go_at_call 5; ((with_reducible refine HJm.out.mono ?_); rintro e w1 ⟨rfl, hq⟩); have HB1 := Lib.hid hq; clear hq)
      | (go_at_call 6; ((with_reducible refine (HAw.out _ HB1.out).mono ?_); rintro e w2 ⟨rfl, hq⟩); have HQ := Lib.hid (below_on HB1.out hq); clear hq))
    go_ret
    exact ⟨rfl, HQ.out⟩
  rw [hj] at HJm
  have hR := (RunW.begin l data).run (jmpB_no.1 hj) m
  have hfew := run_few l m (beginS data)
  have hal := hR.along
  have hnat := hR.nat
  obtain ⟨ML, hML⟩ : ∃ ML, (runT l m (beginS data)).mks = ML := ⟨_, rfl⟩
  rw [hML] at HRn hal hnat hfew
  obtain ⟨N, hN⟩ : ∃ N, ML.length = N := ⟨_, rfl⟩
  rw [hN] at hal hnat hfew
  obtain ⟨f, hf⟩ : ∃ f : Nat → Nat, (fun i => (mkAt ML i).1.toNat) = f := ⟨_, rfl⟩
  rw [hf] at hal
  have HMk := Lib.hid (show ∀ i, i < N → (mkAt ML i).1 = (f i : Int) from fun i hi => by rw [← hf]; have := hnat i hi; show _ = (((mkAt ML i).1.toNat : Nat) : Int); omega)
  have HAl := Lib.hid hal
  have HNN := Lib.hid hN
  have hN2 : N ≤ 255 := by have : (beginS data).mks.length = 0 := rfl; omega
  have hN3 : (N : Int) ≤ 255 := by omega
  obtain ⟨i0, hi, hz0, hz1, hz2⟩ := info_parts infoBool
  have hmk := run_falses (P := Tryz.prog) 28 4 i0 Tryz.underlying28 hi hz0 hz1 l.length (by rw [hz2]; have := HN.out; omega) (by unfold maxLen; have := HN.out; omega)
  clear hj hR hfew hal hnat hML hN hf
  go_enter Tryz.func3, Tryz.ntmps3
  go_upto_region 6 with (first
    | (go_at_call 5; ((with_reducible refine HJm.out.mono ?_); rintro e w1 ⟨rfl, hq⟩); have HB1 := Lib.hid hq; clear hq)
    | (go_at_call 7; ((with_reducible refine (HRn.out _ HB1.out HN.out HN1.out).mono ?_); rintro e w2 ⟨v2, rfl, ho2, hb2⟩); obtain ⟨am, cm, rfl, hm2⟩ := ho2.at; rw [HNN.out] at hm2 ⊢; have HM2 := Lib.hid hm2; have HB2 := Lib.hid (below_on HB1.out hb2); clear ho2 hb2 hm2)
    | (go_at_call 8; ((with_reducible refine (graReached_is (HW.out _ HB2.out) HN.out (HS.out _ HB2.out) HBD.out).mono ?_); rintro e w3 ⟨rb, rfl, hr3, -, hb3⟩); have HR3 := Lib.hid hr3; have HM3 := Lib.hid (HM2.out.keep hb3); have HB3 := Lib.hid (below_on HB2.out hb3); clear hr3 hb3))
  obtain ⟨W4, hW4⟩ : ∃ W4, w3.alloc (.cells (fnArr l.length fun _ => .bool false) 4) = W4 := ⟨_, rfl⟩
  have HA0 := Lib.hid (show Brs 4 w3.heap.size l.length (snB f 0) W4 from hW4 ▸ BlkAt.new w3 _ _)
  have HK0 := Lib.hid (show Below w3.heap.size w3 W4 from hW4 ▸ (Below.refl _ _).alloc (Nat.le_refl _) _)
  have HZ0 := Lib.hid (show w3.heap.size < W4.heap.size by rw [← hW4]; simp)
  rw [hW4]
  clear hW4 hmk
  have hcm := HM3.out.cap
  have hbm := HM3.out.big
  unfold maxLen at hbm
  have hne : ((l.length : Int) != l.length) = false := by simp
  have hne' : (l.length != l.length) = false := by simp
  go_wp2
  go_loopw [10] (fun s wr => ∃ i : Nat, i ≤ N ∧ s = .int .i64 i ∧ Brs 4 w3.heap.size l.length (snB f i) wr ∧ Below w3.heap.size w3 wr ∧ w3.heap.size < wr.heap.size) (fun s _ => N - (intOf s).toNat)
  case atStart => exact ⟨0, by omega, rfl, HA0.out, HK0.out, HZ0.out⟩
  case round =>
    obtain ⟨i, hiN, rfl, hA, hk, hz⟩ := hrel
    have HA := Lib.hid hA
    have HK := Lib.hid hk
    have HZ := Lib.hid hz
    by_cases hlt : i < N
    case pos =>
      obtain ⟨g, off, rfl, hc⟩ := mk_lie (HM3.out.keep hk) (by omega)
      have c0 := hc i hlt
      rw [HMk.out i hlt] at c0
      have hfi := HAl.out.lt hlt
      have cr := BlkAt.cell (brs_keep HR3.out hk) (f i)
      rw [fnArr_get _ hfi, show cameB (nxN l) (fun _ => true) (beginN l.length) (f i) = true from HAl.out.reached i hlt] at cr
      have fb := hA.free (f i)
      have cb := hA.cell (f i)
      rw [fnArr_get _ hfi] at cb
      have hfi' : (f i : Int) < l.length := by omega
      have d0 : decide ((f i : Int) < 0) = false := by simp
      have d1 : decide ((l.length : Int) ≤ (f i : Int)) = false := by simp; omega
      have d2 : decide (l.length ≤ f i) = false := by simp; omega
      have HBW := Lib.hid (below_on HB3.out hk)
      have HIN := Lib.hid hlt
      have hlt' : (i : Int) < N := by omega
      -- what the round's store makes of it, at whatever world the list of ways has left
      have HEnd := Lib.hid (show ∀ w5, Below wr.heap.size wr w5 → Brs 4 w3.heap.size l.length (snB f (i + 1)) (w5.setCell ⟨w3.heap.size, f i, none⟩ (.bool true)) ∧ Below w3.heap.size w3 (w5.setCell ⟨w3.heap.size, f i, none⟩ (.bool true)) ∧ w3.heap.size < (w5.setCell ⟨w3.heap.size, f i, none⟩ (.bool true)).heap.size from fun w5 k5 => by
        have q1 := brs_set (brs_keep HA.out k5) (f i)
        rw [← snB_succ] at q1
        have q2 := below_on HK.out k5
        exact ⟨q1, (Keeps.set1 w5 w3.heap.size (f i) (.bool true)).below q2 q2.size fun j e => by omega, Nat.lt_of_lt_of_le (Nat.lt_of_lt_of_le HZ.out k5.size) (Keeps.set1 w5 w3.heap.size (f i) (.bool true)).size⟩)
      clear hA hk hz
      by_cases hi0 : i = 0
      · have z1 : decide ((0 : Int) < (i : Int)) = false := by simp; omega
        have z2 : decide (0 < i) = false := by simp; omega
        clear hc hlt hi0
        go_wp2
        go_roundw
        case rel => exact ⟨i + 1, by have := HIN.out; omega, by go_num, HEnd.out _ (Below.refl _ _)⟩
        case measure => have := HIN.out; simp [intOf]; omega
      · obtain ⟨i, rfl⟩ : ∃ j, i = j + 1 := ⟨i - 1, by omega⟩
        have cprev := hc i (by omega)
        rw [HMk.out i (by omega)] at cprev
        have hsub : IntKind.i64.wrap (((i + 1 : Nat) : Int) - 1) = (i : Int) := by rw [IntWalk.i64_in _ (by omega)]; omega
        have HNx := HAl.out.next i hlt
        have hfp := HAl.out.lt (i := i) (by omega)
        obtain ⟨M, hM⟩ : ∃ M, nxN l (f i) = M := ⟨_, rfl⟩
        obtain ⟨mm, hmm⟩ : ∃ mm, M.length = mm := ⟨_, rfl⟩
        have hX := graNext_is (f i : Int) (HW.out wr HBW.out) HN.out (HS.out wr HBW.out) HBD.out
        rw [nextL_nat hfp, ← nxN_back hfp, hM] at hX
        rw [hM] at HNx
        have HX := Lib.hid hX
        have HMl := Lib.hid (show (M.map Int.ofNat).length = mm by rw [List.length_map, hmm])
        have HMM := Lib.hid hmm
        have HNX := Lib.hid HNx
        have hmb : mm ≤ 2 := by rw [← hmm, ← hM]; unfold nxN; split <;> simp [nxl_len]
        have hmb' : (mm : Int) ≤ 2 := by omega
        clear hc hlt hX hM hmm HNx
        go_upto_region 14 with (go_at_call 9; ((with_reducible refine HX.out.mono ?_); rintro e w5 ⟨v5, rfl, ho5, hb5⟩); obtain ⟨a5, c5, rfl, hw5⟩ := ho5.ws; rw [HMl.out] at hw5 ⊢; have HW5 := Lib.hid hw5; have HB5 := Lib.hid hb5; clear ho5 hb5 hw5)
        go_wp2
        go_loopw [14, 13] (fun s14 s13 w6 => ∃ k : Nat, k ≤ mm ∧ s14 = .int .i64 k ∧ s13 = .bool (decide ((f (i + 1) : Int) ∈ (M.map Int.ofNat).take k)) ∧ w6 = w5) (fun s14 _ _ => mm - (intOf s14).toNat)
        case atStart => exact ⟨0, by omega, rfl, by simp, rfl⟩
        case round =>
          obtain ⟨k, hkm, rfl, rfl, rfl⟩ := hrel
          by_cases hlt : k < mm
          case neg =>
            obtain rfl : k = mm := by omega
            have e1 : decide ((f (i + 1) : Int) ∈ (M.map Int.ofNat).take k) = true := decide_eq_true (by
              rw [List.take_of_length_le (by rw [HMl.out]; exact Nat.le_refl _)]
              exact List.mem_map.2 ⟨_, HNX.out, rfl⟩)
            rw [e1]
            have hA5 := brs_keep HA.out HB5.out
            have fb5 := hA5.free (f (i + 1))
            have cb5 := hA5.cell (f (i + 1))
            rw [fnArr_get _ hfi] at cb5
            clear hlt e1 hA5 fb cb c0 cprev cr
            go_wp2
            go_roundw
            case rel => exact ⟨i + 1 + 1, by have := HIN.out; omega, by go_num, HEnd.out _ HB5.out⟩
            case measure => have := HIN.out; simp [intOf]; omega
          case pos =>
            obtain ⟨g5, off5, rfl, hc5⟩ := HW5.out.lie (by omega)
            have c5' := hc5 k hlt
            have hkl : k < (M.map Int.ofNat).length := by rw [HMl.out]; exact hlt
            obtain ⟨x, hx⟩ : ∃ x, byAt (M.map Int.ofNat) k = x := ⟨_, rfl⟩
            rw [hx] at c5'
            have HTQ := Lib.hid (show decide ((f (i + 1) : Int) ∈ (M.map Int.ofNat).take (k + 1)) = (decide ((f (i + 1) : Int) ∈ (M.map Int.ofNat).take k) || decide (x = (f (i + 1) : Int))) by
              rw [List.take_succ_eq_append_getElem hkl, byAt_eq hkl, hx, Bool.eq_iff_iff, Bool.or_eq_true, decide_eq_true_iff, decide_eq_true_iff, decide_eq_true_iff, List.mem_append, List.mem_singleton]
              exact or_congr Iff.rfl eq_comm)
            have hlt3 : (k : Int) < mm := by omega
            have HKM := Lib.hid hlt
            obtain ⟨hd, hhd⟩ : ∃ hd, decide ((f (i + 1) : Int) ∈ (M.map Int.ofNat).take k) = hd := ⟨_, rfl⟩
            rw [hhd]
            have HD := Lib.hid hhd
            clear hlt hc5 hkl hx hhd fb cb c0 cprev cr
            cases hd
            · by_cases e : x = (f (i + 1) : Int)
              · have fx : (x == (f (i + 1) : Int)) = true := by simpa using e
                have E := Lib.hid e
                clear e
                go_wp2
                go_roundw
                case rel => exact ⟨k + 1, by have := HKM.out; omega, by go_num, by rw [HTQ.out, HD.out, E.out]; simp, by first | rfl | trivial⟩
                case measure => have := HKM.out; simp [intOf]; omega
              · have fx : (x == (f (i + 1) : Int)) = false := by simpa using e
                have E := Lib.hid e
                clear e
                go_wp2
                go_roundw
                case rel => exact ⟨k + 1, by have := HKM.out; omega, by go_num, by rw [HTQ.out, HD.out]; simp [E.out], by first | rfl | trivial⟩
                case measure => have := HKM.out; simp [intOf]; omega
            · go_wp2
              go_roundw
              case rel => exact ⟨k + 1, by have := HKM.out; omega, by go_num, by rw [HTQ.out, HD.out]; simp, by first | rfl | trivial⟩
              case measure => have := HKM.out; simp [intOf]; omega
    case neg =>
      obtain rfl : i = N := by omega
      have HBW := Lib.hid (below_on HB3.out hk)
      by_cases hi0 : i = 0
      · have z1 : ((i : Int) == 0) = true := by simpa using hi0
        have z2 : (i == 0) = true := by simpa using hi0
        clear hA hk hz hlt hi0
        go_wp2_with (go_at_call 6; ((with_reducible refine (HAw.out _ HBW.out).mono ?_); rintro e w5 ⟨rfl, hq⟩); have HQ := Lib.hid (below_on HBW.out hq); clear hq)
        go_ret
        exact ⟨rfl, HQ.out⟩
      · obtain ⟨j, hj⟩ : ∃ j, i = j + 1 := ⟨i - 1, by omega⟩
        have HJ := Lib.hid hj
        obtain ⟨g, off, rfl, hc⟩ := mk_lie (HM3.out.keep hk) (by omega)
        have cl := hc j (by omega)
        rw [HMk.out j (by omega)] at cl
        have z1 : ((i : Int) == 0) = false := by simpa using hi0
        have z2 : (i == 0) = false := by simpa using hi0
        have hjl : (i : Int) - 1 = (j : Int) := by omega
        have hsub : IntKind.i64.wrap ((i : Int) - 1) = (j : Int) := by rw [IntWalk.i64_in _ (by omega)]; omega
        have hji : (j : Int) < i := by omega
        have hji' : j < i := by omega
        clear hA hk hz hlt hc hj hi0
        go_wp2
        go_loopw [16] (fun s w6 => ∃ p : Nat, p ≤ l.length ∧ s = .int .i64 p ∧ Below wr.heap.size wr w6) (fun s _ => l.length - (intOf s).toNat)
        case atStart => exact ⟨0, by omega, rfl, Below.refl _ _⟩
        case round =>
          obtain ⟨p, hp, rfl, hk6⟩ := hrel
          have HK6 := Lib.hid hk6
          have HBW6 := Lib.hid (below_on HBW.out hk6)
          by_cases hlt : p < l.length
          case neg =>
            obtain rfl : p = l.length := by omega
            clear hk6 hlt
            go_wp2_with (go_at_call 6; ((with_reducible refine (HAw.out _ HBW6.out).mono ?_); rintro e w7 ⟨rfl, hq⟩); have HQ := Lib.hid (below_on HBW6.out hq); clear hq)
            go_ret
            exact ⟨rfl, HQ.out⟩
          case pos =>
            have hlt' : (p : Int) < l.length := by omega
            have hA1 := graAhead_is (p : Int) (f j : Int) (HW.out _ HBW6.out) HN.out (HS.out _ HBW6.out) HBD.out
            obtain ⟨v, hv⟩ : ∃ v, aheadB l (p : Int) (f j : Int) = v := ⟨_, rfl⟩
            rw [hv] at hA1
            have HAH := Lib.hid hA1
            have HV := Lib.hid hv
            have HPL := Lib.hid hlt
            clear hk6 hlt hA1 hv
            cases v
            · go_wp2_with (go_at_call 10; ((with_reducible refine HAH.out.mono ?_); rintro e w7 ⟨rfl, hq⟩); have HQ := Lib.hid (below_on HK6.out hq); clear hq)
              go_roundw
              case rel => exact ⟨p + 1, by have := HPL.out; omega, by go_num, HQ.out⟩
              case measure => simp [intOf]; omega
            · obtain ⟨j', hj, hjp⟩ := HAl.out.seen (i := j) (by have := HJ.out; omega) HV.out
              have HSN := Lib.hid (snB_of (i := i) hj hjp)
              clear hj hjp
              go_wp2_with (go_at_call 10; ((with_reducible refine HAH.out.mono ?_); rintro e w7 ⟨rfl, hq⟩); have HQ := Lib.hid (below_on HK6.out hq); have cs := BlkAt.cell (brs_keep HA.out (below_on HK6.out hq)) p; rw [fnArr_get _ HPL.out, HSN.out] at cs; clear hq)
              go_roundw
              case rel => exact ⟨p + 1, by have := HPL.out; omega, by go_num, HQ.out⟩
              case measure => simp [intOf]; omega
end graphRuns
end Go.Proofs.YtggiaopdgijgnaaGreatDoor
