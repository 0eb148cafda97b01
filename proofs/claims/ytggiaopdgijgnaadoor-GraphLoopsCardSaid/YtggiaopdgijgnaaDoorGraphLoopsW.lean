/- The walk of the law GraphLoops: it returns true and writes nothing that was there. -/
import Derived.Test.YtggiaopdgijgnaaDoorGrdD
namespace Go.Proofs.YtggiaopdgijgnaaDoor
open Go.RowKit Go.IntWalk

namespace graphLoops
theorem row_words {w : World} {a : Option Addr} {n c : Nat} {zs : List Int} (h : IsRow .u32 w a n c zs) : ∀ i, i < (zs.take n).length → 0 ≤ byAt (zs.take n) i ∧ byAt (zs.take n) i < 4294967296 := by
  intro i hi
  have hm : byAt (zs.take n) i ∈ zs.take n := by rw [← byAt_eq hi]; exact List.getElem_mem hi
  have hw : ∀ y ∈ zs, (Lit.int .u32 y).wf = true := by
    rcases h with ⟨_, _, _, rfl⟩ | ⟨_, _, _, _, _, _, hw⟩
    · intro y hy; exact absurd hy (by simp)
    · exact hw
  have := bounds_u32 (hw _ (List.mem_of_mem_take hm))
  omega
theorem came_trans {N : Nat → List Nat} {mv : Nat → Bool} {l0 : List Nat} {p x : Nat} (hp : Gra.Came N mv l0 p) (h : Gra.Came N mv [p] x) : Gra.Came N mv l0 x := by
  induction h with
  | start h1 _ => rw [List.mem_singleton.1 h1]; exact hp
  | next _ h2 h3 ih => exact .next ih h2 h3
theorem came_part {N : Nat → List Nat} {l0 : List Nat} {q x : Nat} (h : Gra.Came N (fun _ => true) l0 x) : Gra.Came N (mvW q) l0 x ∨ Gra.Came N (fun _ => true) [q] x := by
  have hm : ∀ y, y ≠ q → mvW q y = true := fun y hy => decide_eq_true (by omega)
  induction h with
  | @start y h1 _ =>
    by_cases e : y = q
    · exact .inr (.start (by rw [e]; exact List.mem_singleton.2 rfl) rfl)
    · exact .inl (.start h1 (hm _ e))
  | @next p y _ h2 _ ih =>
    by_cases e : y = q
    · exact .inr (.start (by rw [e]; exact List.mem_singleton.2 rfl) rfl)
    · exact ih.elim (fun h => .inl (.next h h2 (hm _ e))) fun h => .inr (.next h h2 rfl)
theorem no_past {l : List Int} {q s : Nat} (h2 : rchB l s = true) (h3 : aheadB l q s = true) : ¬ Gra.Came (nxN l) (mvW q) (beginN l.length) s := fun h => by
  rw [ahead_far (came_lt (cameB_iff.1 h2)) h2, Bool.not_eq_true', cameB_iff.2 h] at h3
  exact absurd h3 (by simp)
theorem mem_plc {F : Nat → Bool} {n : Nat} {x : Int} : x ∈ plc F n ↔ ∃ p : Nat, x = p ∧ p < n ∧ F p = true := by
  unfold plc
  rw [List.mem_map]
  constructor
  · rintro ⟨p, hp, rfl⟩
    have := List.mem_filter.1 hp
    exact ⟨p, rfl, List.mem_range.1 this.1, this.2⟩
  · rintro ⟨p, rfl, h1, h2⟩
    exact ⟨p, List.mem_filter.2 ⟨List.mem_range.2 h1, h2⟩, rfl⟩
theorem loop_ahead {l : List Int} {q : Nat} {x : Int} (h : x ∈ loopL l q) : aheadB l q x = true := by
  rw [← loop_is] at h
  obtain ⟨p, rfl, hp, hB⟩ := mem_plc.1 h
  unfold isB at hB
  obtain ⟨b, hb, ht⟩ := List.any_eq_true.1 hB
  obtain ⟨s, q', rfl, h1, h2, h3⟩ := backs_mem.1 hb
  unfold tstB at ht
  simp only [Bool.and_eq_true, Bool.or_eq_true, decide_eq_true_iff] at ht
  obtain ⟨e1, hr, ht⟩ := ht
  obtain rfl : q' = q := by omega
  by_cases e : p = q'
  · subst e; exact ahead_same hp hr
  rcases ht with ht | ht | ht
  · exact absurd ht (by omega)
  · obtain rfl : s = p := by omega
    exact h3
  · have hc := cameB_iff.1 ht
    rw [Int.toNat_natCast] at hc
    rw [ahead_far hp hr, Bool.not_eq_true', Bool.eq_false_iff]
    exact fun h => no_past h2 h3 (came_trans (cameB_iff.1 h) hc)
theorem loop_ends {l : List Int} {s q : Nat} (h1 : q ∈ nxN l s) (h2 : rchB l s = true) (h3 : aheadB l q s = true) : (q : Int) ∈ loopL l q ∧ (s : Int) ∈ loopL l q := by
  have hb : ((s : Int), (q : Int)) ∈ backsL l := backs_mem.2 ⟨s, q, rfl, h1, h2, h3⟩
  have hq : rchB l q = true := cameB_iff.2 (.next (cameB_iff.1 h2) h1 rfl)
  rw [← loop_is]
  refine ⟨mem_plc.2 ⟨q, rfl, nxN_in h1, List.any_eq_true.2 ⟨_, hb, ?_⟩⟩, mem_plc.2 ⟨s, rfl, came_lt (cameB_iff.1 h2), List.any_eq_true.2 ⟨_, hb, ?_⟩⟩⟩
  · unfold tstB; simp [hq]
  · unfold tstB; simp [h2]
theorem back_cyc {l : List Int} {b : Int × Int} (h : b ∈ backsL l) : cycB l = true := by
  obtain ⟨s, q, rfl, h1, h2, h3⟩ := backs_mem.1 h
  refine cycB_iff.2 ⟨s, cameB_iff.1 h2, q, h1, ?_⟩
  exact (came_part (q := q) (cameB_iff.1 h2)).resolve_left (no_past h2 h3)

set_option maxRecDepth 100000 in
set_option maxHeartbeats 2000000 in
theorem walk (a0 : Option Addr) (len0 cap0 : Nat) (z0 : List Int) (w : World) (h0 : IsRow .u32 w a0 len0 cap0 z0) (hs : ShapesLaid w) :
    Calls Tryd.prog 4 #[.slice a0 len0 cap0] w fun e w' => e = .returned (.bool true) ∧ Below w.heap.size w w' := by
  have g0 := Ws.of_row h0
  have gb := row_words h0
  clear h0
  generalize z0.take len0 = l at g0 gb
  obtain rfl := g0.len
  have hcap := g0.cap
  have hbig := g0.big
  unfold maxLen at hbig
  have HS := Lib.hid (fun w2 (k : Below w.heap.size w w2) => hs.below k hs.lt)
  have HAw := Lib.hid (fun w2 (k : Below w.heap.size w w2) => graAwake_is w2 (HS.out w2 k))
  have HB0 := Lib.hid (Below.refl w.heap.size w)
  have HW := Lib.hid (fun w2 (k : Below w.heap.size w w2) => g0.keep k)
  have HBD := Lib.hid gb
  clear hs g0 gb
  by_cases c0 : 30 < l.length
  · have c0' : (30 : Int) < l.length := by omega
    go_enter Tryd.func4, Tryd.ntmps4
    go_wp2_with (go_at_call 5; ((with_reducible refine (HAw.out _ HB0.out).mono ?_); rintro e w2 ⟨rfl, hq⟩); have HQ := Lib.hid hq; clear hq)
    go_ret
    exact ⟨rfl, HQ.out⟩
  have c0' : (l.length : Int) ≤ 30 := by omega
  have e0 : decide ((30 : Int) < l.length) = false := by simpa using c0'
  have e0' : decide (30 < l.length) = false := by simpa using c0
  have HN := Lib.hid (show l.length ≤ 60 by omega)
  have HA1 := Lib.hid (fun w2 (k : Below w.heap.size w w2) (x y : Int) => graAhead_is x y (HW.out w2 k) HN.out (HS.out w2 k) HBD.out)
  have HC1 := Lib.hid (fun w2 (k : Below w.heap.size w w2) => graCyclic_c (HW.out w2 k) HN.out (HS.out w2 k) HBD.out)
  have HL1 := Lib.hid (fun w2 (k : Below w.heap.size w w2) (x : Int) => graLoop_is x (HW.out w2 k) HN.out (HS.out w2 k) HBD.out)
  have HK1 := Lib.hid (graBacks_is (HW.out w HB0.out) HN.out (HS.out w HB0.out) HBD.out)
  have HBm := Lib.hid (fun b (hb : b ∈ backsL l) => backs_mem.1 hb)
  have HCY := Lib.hid (fun b (hb : b ∈ backsL l) => back_cyc hb)
  have HPL := Lib.hid (fun h : Int => plc_len (isB l h) l.length)
  obtain ⟨BL, hBL⟩ : ∃ BL, backsL l = BL := ⟨_, rfl⟩
  obtain ⟨m, hm⟩ : ∃ m, BL.length = m := ⟨_, rfl⟩
  have HM := Lib.hid hm
  rw [hBL] at HK1 HBm HCY
  clear hBL hm c0
  go_enter Tryd.func4, Tryd.ntmps4
  go_wp2_with (go_at_call 15; ((with_reducible refine HK1.out.mono ?_); rintro e w1 ⟨v1, rfl, ho1, hq1⟩); obtain ⟨a1, c1, rfl, he1⟩ := ho1.at; rw [HM.out] at he1 ⊢; have HE1 := Lib.hid he1; have HQ1 := Lib.hid hq1; clear ho1 he1 hq1)
  have hcap1 := HE1.out.cap
  have hbig1 := HE1.out.big
  unfold maxLen at hbig1
  go_loopw [4] (fun s wr => ∃ i : Nat, i ≤ m ∧ s = .int .i64 i ∧ Below w1.heap.size w1 wr) (fun s _ => m - (intOf s).toNat)
  case atStart => exact ⟨0, by omega, rfl, Below.refl _ _⟩
  case round =>
    obtain ⟨i, him, rfl, hk⟩ := hrel
    have HK := Lib.hid hk
    have HKW := Lib.hid (below_on HQ1.out hk)
    by_cases hlt : i < m
    case neg =>
      obtain rfl : i = m := by omega
      clear hk hlt
      by_cases hz : i = 0
      · have e1 : ((i : Int) == 0) = true := by simpa using hz
        have e2 : (i == 0) = true := by simpa using hz
        clear hz
        go_wp2_with (go_at_call 5; ((with_reducible refine (HAw.out _ HKW.out).mono ?_); rintro e w2 ⟨rfl, hq⟩); have HQ := Lib.hid hq; clear hq)
        go_ret
        exact ⟨rfl, below_on HKW.out HQ.out⟩
      · have e1 : ((i : Int) == 0) = false := by simpa using hz
        have e2 : (i == 0) = false := by simpa using hz
        have hcy : cycB l = true := HCY.out (el BL 0) (by rw [← el_eq (by rw [HM.out]; omega)]; exact List.getElem_mem _)
        rw [hcy] at HC1
        clear hz hcy
        go_wp2_with (first
          | (go_at_call 19; ((with_reducible refine (HC1.out _ HKW.out).mono ?_); rintro e w2 ⟨rfl, hq⟩); have HQ2 := Lib.hid (below_on HKW.out hq); clear hq)
          | (go_at_call 5; ((with_reducible refine (HAw.out _ HQ2.out).mono ?_); rintro e w3 ⟨rfl, hq⟩); have HQ3 := Lib.hid (below_on HQ2.out hq); clear hq))
        go_ret
        exact ⟨rfl, HQ3.out⟩
    case pos =>
      obtain ⟨g, off, rfl, hc⟩ := FixAt.lie2 (HE1.out.keep hk) (by omega)
      obtain ⟨c0, c1'⟩ := hc i hlt
      have hiB : i < BL.length := by rw [HM.out]; exact hlt
      obtain ⟨s, q, hsq, hq1, hq2, hq3⟩ := HBm.out (el BL i) (by rw [← el_eq hiB]; exact List.getElem_mem _)
      rw [hsq] at c0 c1'
      have hlt2 : (i : Int) < m := by omega
      have HIM := Lib.hid hlt
      have HSQ := Lib.hid hsq
      have HLE := Lib.hid (loop_ends hq1 hq2 hq3)
      have HLA := Lib.hid (fun x (hx : x ∈ loopL l q) => loop_ahead hx)
      have HLc := Lib.hid (HL1.out wr HKW.out q)
      have hll : (loopL l q).length ≤ 60 := by rw [← loop_is]; exact Nat.le_trans (HPL.out _) HN.out
      obtain ⟨L, hL⟩ : ∃ L, loopL l q = L := ⟨_, rfl⟩
      rw [hL] at HLE HLA HLc hll
      obtain ⟨mm, hmm⟩ : ∃ mm, L.length = mm := ⟨_, rfl⟩
      have HMM := Lib.hid hmm
      rw [hmm] at hll
      have hll' : (mm : Int) ≤ 60 := by omega
      clear hk hlt hc hiB hsq hq1 hq2 hq3 hL hmm
      go_wp2_with (go_at_call 17; ((with_reducible refine HLc.out.mono ?_); rintro e w3 ⟨v3, rfl, ho3, hb3⟩); obtain ⟨a3, c3, rfl, hw3⟩ := ho3.ws; rw [HMM.out] at hw3 ⊢; have HW3 := Lib.hid hw3; have HB3 := Lib.hid hb3; clear ho3 hb3 hw3)
      have HK3 := Lib.hid (below_on HK.out HB3.out)
      clear c0 c1'
      go_loopw [8, 6, 7] (fun s8 s6 s7 w4 => ∃ k : Nat, k ≤ mm ∧ s8 = .int .i64 k ∧ s6 = .bool (decide ((q : Int) ∈ L.take k)) ∧ s7 = .bool (decide ((s : Int) ∈ L.take k)) ∧ Below w3.heap.size w3 w4) (fun s8 _ _ _ => mm - (intOf s8).toNat)
      case atStart => exact ⟨0, by omega, rfl, by simp, by simp, Below.refl _ _⟩
      case round =>
        obtain ⟨k, hkm, rfl, rfl, rfl, hk⟩ := hrel
        have HK4 := Lib.hid hk
        by_cases hlt : k < mm
        case neg =>
          obtain rfl : k = mm := by omega
          have hT : L.take k = L := List.take_of_length_le (by rw [HMM.out]; exact Nat.le_refl _)
          have e1 : decide ((q : Int) ∈ L.take k) = true := decide_eq_true (by rw [hT]; exact HLE.out.1)
          have e2 : decide ((s : Int) ∈ L.take k) = true := decide_eq_true (by rw [hT]; exact HLE.out.2)
          rw [e1, e2]
          clear hk hlt hT e1 e2
          go_wp2
          go_roundw
          case rel => exact ⟨i + 1, by have := HIM.out; omega, by go_num, below_on HK3.out HK4.out⟩
          case measure => have := HIM.out; simp [intOf]; omega
        case pos =>
          obtain ⟨g3, off3, rfl, hc3⟩ := (HW3.out.keep hk).lie (by omega)
          have c3' := hc3 k hlt
          have hkk := below_on HK3.out hk
          obtain ⟨g', off', eg, hcf⟩ := FixAt.lie2 (HE1.out.keep hkk) (by have := HIM.out; omega)
          simp only [Option.some.injEq, Addr.mk.injEq, and_true] at eg
          obtain ⟨rfl, rfl⟩ := eg
          obtain ⟨c0, c1'⟩ := hcf i HIM.out
          rw [HSQ.out] at c0 c1'
          have hkL : k < L.length := by rw [HMM.out]; exact hlt
          obtain ⟨x, hx⟩ : ∃ x, byAt L k = x := ⟨_, rfl⟩
          rw [hx] at c3'
          have hxm : x ∈ L := by rw [← hx, ← byAt_eq hkL]; exact List.getElem_mem _
          have HTQ := Lib.hid (fun y : Int => show decide (y ∈ L.take (k + 1)) = (decide (y ∈ L.take k) || decide (x = y)) by
            rw [List.take_succ_eq_append_getElem hkL, byAt_eq hkL, hx, Bool.eq_iff_iff, Bool.or_eq_true, decide_eq_true_iff, decide_eq_true_iff, decide_eq_true_iff, List.mem_append, List.mem_singleton]
            exact or_congr Iff.rfl eq_comm)
          have hA := HA1.out wr (below_on HQ1.out hkk) q x
          rw [HLA.out x hxm] at hA
          have HAH := Lib.hid (fun w2 (k : Below wr.heap.size wr w2) => HA1.out w2 (below_on (below_on HQ1.out hkk) k) q x)
          rw [HLA.out x hxm] at HAH
          have hlt3 : (k : Int) < mm := by omega
          have HKM := Lib.hid hlt
          clear hA hk hlt hc3 hkk hcf hkL hx hxm
          obtain ⟨hd, hhd⟩ : ∃ hd, decide ((q : Int) ∈ L.take k) = hd := ⟨_, rfl⟩
          obtain ⟨fr, hfr⟩ : ∃ fr, decide ((s : Int) ∈ L.take k) = fr := ⟨_, rfl⟩
          rw [hhd, hfr]
          have HD := Lib.hid hhd
          have HFR := Lib.hid hfr
          clear hhd hfr
          have k1 := c1'
          have k3 := c3'
          go_upto_region 12 with (fail)
          go_cut [6] from 34 to 46 (fun s6 wx => s6 = .bool (decide ((q : Int) ∈ L.take (k + 1))) ∧ Below wr.heap.size wr wx)
          case first =>
            cases hd
            · by_cases e : x = (q : Int)
              · have f : (x == (q : Int)) = true := by simpa using e
                have E := Lib.hid e
                clear e
                go_wp2
                go_quiet (fail)
                go_wp2
                go_meet
                exact ⟨by rw [HTQ.out, HD.out, E.out]; simp, below_drewN (Below.refl _ _) _⟩
              · have f : (x == (q : Int)) = false := by simpa using e
                have E := Lib.hid e
                clear e
                go_wp2
                go_quiet (fail)
                go_wp2
                go_meet
                exact ⟨by rw [HTQ.out, HD.out]; simp [E.out], below_drewN (Below.refl _ _) _⟩
            · go_wp2
              go_quiet (fail)
              go_wp2
              go_meet
              exact ⟨by rw [HTQ.out, HD.out]; simp, below_drewN (Below.refl _ _) _⟩
          case rest =>
            obtain ⟨rfl, hb1⟩ := hcut
            obtain ⟨W1, hW1⟩ : ∃ W1, W1 = wc := ⟨_, rfl⟩
            subst hW1
            have HC1 := Lib.hid hb1
            replace c0 := (hb1.cell (p := ⟨g, off + i * 2, none⟩) (cell_lt c0)).trans c0
            replace c1' := (hb1.cell (p := ⟨g, off + i * 2 + 1, none⟩) (cell_lt c1')).trans c1'
            replace c3' := (hb1.cell (p := ⟨g3, off3 + k, none⟩) (cell_lt c3')).trans c3'
            clear hb1
            go_upto_region 13 with (fail)
            go_cut [7] from 47 to 59 (fun s6 wx => s6 = .bool (decide ((s : Int) ∈ L.take (k + 1))) ∧ Below wr.heap.size wr wx)
            case first =>
              cases fr
              · by_cases e : x = (s : Int)
                · have f : (x == (s : Int)) = true := by simpa using e
                  have E := Lib.hid e
                  clear e
                  go_wp2
                  go_quiet (fail)
                  go_wp2
                  go_meet
                  exact ⟨by rw [HTQ.out, HFR.out, E.out]; simp, below_drewN (HC1.out) _⟩
                · have f : (x == (s : Int)) = false := by simpa using e
                  have E := Lib.hid e
                  clear e
                  go_wp2
                  go_quiet (fail)
                  go_wp2
                  go_meet
                  exact ⟨by rw [HTQ.out, HFR.out]; simp [E.out], below_drewN (HC1.out) _⟩
              · go_wp2
                go_quiet (fail)
                go_wp2
                go_meet
                exact ⟨by rw [HTQ.out, HFR.out]; simp, below_drewN (HC1.out) _⟩
            case rest =>
              obtain ⟨rfl, hb2⟩ := hcut
              obtain ⟨W2, hW2⟩ : ∃ W2, W2 = wc := ⟨_, rfl⟩
              subst hW2
              go_upto_region 14 with (fail)
              have hS1 : W2.drew.cell? ⟨g3, off3 + k, none⟩ = some (.int .i64 x) ∧ W2.drew.cell? ⟨g, off + i * 2 + 1, none⟩ = some (.int .i64 (q : Int)) ∧ Below wr.heap.size wr W2.drew := ⟨((hb2.drew).cell (p := ⟨g3, off3 + k, none⟩) (cell_lt k3)).trans k3, ((hb2.drew).cell (p := ⟨g, off + i * 2 + 1, none⟩) (cell_lt k1)).trans k1, hb2.drew⟩
              clear c0 c1' c3' k1 k3
              refine wp_region_seq [(0, 0, 61, 1), (1, 0, 62, 8), (2, 0, 63, 16), (3, 6, 64, 6917529027641081856), (4, 8, 65, 9223372036854775808), (5, 16, 66, 18446744073709551616), (6, 0, 67, 32), (7, 0, 68, 256), (8, 192, 69, 221360928884514619392), (9, 256, 70, 295147905179352825856), (10, 545, 71, 628342220010731601920), (11, 1024, 72, 1180591620717411303424)] [(true, 0, 1), (true, 1, 3), (true, 2, 7), (true, 3, 15), (true, 4, 31), (true, 5, 63), (true, 6, 127), (true, 7, 255), (true, 8, 511), (true, 9, 1023), (false, 10, 2047), (true, 11, 4095)] (fun w' => w'.cell? ⟨g3, off3 + k, none⟩ = some (.int .i64 x) ∧ w'.cell? ⟨g, off + i * 2 + 1, none⟩ = some (.int .i64 (q : Int)) ∧ Below wr.heap.size wr w') (by kernel_rfl) (by kernel_rfl) (by kernel_rfl) (by kernel_rfl) (by kernel_rfl) (hS1) ?_
              (refine SeqH.take (v := ?_) rfl rfl ?_ ?_; rotate_left; (intro w' hw'; (try dsimp only at hw'); go_simp; try with_reducible rfl); go_simp)
              (refine SeqH.take (v := ?_) rfl rfl ?_ ?_; rotate_left; (intro w' hw'; (try dsimp only at hw'); go_simp; try with_reducible rfl); go_simp)
              (refine SeqH.take (v := ?_) rfl rfl ?_ ?_; rotate_left; (intro w' hw'; (try dsimp only at hw'); go_simp; try with_reducible rfl); go_simp)
              (refine SeqH.take (v := ?_) rfl rfl ?_ ?_; rotate_left; (intro w' hw'; (try dsimp only at hw'); go_simp; try with_reducible rfl); go_simp)
              (refine SeqH.take (v := ?_) rfl rfl ?_ ?_; rotate_left; (intro w' hw'; (try dsimp only at hw'); go_simp; try with_reducible rfl); go_simp)
              (refine SeqH.take (v := ?_) rfl rfl ?_ ?_; rotate_left; (intro w' hw'; (try dsimp only at hw'); go_simp; try with_reducible rfl); go_simp)
              (refine SeqH.take (v := ?_) rfl rfl ?_ ?_; rotate_left; (intro w' hw'; (try dsimp only at hw'); go_simp; try with_reducible rfl); go_simp)
              (refine SeqH.take (v := ?_) rfl rfl ?_ ?_; rotate_left; (intro w' hw'; (try dsimp only at hw'); go_simp; try with_reducible rfl); go_simp)
              (refine SeqH.take (v := ?_) rfl rfl ?_ ?_; rotate_left; (intro w' hw'; (try dsimp only at hw'); go_simp; try with_reducible rfl); go_simp)
              (refine SeqH.take (v := ?_) rfl rfl ?_ ?_; rotate_left; (intro w' hw'; (try dsimp only at hw'); go_simp; try with_reducible rfl); go_simp)
              refine SeqH.step rfl rfl (fun KK hKK => ?_)
              go_simp
              refine (HAH.out _ hS1.2.2).mono ?_
              rintro e w5 ⟨rfl, hb5⟩
              have HB5 := Lib.hid (below_on hS1.2.2 hb5)
              (try dsimp only)
              refine hKK _ _ (⟨(hb5.cell (p := ⟨g3, off3 + k, none⟩) (cell_lt hS1.1)).trans hS1.1, (hb5.cell (p := ⟨g, off + i * 2 + 1, none⟩) (cell_lt hS1.2.1)).trans hS1.2.1, below_on hS1.2.2 hb5⟩) ?_
              clear hKK KK hb5
              (refine SeqH.take (v := ?_) rfl rfl ?_ ?_; rotate_left; (intro w' hw'; (try dsimp only at hw'); go_simp; try with_reducible rfl); go_simp)
              refine SeqH.done (NoPanic.normal ?_)
              clear hS1
              go_wp2
              go_roundw
              case rel => exact ⟨k + 1, by have := HKM.out; omega, by go_num, rfl, rfl, below_on HK4.out HB5.out⟩
              case measure => have := HKM.out; simp [intOf]; omega
end graphLoops
end Go.Proofs.YtggiaopdgijgnaaDoor
