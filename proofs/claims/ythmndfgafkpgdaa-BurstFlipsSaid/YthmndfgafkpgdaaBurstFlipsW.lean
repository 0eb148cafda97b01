/- The walk of the law BurstFlips: it returns true and writes nothing that was there. -/
import Derived.Test.YthmndfgafkpgdaaBurK
import Derived.Deep.RegionHeld3
namespace Go.Proofs.Ythmndfgafkpgdaa.burstFlips
open Go.RowKit Go.ChangeShapes Go.OpenShut

theorem flips_rise (l : List Int) (q x : Int) : (flips l q x).Pairwise (· < ·) := diffs_rise _ _ _
theorem flips_near {l : List Int} {q x y : Int} (h : y ∈ flips l q x) : q ≤ y ∧ y ≤ q + 15 := by
  obtain ⟨_, _, i, rfl, hi, _⟩ := mem_flips.1 h
  omega
theorem span_flips (l : List Int) (q x : Int) : spanW l (flipOf l q x) = spanOf (flips l q x) := by
  unfold spanW flips; rw [if_pos (flipOf_len l q x).symm]
theorem places_flips (l : List Int) (q x : Int) : placesOf l (flipOf l q x) = flips l q x := by
  unfold placesOf flips; rw [if_pos (flipOf_len l q x).symm]
theorem some_one {x : Int} (h0 : 0 ≤ x) (h1 : x < 65536) (hne : x ≠ 0) : ∃ i : Nat, i < 16 ∧ xb x i = 1 := by
  have e : x % 2 ^ (16 - 0) = x := Int.emod_eq_of_lt h0 (by simpa using h1)
  obtain ⟨i, _, hi, _, ho, _, _⟩ := ones_step (x := x) (j := 0) h0 (by omega) (by rw [e]; exact hne)
  have hm : (i : Int) ∈ onesTo x (i + 1) := by rw [ho]; simp
  obtain ⟨r, hr, hr2, hx⟩ := mem_onesTo.1 hm
  obtain rfl : i = r := by omega
  exact ⟨i, hi, hx⟩
theorem flips_none {l : List Int} {q x : Int} (h0 : 0 ≤ x) (h1 : x < 65536) (hq : 0 ≤ q) (hl : q + 16 ≤ 8 * l.length) : (x == 0) = (spanOf (flips l q x) == 0) := by
  by_cases hx : x = 0
  · subst hx
    have : flips l q 0 = [] := by
      apply List.eq_nil_iff_forall_not_mem.2
      intro y hy
      obtain ⟨_, _, i, _, _, h⟩ := mem_flips.1 hy
      unfold xb at h
      simp at h
    rw [this]; rfl
  · obtain ⟨i, hi, hb⟩ := some_one h0 h1 hx
    have hm : q + i ∈ flips l q x := mem_flips.2 ⟨by omega, by omega, i, rfl, hi, hb⟩
    have hs : spanOf (flips l q x) ≠ 0 := by
      intro e
      rw [(span_0 (flips_rise l q x)).1 e] at hm
      cases hm
    rw [show (x == 0) = false by simpa using hx, show (spanOf (flips l q x) == 0) = false by simpa using hs]

set_option maxHeartbeats 4000000 in
theorem within (a : Option Addr) (n c : Nat) (q x : Int) (l : List Int) (w : World) (hB : By w a n c l) (hn : n ≤ 300) (hq1 : -9223372036854775808 ≤ q) (hq2 : q ≤ 9223372036854775807) (hx0 : 0 ≤ x) (hx1 : x < 65536) :
    Calls Try.prog 4 #[.slice a n c, .int .i64 q, .int .u16 x] w fun e w' => e = .returned (.bool true) ∧ Below w.heap.size w w' := by
  have hn' : ¬ (300 : Int) < (n : Int) := by omega
  have HB := Lib.hid hB
  have HL := Lib.hid hB.len
  have hs0 := span_bd (flips_rise l q x) (lo := q) (k := 15) (fun y hy => flips_near hy) (by decide)
  have hs1 := span_len (flips_rise l q x)
  have HP := Lib.hid (fun y (h : y ∈ flips l q x) => mem_flips.1 h)
  have HN := Lib.hid (fun (h1 : 0 ≤ q) (h2 : q + 16 ≤ 8 * l.length) => flips_none (l := l) hx0 hx1 h1 h2)
  have HK := Lib.hid (flip_back hB.bd q x)
  have hsp := span_flips l q x
  have hpl := places_flips l q x
  obtain ⟨m, hm⟩ : ∃ m, flipOf l q x = m := ⟨_, rfl⟩
  rw [hm] at hsp hpl
  obtain ⟨ps, hps⟩ : ∃ ps, flips l q x = ps := ⟨_, rfl⟩
  rw [hps] at hs0 hs1 hsp hpl
  obtain ⟨s, hs⟩ : ∃ s, spanOf ps = s := ⟨_, rfl⟩
  rw [hs] at hs0 hs1 hsp
  rw [hps, hs] at HN
  rw [hps] at HP
  rw [hm] at HK
  have HM := Lib.hid hm
  have HSP := Lib.hid hsp
  have HPL := Lib.hid hpl
  clear hB hm hsp hpl hps hs
  go_enter Try.func4, Try.ntmps4
  go_wp2_with fail
  refine (burstFlip_to HM.out HB.out (by omega) hq1 hq2 hx0 hx1).mono ?_
  rintro e w1 ⟨a1, c1, rfl, hB1, hb1⟩
  have HB1 := Lib.hid hB1
  have HB0 := Lib.hid (HB.out.keep hb1 (Nat.le_refl _))
  have hb := hb1
  clear hB1 hb1
  go_wp2_with fail
  refine (burstSpan_is a a1 n c n c1 l m _ HB0.out HB1.out (by omega) (by omega)).mono ?_
  rw [HSP.out]
  rintro e w2 ⟨rfl, hb2⟩
  have HB2 := Lib.hid (HB1.out.keep hb2 (Nat.le_refl _))
  have HB3 := Lib.hid (HB0.out.keep hb2 (Nat.le_refl _))
  replace hb := hb.trans (hb2.mono hb.size)
  clear hb2 HB1 HB0
  go_wp2_with fail
  refine (burstPlaces_to HPL.out HB3.out HB2.out (by omega) (by omega)).mono ?_
  rintro e w3 ⟨a3, c3, rfl, hI, hb3⟩
  have HI := Lib.hid hI
  have HB4 := Lib.hid (HB2.out.keep hb3 (Nat.le_refl _))
  have HB5 := Lib.hid (HB3.out.keep hb3 (Nat.le_refl _))
  have Hb := Lib.hid (hb.trans (hb3.mono hb.size))
  have hcap := hI.cap
  have hbig := hI.big
  unfold maxLen at hbig
  clear hb hb3 HB2 HB3 hI
  go_wp2
  go_loopw [10] (fun i wr => wr = w3 ∧ ∃ k : Nat, k ≤ ps.length ∧ i = .int .i64 k) (fun i _ => ps.length - (intOf i).toNat)
  case atStart => exact ⟨rfl, 0, by omega, rfl⟩
  case round =>
    obtain ⟨rfl, k, hk, rfl⟩ := hrel
    by_cases hlt : k < ps.length
    · have hk1 : (k : Int) < (ps.length : Int) := by omega
      obtain ⟨b, off, rfl, h1⟩ := HI.out.lie (by omega)
      have hc := h1 k hlt
      obtain ⟨y0, y1, r, hy, hr, hx⟩ := HP.out _ (byAt_mem hlt)
      rw [hy] at hc y0 y1
      have hlen := HL.out
      have y2 : q + r < 8 * (n : Int) := by omega
      have ex := xb_walk (x := x) r
      rw [hx] at ex
      have z1 : ¬ q + (r : Int) < q := by omega
      have z2 : ¬ (15 : Int) < q + r - q := by omega
      have z3 : 15 - (q + (r : Int)) + q = 15 - r := by omega
      have z4 : (15 - (r : Int)).toNat = 15 - r := by omega
      have z5 : IntKind.u64.wrap (15 - (r : Int)) = 15 - r := by simp [IntKind.wrap, IntKind.bits, IntKind.signed]; omega
      clear h1 y1 hy hx
      go_wp2
      go_roundw
      case rel => exact ⟨trivial, k + 1, by omega, by go_num⟩
      case measure => simp [intOf]; omega
    · obtain rfl : k = ps.length := by omega
      have hlen := HL.out
      have hmd : Bd8 m := by rw [← HM.out]; exact flipOf_bd HB.out.bd q x
      have hml : m.length = n := by rw [← HM.out, flipOf_len]; exact hlen
      have hcase : q < 0 ∨ (0 ≤ q ∧ 8 * (n : Int) - 16 < q) ∨ (0 ≤ q ∧ q ≤ 8 * (n : Int) - 16 ∧ (x == 0) = (s == 0)) := by
        by_cases h1 : q < 0
        · exact .inl h1
        · by_cases h2 : 8 * (n : Int) - 16 < q
          · exact .inr (.inl ⟨by omega, h2⟩)
          · exact .inr (.inr ⟨by omega, by omega, HN.out (by omega) (by rw [hlen]; omega)⟩)
      have g1 : 0 ≤ s := hs0.1
      have g2 : s ≤ 16 := by omega
      have eS := str_same8 (l := l) rfl
      have HD := Lib.hid HB.out.bd
      have hp0 := str_run HB5.out
      have hp1 := str_run (HB5.out.keep (Below.refl wr.heap.size wr).drew (Nat.le_refl _))
      rcases hcase with h1 | ⟨h1, h2⟩ | ⟨h1, h2, h3⟩
      all_goals
        go_wp2
        go_region_held (fun w' => Below wr.heap.size wr w')
          (first | with_reducible assumption | exact Below.refl _ _ | exact (Below.refl _ _).drew)
          (first
            | (go_at_call 11; (refine (own_at (HK.out ▸ burstFlip_is _ n c1 q x m _ (HB4.out.keep (by assumption) (Nat.le_refl _)) (by omega) hq1 hq2 hx0 hx1) HD.out (by assumption)).mono ?_); rintro e w4 ⟨a6, n6, c6, rfl, hB6, hb6, hS⟩; have hq := str_run hB6; have hq' := str_run (hB6.keep (Below.refl _ _).drew (Nat.le_refl _)); have hp := str_run (HB5.out.keep hS (Nat.le_refl _)); have hp' := str_run (HB5.out.keep hS.drew (Nat.le_refl _)))
            | (go_at_call 5; (refine (below_at (burstAwake_is _) (by assumption)).mono ?_); rintro e w5 ⟨rfl, hS⟩))
      all_goals go_wp2
      all_goals go_ret
      all_goals exact ⟨rfl, Hb.out.trans (hS.mono Hb.out.size)⟩

set_option maxHeartbeats 1000000 in
theorem walk (a0 : Option Addr) (len0 cap0 : Nat) (z0 : List Int) (a1 : Int) (a2 : Int) (w : World) (w0 : IsRow .u8 w a0 len0 cap0 z0) (w1 : (Lit.int .i64 a1).wf = true) (w2 : (Lit.int .u16 a2).wf = true) :
    Calls Try.prog 4 #[.slice a0 len0 cap0, .int .i64 a1, .int .u16 a2] w fun e w' => e = .returned (.bool true) ∧ Below w.heap.size w w' := by
  have hB := By.of_row w0
  obtain ⟨b1, b2⟩ := bounds_i64 w1
  obtain ⟨b3, b4⟩ : 0 ≤ a2 ∧ a2 < 65536 := by
    simp [Lit.wf, IntKind.min, IntKind.max, IntKind.bits, IntKind.signed] at w2
    omega
  by_cases h : len0 ≤ 300
  · exact within a0 len0 cap0 a1 a2 _ w hB h (by omega) (by omega) b3 b4
  · have h' : (300 : Int) < (len0 : Int) := by omega
    have q1 := hB.big
    have q2 := hB.cap
    unfold maxLen at q1
    clear w0 w1 w2 hB h
    go_enter Try.func4, Try.ntmps4
    go_wp2_with (go_at_call 5; (with_reducible refine (burstAwake_is _).mono ?_); rintro e w5 ⟨rfl, hb5⟩)
    go_ret
    exact ⟨rfl, hb5⟩
end Go.Proofs.Ythmndfgafkpgdaa.burstFlips
