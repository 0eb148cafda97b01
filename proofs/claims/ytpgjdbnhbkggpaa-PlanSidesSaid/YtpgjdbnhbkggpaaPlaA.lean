/- Package plan: what its searches answer. Conditions: lists as short as 100000; what a side says of an element is -1 to 1. -/
import Derived.Test.YtpgjdbnhbkggpaaLabU
import Derived.Test.YtpgjdbnhbkggpaaPlaN
import Derived.Deep.LoopGhost
namespace Go.Proofs.Ytpgjdbnhbkggpaa
open Go.RowKit Go.IntWalk

theorem strCompare_is (a b : ByteArray) (w : World) : Calls Try.prog 35 #[.string a, .string b] w fun e w' => e = .returned (.int .i64 (cmpB a b)) ∧ w = w' :=
  (strings_Compare a b w).mono fun _ _ h => ⟨h.1, h.2.symm⟩
set_option maxHeartbeats 1000000 in
theorem plaSideN_is {W : World} {pb nb t n c k : Nat} {a : Option Addr} {s : ByteArray} {rs : Rgs} (hp : W.cell? ⟨pb, 0, none⟩ = some (.pointer (some ⟨t, 0, none⟩))) (hs : W.cell? ⟨nb, 0, none⟩ = some (.string s)) (h1 : W.cell? ⟨t, 1, none⟩ = some (.slice a n c)) (hE : ElAt rgK W a n c rs) (hk : k < n) :
    Calls Try.prog 34 #[.int .i64 k, .pointer (some ⟨pb, 0, none⟩), .pointer (some ⟨nb, 0, none⟩)] W fun e w' => e = .returned (.int .i64 (cmpB (el rs k).1 s)) ∧ Below W.heap.size W w' := by
  have hcap := hE.cap
  have hbig := hE.big
  unfold maxLen at hbig
  obtain ⟨b, off, rfl, d0, d1, d2, d3⟩ := hE.rg hk
  have hk' : (k : Int) < n := by omega
  clear hE d1 d2 d3
  obtain ⟨q, hq⟩ : ∃ q, (el rs k).1 = q := ⟨_, rfl⟩
  rw [hq] at d0 ⊢
  obtain ⟨z, hz⟩ : ∃ z, cmpB q s = z := ⟨_, rfl⟩
  have C0 := fun w => strCompare_is q s w
  simp only [hz] at C0 ⊢
  have C := Lib.hid C0
  clear hq hz C0
  go_enter Try.func34, Try.ntmps34
  go_wp2
  go_quiet ((go_at_call 35; exact Calls.quiet_of_same ((C.out _).mono fun _ _ h => ⟨h.1, h.2.symm⟩)))
  go_wp2
  go_ret
  exact ⟨rfl, bel_drewN (Below.refl _ _) _⟩
set_option maxHeartbeats 1000000 in
theorem plaSideA_is (W : World) {ab : Nat} {x0 : Int} {r : Rg} (hx : W.cell? ⟨ab, 0, none⟩ = some (.int .i64 x0)) (h0 : 0 ≤ r.2.1) (h1 : 0 ≤ r.2.2.1) (h2 : r.2.1 + r.2.2.1 ≤ 2048) :
    Calls Try.prog 28 #[rgV r, .pointer (some ⟨ab, 0, none⟩)] W fun e w' => e = .returned (.int .i64 (sidA x0 r)) ∧ Below W.heap.size W w' := by
  obtain ⟨r0, r1, r2, r3⟩ := r
  simp only at h0 h1 h2
  simp only [rgV]
  have hl := cell_lt hx
  obtain ⟨b, hb⟩ : ∃ b, W.heap.size = b := ⟨_, rfl⟩
  obtain ⟨W1, hW1⟩ : ∃ W1, W.alloc (.cells #[.string r0, .int .i64 r1, .int .i64 r2, .bool r3] 37) = W1 := ⟨_, rfl⟩
  have hn := BlkAt.new W 37 #[.string r0, .int .i64 r1, .int .i64 r2, .bool r3]
  have hB := (Below.refl W.heap.size W).alloc (Nat.le_refl _) (.cells #[.string r0, .int .i64 r1, .int .i64 r2, .bool r3] 37)
  have d0 := (hB.cell (p := ⟨ab, 0, none⟩) hl).trans hx
  rw [hW1] at hn hB d0
  rw [hb] at hn
  have d1 : W1.cell? ⟨b, 1, none⟩ = some (.int .i64 r1) := hn.cell 1
  have d2 : W1.cell? ⟨b, 2, none⟩ = some (.int .i64 r2) := hn.cell 2
  have HB := Lib.hid hB
  have HW := Lib.hid hW1
  have Hb := Lib.hid hb
  clear hx hl hn hB
  by_cases q1 : r1 + r2 ≤ x0
  · have e : sidA x0 (r0, r1, r2, r3) = -1 := if_pos q1
    rw [e]
    clear e
    go_enter Try.func28, Try.ntmps28
    go_wp2
    go_ret
    exact ⟨rfl, by first | exact HB.out | (rw [← Hb.out]; exact HB.out)⟩
  · by_cases q2 : x0 < r1
    · have e : sidA x0 (r0, r1, r2, r3) = 1 := by unfold sidA; rw [if_neg q1, if_pos q2]
      rw [e]
      clear e
      go_enter Try.func28, Try.ntmps28
      go_wp2
      go_ret
      exact ⟨rfl, by first | exact HB.out | (rw [← Hb.out]; exact HB.out)⟩
    · have e : sidA x0 (r0, r1, r2, r3) = 0 := by unfold sidA; rw [if_neg q1, if_neg q2]
      rw [e]
      clear e
      go_enter Try.func28, Try.ntmps28
      go_wp2
      go_ret
      exact ⟨rfl, by first | exact HB.out | (rw [← Hb.out]; exact HB.out)⟩
section
/-- Where a list that a side sorts is parted. -/
def BsTo (n : Nat) (f : Nat → Int) (w : World) (e : Ending) (w' : World) : Prop :=
  ∃ p : Nat, p ≤ n ∧ (∀ i, i < p → f i < 0) ∧ (∀ i, p ≤ i → i < n → 0 ≤ f i) ∧ e = .returned (.tuple #[.int .i64 p, .bool (decide (p < n) && decide (f p = 0))]) ∧ Below w.heap.size w w'
def BsIn (n : Nat) (f : Nat → Int) (lo hi : Nat) : Prop := lo ≤ hi ∧ hi ≤ n ∧ (∀ i, i < lo → f i < 0) ∧ (∀ i, hi ≤ i → i < n → 0 ≤ f i)
set_option maxHeartbeats 4000000 in
theorem bsInt_is {a : Option Addr} {n c sb : Nat} {l : List Int} {f : Nat → Int} {w : World} (h : ElAt (numK .i64) w a n c l) (hn : n ≤ 100000)
    (hC : ∀ k, k < n → ∀ W, Below w.heap.size w W → Calls Try.prog 43 #[.int .i64 (el l k), .int .i64 0, .pointer (some ⟨sb, 0, none⟩)] W fun e W' => e = .returned (.int .i64 (f k)) ∧ Below W.heap.size W W')
    (hm : ∀ i j, i ≤ j → j < n → f j < 0 → f i < 0) :
    Calls Try.prog 42 #[.slice a n c, .int .i64 0, .func (.func 43) #[] #[.pointer (some ⟨sb, 0, none⟩)]] w (BsTo n f w) := by
  have hcap := h.cap
  have hbig := h.big
  unfold maxLen at hbig
  have H := Lib.hid h
  have HC := Lib.hid hC
  have HM := Lib.hid hm
  clear h hC hm
  go_enter Try.func42, Try.ntmps42
  go_wp2
  go_loopw [9, 10] (fun i j wr => ∃ lo hi : Nat, i = .int .i64 lo ∧ j = .int .i64 hi ∧ BsIn n f lo hi ∧ Below w.heap.size w wr) (fun i j _ => (intOf j).toNat - (intOf i).toNat)
  case atStart => exact ⟨0, n, rfl, rfl, ⟨Nat.zero_le _, Nat.le_refl _, fun i hi => absurd hi (Nat.not_lt_zero _), fun i h1 h2 => by omega⟩, Below.refl _ _⟩
  case round =>
    obtain ⟨lo, hi, rfl, rfl, hI, hb⟩ := hrel
    have HI := Lib.hid hI
    have HB := Lib.hid hb
    obtain ⟨i1, i2, -, -⟩ := hI
    by_cases hlt : lo < hi
    · obtain ⟨b, off, rfl, d0⟩ := (H.out.keep hb).num (i := (lo + hi) / 2) (by omega)
      have hc := HC.out ((lo + hi) / 2) (by omega) wr hb
      have HUP := Lib.hid (fun (q : f ((lo + hi) / 2) < 0) => (show BsIn n f ((lo + hi) / 2 + 1) hi from ⟨by omega, i2, fun t ht => HM.out t ((lo + hi) / 2) (by omega) (by omega) q, HI.out.2.2.2⟩))
      have HDN := Lib.hid (fun (q : ¬ f ((lo + hi) / 2) < 0) => (show BsIn n f lo ((lo + hi) / 2) from ⟨by omega, by omega, HI.out.2.2.1, fun t h1 h2 => Int.not_lt.1 fun z => q (HM.out ((lo + hi) / 2) t h1 h2 z)⟩))
      generalize el l ((lo + hi) / 2) = y at d0 hc
      obtain ⟨z, hz⟩ : ∃ z, f ((lo + hi) / 2) = z := ⟨_, rfl⟩
      rw [hz] at hc HUP HDN
      have HCC := Lib.hid hc
      clear hb hc hz
      by_cases hyx : z < 0
      · go_wp2_with (go_at_call 43; ((with_reducible refine (HCC.out).mono ?_); rintro e w3 ⟨rfl, hb3⟩); have HB3 := Lib.hid (HB.out.trans (hb3.mono HB.out.size)); clear hb3)
        go_roundw
        case rel => exact ⟨(lo + hi) / 2 + 1, hi, by rw [show ((lo : Int) + (hi : Int)) / 2 + 1 = (((lo + hi) / 2 + 1 : Nat) : Int) by omega], rfl, HUP.out hyx, HB3.out⟩
        case measure => simp [intOf]; omega
      · go_wp2_with (go_at_call 43; ((with_reducible refine (HCC.out).mono ?_); rintro e w3 ⟨rfl, hb3⟩); have HB3 := Lib.hid (HB.out.trans (hb3.mono HB.out.size)); clear hb3)
        go_roundw
        case rel => exact ⟨lo, (lo + hi) / 2, rfl, by rw [show ((lo : Int) + (hi : Int)) / 2 = (((lo + hi) / 2 : Nat) : Int) by omega], HDN.out hyx, HB3.out⟩
        case measure => simp [intOf]; omega
    · obtain rfl : hi = lo := by omega
      by_cases hn2 : hi < n
      · obtain ⟨b, off, rfl, d0⟩ := (H.out.keep hb).num hn2
        have hc := HC.out hi hn2 wr hb
        generalize el l hi = y at d0 hc
        obtain ⟨z, hz⟩ : ∃ z, f hi = z := ⟨_, rfl⟩
        rw [hz] at hc
        have HCC := Lib.hid hc
        have HZ := Lib.hid hz
        clear hb hc hz
        by_cases hyx : z = 0
        · go_wp2_with (go_at_call 43; ((with_reducible refine (HCC.out).mono ?_); rintro e w3 ⟨rfl, hb3⟩); have HB3 := Lib.hid (HB.out.trans (hb3.mono HB.out.size)); clear hb3)
          go_ret2
          exact ⟨hi, i2, HI.out.2.2.1, HI.out.2.2.2, by rw [HZ.out, decide_eq_true hn2, decide_eq_true hyx]; rfl, HB3.out⟩
        · have e0 : (z == 0) = false := by simp [hyx]
          go_wp2_with (go_at_call 43; ((with_reducible refine (HCC.out).mono ?_); rintro e w3 ⟨rfl, hb3⟩); have HB3 := Lib.hid (HB.out.trans (hb3.mono HB.out.size)); clear hb3)
          go_ret2
          exact ⟨hi, i2, HI.out.2.2.1, HI.out.2.2.2, by rw [HZ.out, decide_eq_true hn2, decide_eq_false hyx]; rfl, HB3.out⟩
      · clear hb
        go_wp2
        go_ret2
        exact ⟨hi, i2, HI.out.2.2.1, HI.out.2.2.2, by rw [decide_eq_false hn2]; rfl, HB.out⟩
set_option maxHeartbeats 4000000 in
theorem bsRg_is {a : Option Addr} {n c sb : Nat} {l : Rgs} {f : Nat → Int} {w : World} (h : ElAt rgK w a n c l) (hn : n ≤ 100000)
    (hC : ∀ k, k < n → ∀ W, Below w.heap.size w W → Calls Try.prog 40 #[rgV (el l k), .int .i64 0, .pointer (some ⟨sb, 0, none⟩)] W fun e W' => e = .returned (.int .i64 (f k)) ∧ Below W.heap.size W W')
    (hm : ∀ i j, i ≤ j → j < n → f j < 0 → f i < 0) :
    Calls Try.prog 39 #[.slice a n c, .int .i64 0, .func (.func 40) #[] #[.pointer (some ⟨sb, 0, none⟩)]] w (BsTo n f w) := by
  have hcap := h.cap
  have hbig := h.big
  unfold maxLen at hbig
  have H := Lib.hid h
  have HC := Lib.hid hC
  have HM := Lib.hid hm
  clear h hC hm
  go_enter Try.func39, Try.ntmps39
  go_wp2
  go_loopw [9, 10] (fun i j wr => ∃ lo hi : Nat, i = .int .i64 lo ∧ j = .int .i64 hi ∧ BsIn n f lo hi ∧ Below w.heap.size w wr) (fun i j _ => (intOf j).toNat - (intOf i).toNat)
  case atStart => exact ⟨0, n, rfl, rfl, ⟨Nat.zero_le _, Nat.le_refl _, fun i hi => absurd hi (Nat.not_lt_zero _), fun i h1 h2 => by omega⟩, Below.refl _ _⟩
  case round =>
    obtain ⟨lo, hi, rfl, rfl, hI, hb⟩ := hrel
    have HI := Lib.hid hI
    have HB := Lib.hid hb
    obtain ⟨i1, i2, -, -⟩ := hI
    by_cases hlt : lo < hi
    · obtain ⟨b, off, rfl, d0, d1, d2, d3⟩ := (H.out.keep hb).rg (i := (lo + hi) / 2) (by omega)
      have hc := HC.out ((lo + hi) / 2) (by omega) wr hb
      have HUP := Lib.hid (fun (q : f ((lo + hi) / 2) < 0) => (show BsIn n f ((lo + hi) / 2 + 1) hi from ⟨by omega, i2, fun t ht => HM.out t ((lo + hi) / 2) (by omega) (by omega) q, HI.out.2.2.2⟩))
      have HDN := Lib.hid (fun (q : ¬ f ((lo + hi) / 2) < 0) => (show BsIn n f lo ((lo + hi) / 2) from ⟨by omega, by omega, HI.out.2.2.1, fun t h1 h2 => Int.not_lt.1 fun z => q (HM.out ((lo + hi) / 2) t h1 h2 z)⟩))
      generalize el l ((lo + hi) / 2) = y at d0 d1 d2 d3 hc
      obtain ⟨y0, y1, y2, y3⟩ := y
      simp only [rgV] at d0 d1 d2 d3 hc
      obtain ⟨z, hz⟩ : ∃ z, f ((lo + hi) / 2) = z := ⟨_, rfl⟩
      rw [hz] at hc HUP HDN
      have HCC := Lib.hid hc
      clear hb hc hz
      by_cases hyx : z < 0
      · go_wp2_with (go_at_call 40; ((with_reducible refine (HCC.out).mono ?_); rintro e w3 ⟨rfl, hb3⟩); have HB3 := Lib.hid (HB.out.trans (hb3.mono HB.out.size)); clear hb3)
        go_roundw
        case rel => exact ⟨(lo + hi) / 2 + 1, hi, by rw [show ((lo : Int) + (hi : Int)) / 2 + 1 = (((lo + hi) / 2 + 1 : Nat) : Int) by omega], rfl, HUP.out hyx, HB3.out⟩
        case measure => simp [intOf]; omega
      · go_wp2_with (go_at_call 40; ((with_reducible refine (HCC.out).mono ?_); rintro e w3 ⟨rfl, hb3⟩); have HB3 := Lib.hid (HB.out.trans (hb3.mono HB.out.size)); clear hb3)
        go_roundw
        case rel => exact ⟨lo, (lo + hi) / 2, rfl, by rw [show ((lo : Int) + (hi : Int)) / 2 = (((lo + hi) / 2 : Nat) : Int) by omega], HDN.out hyx, HB3.out⟩
        case measure => simp [intOf]; omega
    · obtain rfl : hi = lo := by omega
      by_cases hn2 : hi < n
      · obtain ⟨b, off, rfl, d0, d1, d2, d3⟩ := (H.out.keep hb).rg hn2
        have hc := HC.out hi hn2 wr hb
        generalize el l hi = y at d0 d1 d2 d3 hc
        obtain ⟨y0, y1, y2, y3⟩ := y
        simp only [rgV] at d0 d1 d2 d3 hc
        obtain ⟨z, hz⟩ : ∃ z, f hi = z := ⟨_, rfl⟩
        rw [hz] at hc
        have HCC := Lib.hid hc
        have HZ := Lib.hid hz
        clear hb hc hz
        by_cases hyx : z = 0
        · go_wp2_with (go_at_call 40; ((with_reducible refine (HCC.out).mono ?_); rintro e w3 ⟨rfl, hb3⟩); have HB3 := Lib.hid (HB.out.trans (hb3.mono HB.out.size)); clear hb3)
          go_ret2
          exact ⟨hi, i2, HI.out.2.2.1, HI.out.2.2.2, by rw [HZ.out, decide_eq_true hn2, decide_eq_true hyx]; rfl, HB3.out⟩
        · have e0 : (z == 0) = false := by simp [hyx]
          go_wp2_with (go_at_call 40; ((with_reducible refine (HCC.out).mono ?_); rintro e w3 ⟨rfl, hb3⟩); have HB3 := Lib.hid (HB.out.trans (hb3.mono HB.out.size)); clear hb3)
          go_ret2
          exact ⟨hi, i2, HI.out.2.2.1, HI.out.2.2.2, by rw [HZ.out, decide_eq_true hn2, decide_eq_false hyx]; rfl, HB3.out⟩
      · clear hb
        go_wp2
        go_ret2
        exact ⟨hi, i2, HI.out.2.2.1, HI.out.2.2.2, by rw [decide_eq_false hn2]; rfl, HB.out⟩
end
end Go.Proofs.Ytpgjdbnhbkggpaa
