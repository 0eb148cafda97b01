/- Layer 20's own example, and who is nobody. -/
import Derived.Test.YtpgjdbnhbkggpaaPlaH
namespace Go.Proofs.Ytpgjdbnhbkggpaa
open Go.RowKit Go.IntWalk

abbrev awA : Rgs := [(⟨#[97]⟩, 0, 2, true)]
abbrev awB : Rgs := [(⟨#[97]⟩, 0, 2, true), (⟨#[98]⟩, 2, 3, false)]
theorem aw_all1 : allE 5 [] ⟨#[97]⟩ 2 = 0 ∧ allV 5 [] ⟨#[97]⟩ 2 = 0 ∧ allS 5 [] ⟨#[97]⟩ 2 true = awA := by decide +kernel
theorem aw_all2 : allE 5 awA ⟨#[98]⟩ 3 = 0 ∧ allV 5 awA ⟨#[98]⟩ 3 = 2 ∧ allS 5 awA ⟨#[98]⟩ 3 false = awB := by decide +kernel
theorem aw_at : aV awB 4 = (⟨#[98]⟩, 2, 3, false) ∧ aO awB 4 = 2 ∧ aB awB 4 = true := by decide +kernel
theorem plaUsed_nobody {p : Value} {w : World} (h : MadeP p w false) : Calls Try.prog 13 #[p] w fun e w' => e = .returned (.int .i64 0) ∧ Below w.heap.size w w' :=
  plaUsed_is (size := 0) (HeldP.nobody h) (Sides.nil (by decide) (by decide))
theorem plaAt_nobody {p : Value} {w : World} (h : MadeP p w false) : Calls Try.prog 11 #[p, .int .i64 0] w fun e w' => e = .returned (.tuple #[.agg #[.string ⟨#[]⟩, .int .i64 0, .int .i64 0, .bool false], .int .i64 0, .bool false]) ∧ Below w.heap.size w w' := by
  refine (plaAt_is (size := 0) (HeldP.nobody h) (Sides.nil (by decide) (by decide)) 0 (by decide) (by decide)).mono ?_
  rintro e w' ⟨rfl, hb⟩
  exact ⟨rfl, hb⟩
theorem plaRegions_nobody {p : Value} {w : World} (h : MadeP p w false) : Calls Try.prog 16 #[p] w fun e w' => (∃ a c, e = .returned (.slice a 0 c)) ∧ Below w.heap.size w w' := by
  refine (plaRegions_is (HeldP.nobody h) (by decide)).mono ?_
  rintro e w' ⟨v, rfl, ho, hb⟩
  obtain ⟨a, c, hv, -⟩ := ho.at
  exact ⟨⟨a, c, by rw [hv]; rfl⟩, hb⟩
theorem plaSecret_nobody {p : Value} {w : World} (h : MadeP p w false) : Calls Try.prog 18 #[p] w fun e w' => (∃ a c, e = .returned (.slice a 0 c)) ∧ Below w.heap.size w w' := by
  refine (plaSecret_is (size := 0) (HeldP.nobody h) (Sides.nil (by decide) (by decide))).mono ?_
  rintro e w' ⟨v, rfl, ho, hb⟩
  obtain ⟨a, c, hv, -⟩ := ho.at
  exact ⟨⟨a, c, by rw [hv]; rfl⟩, hb⟩
theorem plaFind_nobody' {p : Value} {w : World} (h : MadeP p w false) (s : ByteArray) : Calls Try.prog 9 #[p, .string s] w fun e w' => e = .returned (.tuple #[.agg #[.string ⟨#[]⟩, .int .i64 0, .int .i64 0, .bool false], .bool false]) ∧ Below w.heap.size w w' := plaFind_nobody h s
set_option maxRecDepth 100000 in
set_option maxHeartbeats 4000000 in
theorem plaAwake_is (w : World) : Calls Try.prog 5 #[] w fun e w' => e = .returned (.bool true) ∧ Below w.heap.size w w' := by
  have HM : Hid (∀ n : Nat, n < 100 → n ≤ maxLen) := Lib.hid fun n h => by unfold maxLen; omega
  have HA : Hid (∀ t F w1, PlaAt w.heap.size w1 t 5 [] F → w.heap.size ≤ w1.heap.size → Calls Try.prog 7 #[.pointer (some ⟨t, 0, none⟩), .string ⟨#[97]⟩, .int .i64 2, .bool true] w1 (PlaTo w.heap.size t 5 0 0 awA F w1)) := Lib.hid fun t F w1 h hB => by
    have := plaAlloc_is h ⟨#[97]⟩ 2 true (HM.out _ (by decide)) (by decide) hB
    rwa [aw_all1.1, aw_all1.2.1, aw_all1.2.2] at this
  have HA2 : Hid (∀ t F w1, PlaAt w.heap.size w1 t 5 awA F → w.heap.size ≤ w1.heap.size → Calls Try.prog 7 #[.pointer (some ⟨t, 0, none⟩), .string ⟨#[98]⟩, .int .i64 3, .bool false] w1 (PlaTo w.heap.size t 5 2 0 awB F w1)) := Lib.hid fun t F w1 h hB => by
    have := plaAlloc_is h ⟨#[98]⟩ 3 false (HM.out _ (by decide)) (by decide) hB
    rwa [aw_all2.1, aw_all2.2.1, aw_all2.2.2] at this
  have HAT : Hid (∀ t F w1, PlaAt w.heap.size w1 t 5 awB F → Calls Try.prog 11 #[.pointer (some ⟨t, 0, none⟩), .int .i64 4] w1 fun e w' => e = .returned (.tuple #[.agg #[.string ⟨#[98]⟩, .int .i64 2, .int .i64 3, .bool false], .int .i64 2, .bool true]) ∧ Below w1.heap.size w1 w') := Lib.hid fun t F w1 h => by
    obtain ⟨a, c, hH⟩ := h.held (n := 2) rfl
    have := plaAt_is hH h.sid 4 (by decide) (by decide)
    rw [aw_at.1, aw_at.2.1, aw_at.2.2] at this
    exact this
  go_enter Try.func5, Try.ntmps5
  go_upto_region 7 with (first
    | (go_at_call 6; ((with_reducible refine (plaNew_is w.heap.size 5 _ (by decide) (by decide) (Nat.le_refl _)).mono ?_); rintro e w1 ⟨t, F, rfl, h1, hF1, hb1⟩); have H1 := Lib.hid h1; have HB1 := Lib.hid hb1; have hs1 := hb1.size; clear h1 hb1 hF1)
    | (go_at_call 7; ((with_reducible refine (HA.out t F _ H1.out hs1).mono ?_); rintro e w2 ⟨F2, rfl, h2, hg2⟩); have H2 := Lib.hid h2; have HB2 := Lib.hid (hg2.keeps.below HB1.out hs1 fun j q => (H1.out.low j q).1); have hs2 : w.heap.size ≤ w2.heap.size := HB2.out.size; clear h2 hg2)
    | (go_at_call 7; ((with_reducible refine (HA2.out t F2 _ H2.out hs2).mono ?_); rintro e w3 ⟨F3, rfl, h3, hg3⟩); have H3 := Lib.hid h3; have HB3 := Lib.hid (hg3.keeps.below HB2.out hs2 fun j q => (H2.out.low j q).1); have hs3 : w.heap.size ≤ w3.heap.size := HB3.out.size; clear h3 hg3)
    | (go_at_call 11; ((with_reducible refine (HAT.out t F3 _ H3.out).mono ?_); rintro e w4 ⟨rfl, hb4⟩); have HB4 := Lib.hid (HB3.out.trans (hb4.mono hs3)); have hs4 : w.heap.size ≤ w4.heap.size := HB4.out.size; clear hb4))
  have hb5 := HB4.out.alloc hs4 (.cells #[.string ⟨#[98]⟩, .int .i64 2, .int .i64 3, .bool false] 37)
  have bb5 := BlkAt.new w4 37 #[.string ⟨#[98]⟩, .int .i64 2, .int .i64 3, .bool false]
  obtain ⟨W5, hW5⟩ : ∃ W, w4.alloc (.cells #[.string ⟨#[98]⟩, .int .i64 2, .int .i64 3, .bool false] 37) = W := ⟨_, rfl⟩
  obtain ⟨q5, hq5⟩ : ∃ q, w4.heap.size = q := ⟨_, rfl⟩
  rw [hW5] at hb5 bb5 ⊢
  rw [hq5] at bb5
  simp only [hq5]
  have k6 := (Below.refl W5.heap.size W5).alloc (Nat.le_refl _) (.cells #[.int .i64 0, .slice none 0 0, .slice none 0 0, .pointer none] 52)
  have bb6 := BlkAt.new W5 52 #[.int .i64 0, .slice none 0 0, .slice none 0 0, .pointer none]
  obtain ⟨W6, hW6⟩ : ∃ W, W5.alloc (.cells #[.int .i64 0, .slice none 0 0, .slice none 0 0, .pointer none] 52) = W := ⟨_, rfl⟩
  obtain ⟨q6, hq6⟩ : ∃ q, W5.heap.size = q := ⟨_, rfl⟩
  rw [hW6] at k6 bb6
  rw [hq6] at bb6
  have HB6 := Lib.hid (hb5.trans (k6.mono hb5.size))
  have HQ5 := Lib.hid (bb5.keep k6)
  have HMN := Lib.hid madeP_nil
  have HMO := Lib.hid (madeP_odd (b := q6) (w := W6) (bb6.cell 3))
  clear hb5 bb5 hW5 hq5 k6 bb6
  go_upto_region 13 with (first
    | (go_at_call 7; ((with_reducible refine (plaAlloc_nobody (p := .pointer none) (HMN.out _) ⟨#[97]⟩ 1 true).mono ?_); rintro e w7 ⟨rfl, rfl⟩))
    | (go_at_call 7; ((with_reducible refine (plaAlloc_nobody HMO.out ⟨#[97]⟩ 1 true).mono ?_); rintro e w7 ⟨rfl, rfl⟩))
    | (go_at_call 9; ((with_reducible refine (plaFind_nobody' (p := .pointer none) (HMN.out _) ⟨#[97]⟩).mono ?_); rintro e w7 ⟨rfl, hb7⟩); have HB7 := Lib.hid (hb7.alloc hb7.size (.cells #[.string ⟨#[]⟩, .int .i64 0, .int .i64 0, .bool false] 37)); clear hb7)
    | (go_at_call 11; ((with_reducible refine (plaAt_nobody (HMO.out.keep HB7.out)).mono ?_); rintro e w8 ⟨rfl, hb8⟩); have HB8 := Lib.hid ((HB7.out.trans (hb8.mono HB7.out.size)).alloc (Nat.le_trans HB7.out.size hb8.size) (.cells #[.string ⟨#[]⟩, .int .i64 0, .int .i64 0, .bool false] 37)); clear hb8))
  obtain ⟨W8, hW8⟩ : ∃ W, w8.alloc (.cells #[.string ⟨#[]⟩, .int .i64 0, .int .i64 0, .bool false] 37) = W := ⟨_, rfl⟩
  rw [hW8] at HB8 ⊢
  have d0 : W8.cell? ⟨q5, 0, none⟩ = some (.string ⟨#[98]⟩) := (HQ5.out.keep HB8.out).cell 0
  have HW8 := Lib.hid (HB6.out.trans (HB8.out.mono HB6.out.size))
  have HM8 := Lib.hid (HMO.out.keep HB8.out)
  clear hW8
  go_wp2_with (first
    | (go_at_call 13; ((with_reducible refine (plaUsed_nobody (p := .pointer none) (HMN.out _)).mono ?_); rintro e w9 ⟨rfl, hb9⟩); have HB9 := Lib.hid hb9; clear hb9)
    | (go_at_call 13; ((with_reducible refine (plaUsed_nobody (HM8.out.keep HB9.out)).mono ?_); rintro e w10 ⟨rfl, hb10⟩); have HB10 := Lib.hid (HB9.out.trans (hb10.mono HB9.out.size)); clear hb10)
    | (go_at_call 16; ((with_reducible refine (plaRegions_nobody (p := .pointer none) (HMN.out _)).mono ?_); rintro e w11 ⟨⟨a11, c11, rfl⟩, hb11⟩); have HB11 := Lib.hid (HB10.out.trans (hb11.mono HB10.out.size)); clear hb11)
    | (go_at_call 18; ((with_reducible refine (plaSecret_nobody (HM8.out.keep HB11.out)).mono ?_); rintro e w12 ⟨⟨a12, c12, rfl⟩, hb12⟩); have HB12 := Lib.hid (HB11.out.trans (hb12.mono HB11.out.size)); clear hb12))
  go_ret
  exact ⟨rfl, HW8.out.trans (HB12.out.mono HW8.out.size)⟩
end Go.Proofs.Ytpgjdbnhbkggpaa
