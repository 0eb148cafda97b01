/- The walk of the law CodeBack: it returns true and writes nothing that was there. -/
import Derived.Test.YtbgeiobffpfgoaaDoorCodK
namespace Go.Proofs.YtbgeiobffpfgoaaDoor.codeBack
open Go.RowKit Go.ChangeShapes Go.OpenShut

/-- What may be is decoded of its word, in Decode's words. -/
theorem back_dec {o d a b n : Int} (h : cChk o d a b n = 0) : cO (cEnc o d a b n) = o ∧ cG (cEnc o d a b n) 0 = d ∧ cG (cEnc o d a b n) 1 = a ∧ cG (cEnc o d a b n) 2 = b ∧ cG (cEnc o d a b n) 3 = n ∧ cErr (cEnc o d a b n) = 0 ∧ 0 ≤ cEnc o d a b n ∧ cEnc o d a b n < 4294967296 := by
  have e : cEnc o d a b n = cWord o d a b n := by unfold cEnc; rw [if_pos h]
  obtain ⟨h0, h1, h2, h3, h4, h5⟩ := word_back h
  have hb := bits_sum (chk_op h) d a b n
  rw [e]
  unfold cO cG
  rw [h0]
  exact ⟨h5, h1, h2, h3, h4, rfl, hb.2.2.2.2.2.2.2.2.2.2.2.2.1, hb.2.2.2.2.2.2.2.2.2.2.2.2.2⟩
/-- What is decoded may be, and is encoded to its word. -/
theorem dec_back {v : Int} (h : cErr v = 0) : cChk (cO v) (cG v 0) (cG v 1) (cG v 2) (cG v 3) = 0 ∧ cEnc (cO v) (cG v 0) (cG v 1) (cG v 2) (cG v 3) = v := by
  have k := back_word h
  unfold cO cG cEnc
  rw [if_pos h, if_pos h, if_pos h, if_pos h, if_pos h, if_pos k.1]
  exact k
theorem dec_none {v : Int} (h : cErr v ≠ 0) : cO v = 0 ∧ ∀ k, cG v k = 0 := by
  refine ⟨?_, fun k => ?_⟩
  · unfold cO; rw [if_neg h]
  · unfold cG; rw [if_neg h]

set_option maxHeartbeats 4000000 in
theorem within (o d a b n v : Int) (w : World) (v0 : 0 ≤ v) (v1 : v < 4294967296) (hL : ShapesLaid w) :
    Calls Tryd.prog 4 #[.agg #[.int .i64 o, .int .i64 d, .int .i64 a, .int .i64 b, .int .i64 n], .int .u32 v] w fun e w' => e = .returned (.bool true) ∧ Below w.heap.size w w' := by
  have HI := Lib.hid (fun T => InsW.new w w o d a b n T (Below.refl _ _) (Nat.le_refl _))
  have HL := Lib.hid hL
  have hq := eq_ins
  have D := @back_dec o d a b n
  have E := @dec_back v
  have N := @dec_none v
  obtain ⟨z, hz⟩ : ∃ z, cChk o d a b n = z := ⟨_, rfl⟩
  obtain ⟨x, hx⟩ : ∃ x, cEnc o d a b n = x := ⟨_, rfl⟩
  rw [hx, hz] at D
  obtain ⟨o', ho⟩ : ∃ y, cO v = y := ⟨_, rfl⟩
  obtain ⟨d', hd⟩ : ∃ y, cG v 0 = y := ⟨_, rfl⟩
  obtain ⟨a', ha⟩ : ∃ y, cG v 1 = y := ⟨_, rfl⟩
  obtain ⟨b', hb⟩ : ∃ y, cG v 2 = y := ⟨_, rfl⟩
  obtain ⟨n', hn⟩ : ∃ y, cG v 3 = y := ⟨_, rfl⟩
  obtain ⟨z', hz'⟩ : ∃ y, cErr v = y := ⟨_, rfl⟩
  rw [ho, hd, ha, hb, hn, hz'] at E
  rw [ho, hz'] at N
  have HZ := Lib.hid hz
  have HX := Lib.hid hx
  have GO := Lib.hid ho
  have GD := Lib.hid hd
  have GA := Lib.hid ha
  have GB := Lib.hid hb
  have GN := Lib.hid hn
  have GZ := Lib.hid hz'
  clear hL
  by_cases k1 : z = 0
  · obtain ⟨p0, p1, p2, p3, p4, p5, p6, p7⟩ := D k1
    subst k1
    have P0 := Lib.hid p0
    have P1 := Lib.hid p1
    have P2 := Lib.hid p2
    have P3 := Lib.hid p3
    have P4 := Lib.hid p4
    have P5 := Lib.hid p5
    clear p0 p1 p2 p3 p4 p5 D
    by_cases k2 : z' = 0
    · obtain ⟨s0, s1⟩ := E k2
      subst k2
      have S0 := Lib.hid s0
      have S1 := Lib.hid s1
      clear s0 s1 E N hz hx ho hd ha hb hn hz'
      go_enter Tryd.func4, Tryd.ntmps4
      go_wp2_with (first
        | (go_at_call 6; ((with_reducible refine (codeEncode_is o d a b n x 0 _ (HL.out.below (HI.out _).below HL.out.lt) HZ.out HX.out).mono ?_); rintro e w1 ⟨rfl, hk⟩); have hI := (HI.out _).keep hk)
        | (go_at_call 8; ((with_reducible refine (codeDecode_to (v := x) P0.out P1.out P2.out P3.out P4.out P5.out (HL.out.below hI.below HL.out.lt) p6 p7).mono ?_); rintro e w2 ⟨rfl, hk⟩); have hI := hI.keep hk; have c0 := hI.c0; have c1 := hI.c1; have c2 := hI.c2; have c3 := hI.c3; have c4 := hI.c4; have c5 := hI.lt; have hI := hI.alloc (.cells #[.int .i64 o, .int .i64 d, .int .i64 a, .int .i64 b, .int .i64 n] 23))
        | (go_at_call 8; ((with_reducible refine (codeDecode_to (v := v) GO.out GD.out GA.out GB.out GN.out GZ.out (HL.out.below hI.below HL.out.lt) v0 v1).mono ?_); rintro e w3 ⟨rfl, hk⟩); have hI := hI.keep hk; have hJ := InsW.new w w3 o' d' a' b' n' 23 hI.below hI.le; (try clear c0 c1 c2 c3 c4 c5))
        | (go_at_call 6; ((with_reducible refine (codeEncode_is o' d' a' b' n' v 0 _ (HL.out.below hJ.below HL.out.lt) S0.out S1.out).mono ?_); rintro e w4 ⟨rfl, hk⟩); have hJ := hJ.keep hk; have c0 := hJ.c0; have c1 := hJ.c1; have c2 := hJ.c2; have c3 := hJ.c3; have c4 := hJ.c4)
        | (go_at_call 10; ((with_reducible refine (codeCheckI_is o' d' a' b' n' 0 _ (HL.out.below hJ.below HL.out.lt) S0.out).mono ?_); rintro e w5 ⟨rfl, hk⟩); have hJ := hJ.keep hk)
        | (go_at_call 12; ((with_reducible refine (codeAwake_is _ (HL.out.below hJ.below HL.out.lt)).mono ?_); rintro e w6 ⟨rfl, hk⟩); have hJ := hJ.keep hk))
      go_ret
      exact ⟨rfl, hJ.below⟩
    · obtain ⟨s0, s1⟩ := N k2
      have q0 := (s1 0).symm.trans hd
      have q1 := (s1 1).symm.trans ha
      have q2 := (s1 2).symm.trans hb
      have q3 := (s1 3).symm.trans hn
      subst s0 q0 q1 q2 q3
      have k2' : (z' != 0) = true := by simpa using k2
      clear E N k2 s1 hz hx ho hd ha hb hn hz'
      go_enter Tryd.func4, Tryd.ntmps4
      go_wp2_with (first
        | (go_at_call 6; ((with_reducible refine (codeEncode_is o d a b n x 0 _ (HL.out.below (HI.out _).below HL.out.lt) HZ.out HX.out).mono ?_); rintro e w1 ⟨rfl, hk⟩); have hI := (HI.out _).keep hk)
        | (go_at_call 8; ((with_reducible refine (codeDecode_to (v := x) P0.out P1.out P2.out P3.out P4.out P5.out (HL.out.below hI.below HL.out.lt) p6 p7).mono ?_); rintro e w2 ⟨rfl, hk⟩); have hI := hI.keep hk; have c0 := hI.c0; have c1 := hI.c1; have c2 := hI.c2; have c3 := hI.c3; have c4 := hI.c4; have c5 := hI.lt; have hI := hI.alloc (.cells #[.int .i64 o, .int .i64 d, .int .i64 a, .int .i64 b, .int .i64 n] 23))
        | (go_at_call 8; ((with_reducible refine (codeDecode_to (v := v) GO.out GD.out GA.out GB.out GN.out GZ.out (HL.out.below hI.below HL.out.lt) v0 v1).mono ?_); rintro e w3 ⟨rfl, hk⟩); have hI := hI.keep hk; have hJ := InsW.new w w3 0 0 0 0 0 23 hI.below hI.le; (try clear c0 c1 c2 c3 c4 c5))
        | (go_at_call 12; ((with_reducible refine (codeAwake_is _ (HL.out.below hJ.below HL.out.lt)).mono ?_); rintro e w6 ⟨rfl, hk⟩); have hJ := hJ.keep hk))
      go_ret
      exact ⟨rfl, hJ.below⟩
  · have k1' : (z == 0) = false := by simpa using k1
    clear D k1
    by_cases k2 : z' = 0
    · obtain ⟨s0, s1⟩ := E k2
      subst k2
      have S0 := Lib.hid s0
      have S1 := Lib.hid s1
      clear s0 s1 E N hz hx ho hd ha hb hn hz'
      go_enter Tryd.func4, Tryd.ntmps4
      go_wp2_with (first
        | (go_at_call 6; ((with_reducible refine (codeEncode_is o d a b n x z _ (HL.out.below (HI.out _).below HL.out.lt) HZ.out HX.out).mono ?_); rintro e w1 ⟨rfl, hk⟩); have hI := (HI.out _).keep hk)
        | (go_at_call 8; ((with_reducible refine (codeDecode_to (v := v) GO.out GD.out GA.out GB.out GN.out GZ.out (HL.out.below hI.below HL.out.lt) v0 v1).mono ?_); rintro e w3 ⟨rfl, hk⟩); have hI := hI.keep hk; have hJ := InsW.new w w3 o' d' a' b' n' 23 hI.below hI.le; (try clear c0 c1 c2 c3 c4 c5))
        | (go_at_call 6; ((with_reducible refine (codeEncode_is o' d' a' b' n' v 0 _ (HL.out.below hJ.below HL.out.lt) S0.out S1.out).mono ?_); rintro e w4 ⟨rfl, hk⟩); have hJ := hJ.keep hk; have c0 := hJ.c0; have c1 := hJ.c1; have c2 := hJ.c2; have c3 := hJ.c3; have c4 := hJ.c4)
        | (go_at_call 10; ((with_reducible refine (codeCheckI_is o' d' a' b' n' 0 _ (HL.out.below hJ.below HL.out.lt) S0.out).mono ?_); rintro e w5 ⟨rfl, hk⟩); have hJ := hJ.keep hk)
        | (go_at_call 12; ((with_reducible refine (codeAwake_is _ (HL.out.below hJ.below HL.out.lt)).mono ?_); rintro e w6 ⟨rfl, hk⟩); have hJ := hJ.keep hk))
      go_ret
      exact ⟨rfl, hJ.below⟩
    · obtain ⟨s0, s1⟩ := N k2
      have q0 := (s1 0).symm.trans hd
      have q1 := (s1 1).symm.trans ha
      have q2 := (s1 2).symm.trans hb
      have q3 := (s1 3).symm.trans hn
      subst s0 q0 q1 q2 q3
      have k2' : (z' != 0) = true := by simpa using k2
      clear E N k2 s1 hz hx ho hd ha hb hn hz'
      go_enter Tryd.func4, Tryd.ntmps4
      go_wp2_with (first
        | (go_at_call 6; ((with_reducible refine (codeEncode_is o d a b n x z _ (HL.out.below (HI.out _).below HL.out.lt) HZ.out HX.out).mono ?_); rintro e w1 ⟨rfl, hk⟩); have hI := (HI.out _).keep hk)
        | (go_at_call 8; ((with_reducible refine (codeDecode_to (v := v) GO.out GD.out GA.out GB.out GN.out GZ.out (HL.out.below hI.below HL.out.lt) v0 v1).mono ?_); rintro e w3 ⟨rfl, hk⟩); have hI := hI.keep hk; have hJ := InsW.new w w3 0 0 0 0 0 23 hI.below hI.le; (try clear c0 c1 c2 c3 c4 c5))
        | (go_at_call 12; ((with_reducible refine (codeAwake_is _ (HL.out.below hJ.below HL.out.lt)).mono ?_); rintro e w6 ⟨rfl, hk⟩); have hJ := hJ.keep hk))
      go_ret
      exact ⟨rfl, hJ.below⟩
theorem walk (a0_0 a0_1 a0_2 a0_3 a0_4 a1 : Int) (_ : (Lit.int .i64 a0_0).wf = true) (_ : (Lit.int .i64 a0_1).wf = true) (_ : (Lit.int .i64 a0_2).wf = true) (_ : (Lit.int .i64 a0_3).wf = true) (_ : (Lit.int .i64 a0_4).wf = true) (w1 : (Lit.int .u32 a1).wf = true) (w : World) (hL : ShapesLaid w) :
    Calls Tryd.prog 4 #[.agg #[.int .i64 a0_0, .int .i64 a0_1, .int .i64 a0_2, .int .i64 a0_3, .int .i64 a0_4], .int .u32 a1] w fun e w' => e = .returned (.bool true) ∧ Below w.heap.size w w' := by
  obtain ⟨b3, b4⟩ : 0 ≤ a1 ∧ a1 < 4294967296 := by
    simp [Lit.wf, IntKind.min, IntKind.max, IntKind.bits, IntKind.signed] at w1
    omega
  exact within _ _ _ _ _ _ w b3 b4 hL
end Go.Proofs.YtbgeiobffpfgoaaDoor.codeBack
