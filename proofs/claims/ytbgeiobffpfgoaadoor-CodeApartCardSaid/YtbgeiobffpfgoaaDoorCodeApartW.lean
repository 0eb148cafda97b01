/- The walk of the law CodeApart: it returns true and writes nothing that was there. -/
import Derived.Test.YtbgeiobffpfgoaaDoorCodK
namespace Go.Proofs.YtbgeiobffpfgoaaDoor.codeApart
open Go.RowKit Go.ChangeShapes Go.OpenShut

theorem apart {o d a b n o' d' a' b' n' : Int} (h : cChk o d a b n = 0) (h' : cChk o' d' a' b' n' = 0) (he : cEnc o d a b n = cEnc o' d' a' b' n') : o = o' ∧ d = d' ∧ a = a' ∧ b = b' ∧ n = n' := by
  have e : cEnc o d a b n = cWord o d a b n := by unfold cEnc; rw [if_pos h]
  have e' : cEnc o' d' a' b' n' = cWord o' d' a' b' n' := by unfold cEnc; rw [if_pos h']
  obtain ⟨_, h1, h2, h3, h4, h5⟩ := word_back h
  obtain ⟨_, g1, g2, g3, g4, g5⟩ := word_back h'
  rw [e, e'] at he
  rw [he] at h1 h2 h3 h4 h5
  exact ⟨h5.symm.trans g5, h1.symm.trans g1, h2.symm.trans g2, h3.symm.trans g3, h4.symm.trans g4⟩
theorem none_0 {o d a b n : Int} (h : cChk o d a b n ≠ 0) : cEnc o d a b n = 0 := by unfold cEnc; rw [if_neg h]

set_option maxHeartbeats 4000000 in
theorem within (o d a b n o' d' a' b' n' : Int) (w : World) (hL : ShapesLaid w) :
    Calls Tryd.prog 5 #[.agg #[.int .i64 o, .int .i64 d, .int .i64 a, .int .i64 b, .int .i64 n], .agg #[.int .i64 o', .int .i64 d', .int .i64 a', .int .i64 b', .int .i64 n']] w fun e w' => e = .returned (.bool true) ∧ Below w.heap.size w w' := by
  have HI := Lib.hid (fun T (x : Obj) => (InsW.new w w o d a b n T (Below.refl _ _) (Nat.le_refl _)).alloc x)
  have HJ := Lib.hid (show ∀ T, InsW w (w.heap.size + 1) o' d' a' b' n' ((w.alloc (.cells #[.int .i64 o, .int .i64 d, .int .i64 a, .int .i64 b, .int .i64 n] T)).alloc (.cells #[.int .i64 o', .int .i64 d', .int .i64 a', .int .i64 b', .int .i64 n'] T)) from fun T => by
    have h := InsW.new w (w.alloc (.cells #[.int .i64 o, .int .i64 d, .int .i64 a, .int .i64 b, .int .i64 n] T)) o' d' a' b' n' T ((Below.refl _ _).alloc (Nat.le_refl _) _) (by simp)
    rw [show (w.alloc (.cells #[.int .i64 o, .int .i64 d, .int .i64 a, .int .i64 b, .int .i64 n] T)).heap.size = w.heap.size + 1 by simp] at h
    exact h)
  have HL := Lib.hid hL
  have hq := eq_ins
  have A := @apart o d a b n o' d' a' b' n'
  have N := @none_0 o d a b n
  obtain ⟨z, hz⟩ : ∃ z, cChk o d a b n = z := ⟨_, rfl⟩
  obtain ⟨x, hx⟩ : ∃ x, cEnc o d a b n = x := ⟨_, rfl⟩
  obtain ⟨z', hz'⟩ : ∃ z, cChk o' d' a' b' n' = z := ⟨_, rfl⟩
  obtain ⟨x', hx'⟩ : ∃ x, cEnc o' d' a' b' n' = x := ⟨_, rfl⟩
  rw [hz, hz', hx, hx'] at A
  rw [hz, hx] at N
  have HZ := Lib.hid hz
  have HX := Lib.hid hx
  have HZ' := Lib.hid hz'
  have HX' := Lib.hid hx'
  clear hL
  by_cases k1 : z = 0
  · subst k1
    clear N
    by_cases k2 : z' = 0
    · subst k2
      have A2 := A rfl rfl
      by_cases k3 : x = x'
      · obtain ⟨rfl, rfl, rfl, rfl, rfl⟩ := A2 k3
        have k4 : (x == x') = true := by simpa using k3
        clear A A2 k3 hz hx hz' hx'
        go_enter Tryd.func5, Tryd.ntmps5
        go_wp2_with (first
          | (go_at_call 6; ((with_reducible refine (codeEncode_is o d a b n _ _ _ (HL.out.below (HJ.out _).below HL.out.lt) HZ.out HX.out).mono ?_); rintro e w1 ⟨rfl, hk⟩); have hI := (HI.out _ _).keep hk; have hJ := (HJ.out _).keep hk; have g0 := hJ.c0; have g1 := hJ.c1; have g2 := hJ.c2; have g3 := hJ.c3; have g4 := hJ.c4)
          | (go_at_call 6; ((with_reducible refine (codeEncode_is _ _ _ _ _ _ _ _ (HL.out.below hJ.below HL.out.lt) HZ'.out HX'.out).mono ?_); rintro e w2 ⟨rfl, hk⟩); have hI := hI.keep hk; have hJ := hJ.keep hk; clear g0 g1 g2 g3 g4; have c0 := hI.c0; have c1 := hI.c1; have c2 := hI.c2; have c3 := hI.c3; have c4 := hI.c4; have g0 := hJ.c0; have g1 := hJ.c1; have g2 := hJ.c2; have g3 := hJ.c3; have g4 := hJ.c4)
          | (go_at_call 12; ((with_reducible refine (codeAwake_is _ (HL.out.below hJ.below HL.out.lt)).mono ?_); rintro e w3 ⟨rfl, hk⟩); have hJ := hJ.keep hk))
        go_ret
        exact ⟨rfl, hJ.below⟩
      · have k4 : (x == x') = false := by simpa using k3
        have k5 : (o == o' && (d == d' && (a == a' && (b == b' && n == n')))) = false := by
          rw [Bool.eq_false_iff]
          intro h
          simp only [Bool.and_eq_true, beq_iff_eq] at h
          obtain ⟨rfl, rfl, rfl, rfl, rfl⟩ := h
          exact k3 (hx.symm.trans hx')
        have hq1 : ∀ w : World, Sem.run Tryd.prog (Op.equalIn 10000 23 (.agg #[.int .i64 o, .int .i64 d, .int .i64 a, .int .i64 b, .int .i64 n]) (.agg #[.int .i64 o', .int .i64 d', .int .i64 a', .int .i64 b', .int .i64 n'])) w = .ok false w := fun w => by rw [hq, k5]
        clear A A2 k3 k5 hq hz hx hz' hx'
        go_enter Tryd.func5, Tryd.ntmps5
        go_wp2_with (first
          | (go_at_call 6; ((with_reducible refine (codeEncode_is o d a b n _ _ _ (HL.out.below (HJ.out _).below HL.out.lt) HZ.out HX.out).mono ?_); rintro e w1 ⟨rfl, hk⟩); have hI := (HI.out _ _).keep hk; have hJ := (HJ.out _).keep hk; have g0 := hJ.c0; have g1 := hJ.c1; have g2 := hJ.c2; have g3 := hJ.c3; have g4 := hJ.c4)
          | (go_at_call 6; ((with_reducible refine (codeEncode_is _ _ _ _ _ _ _ _ (HL.out.below hJ.below HL.out.lt) HZ'.out HX'.out).mono ?_); rintro e w2 ⟨rfl, hk⟩); have hI := hI.keep hk; have hJ := hJ.keep hk; clear g0 g1 g2 g3 g4; have c0 := hI.c0; have c1 := hI.c1; have c2 := hI.c2; have c3 := hI.c3; have c4 := hI.c4; have g0 := hJ.c0; have g1 := hJ.c1; have g2 := hJ.c2; have g3 := hJ.c3; have g4 := hJ.c4)
          | (go_at_call 12; ((with_reducible refine (codeAwake_is _ (HL.out.below hJ.below HL.out.lt)).mono ?_); rintro e w3 ⟨rfl, hk⟩); have hJ := hJ.keep hk))
        go_ret
        exact ⟨rfl, hJ.below⟩
    · have k2' : (z' != 0) = true := by simpa using k2
      clear A k2 hz hx hz' hx'
      go_enter Tryd.func5, Tryd.ntmps5
      go_wp2_with (first
        | (go_at_call 6; ((with_reducible refine (codeEncode_is o d a b n _ _ _ (HL.out.below (HJ.out _).below HL.out.lt) HZ.out HX.out).mono ?_); rintro e w1 ⟨rfl, hk⟩); have hI := (HI.out _ _).keep hk; have hJ := (HJ.out _).keep hk; have g0 := hJ.c0; have g1 := hJ.c1; have g2 := hJ.c2; have g3 := hJ.c3; have g4 := hJ.c4)
        | (go_at_call 6; ((with_reducible refine (codeEncode_is _ _ _ _ _ _ _ _ (HL.out.below hJ.below HL.out.lt) HZ'.out HX'.out).mono ?_); rintro e w2 ⟨rfl, hk⟩); have hI := hI.keep hk; have hJ := hJ.keep hk; clear g0 g1 g2 g3 g4; have c0 := hI.c0; have c1 := hI.c1; have c2 := hI.c2; have c3 := hI.c3; have c4 := hI.c4; have g0 := hJ.c0; have g1 := hJ.c1; have g2 := hJ.c2; have g3 := hJ.c3; have g4 := hJ.c4)
        | (go_at_call 12; ((with_reducible refine (codeAwake_is _ (HL.out.below hJ.below HL.out.lt)).mono ?_); rintro e w3 ⟨rfl, hk⟩); have hJ := hJ.keep hk))
      go_ret
      exact ⟨rfl, hJ.below⟩
  · have k1' : (z != 0) = true := by simpa using k1
    have k1'' : (z == 0) = false := by simpa using k1
    obtain rfl := N k1
    clear A N k1 hz hx hz' hx'
    go_enter Tryd.func5, Tryd.ntmps5
    go_wp2_with (first
      | (go_at_call 6; ((with_reducible refine (codeEncode_is o d a b n _ _ _ (HL.out.below (HJ.out _).below HL.out.lt) HZ.out HX.out).mono ?_); rintro e w1 ⟨rfl, hk⟩); have hI := (HI.out _ _).keep hk; have hJ := (HJ.out _).keep hk; have g0 := hJ.c0; have g1 := hJ.c1; have g2 := hJ.c2; have g3 := hJ.c3; have g4 := hJ.c4)
      | (go_at_call 6; ((with_reducible refine (codeEncode_is _ _ _ _ _ _ _ _ (HL.out.below hJ.below HL.out.lt) HZ'.out HX'.out).mono ?_); rintro e w2 ⟨rfl, hk⟩); have hI := hI.keep hk; have hJ := hJ.keep hk; clear g0 g1 g2 g3 g4; have c0 := hI.c0; have c1 := hI.c1; have c2 := hI.c2; have c3 := hI.c3; have c4 := hI.c4; have g0 := hJ.c0; have g1 := hJ.c1; have g2 := hJ.c2; have g3 := hJ.c3; have g4 := hJ.c4)
      | (go_at_call 12; ((with_reducible refine (codeAwake_is _ (HL.out.below hJ.below HL.out.lt)).mono ?_); rintro e w3 ⟨rfl, hk⟩); have hJ := hJ.keep hk))
    go_ret
    exact ⟨rfl, hJ.below⟩
theorem walk (a0_0 a0_1 a0_2 a0_3 a0_4 a1_0 a1_1 a1_2 a1_3 a1_4 : Int) (_ : (Lit.int .i64 a0_0).wf = true) (_ : (Lit.int .i64 a0_1).wf = true) (_ : (Lit.int .i64 a0_2).wf = true) (_ : (Lit.int .i64 a0_3).wf = true) (_ : (Lit.int .i64 a0_4).wf = true)
    (_ : (Lit.int .i64 a1_0).wf = true) (_ : (Lit.int .i64 a1_1).wf = true) (_ : (Lit.int .i64 a1_2).wf = true) (_ : (Lit.int .i64 a1_3).wf = true) (_ : (Lit.int .i64 a1_4).wf = true) (w : World) (hL : ShapesLaid w) :
    Calls Tryd.prog 5 #[.agg #[.int .i64 a0_0, .int .i64 a0_1, .int .i64 a0_2, .int .i64 a0_3, .int .i64 a0_4], .agg #[.int .i64 a1_0, .int .i64 a1_1, .int .i64 a1_2, .int .i64 a1_3, .int .i64 a1_4]] w fun e w' => e = .returned (.bool true) ∧ Below w.heap.size w w' :=
  within _ _ _ _ _ _ _ _ _ _ w hL
end Go.Proofs.YtbgeiobffpfgoaaDoor.codeApart
