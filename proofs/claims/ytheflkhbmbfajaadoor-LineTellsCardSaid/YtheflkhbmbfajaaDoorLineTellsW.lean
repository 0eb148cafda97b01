/- The walk of the law LineTells: it returns true and writes nothing that was there. -/
import Derived.Test.YtheflkhbmbfajaaDoorLinK
import Derived.Test.YtheflkhbmbfajaaDoorLinQ
namespace Go.Proofs.YtheflkhbmbfajaaDoor.lineTells
open Go.RowKit Go.ChangeShapes Go.OpenShut

theorem refParse_to {l : List UInt8} {s : ByteArray} {o d a b n z : Int} {w : World} (hs : s = txt l) (hl : l.length ≤ 1000) (ho : pO (wds l) = o) (hd : pF (wds l) 0 = d) (ha : pF (wds l) 1 = a) (hb : pF (wds l) 2 = b) (hn : pF (wds l) 3 = n) (hz : pErr (wds l) = z) :
    Calls Tryd.prog 10 #[.string s] w fun e w' => e = .returned (.tuple #[.agg #[.int .i64 o, .int .i64 d, .int .i64 a, .int .i64 b, .int .i64 n], .int .i64 z]) ∧ Below w.heap.size w w' := by
  subst ho hd ha hb hn hz hs
  exact (refParse_is l w hl).mono fun _ _ h => h
theorem words_a (s : ByteArray) (n : Nat) (w : World) (hs : s.size ≤ 4294967296) (hn : (wtx s).length = n) :
    Calls Tryd.prog 14 #[.string s] w fun e w' => ∃ p c, e = .returned (.slice p n c) ∧ StrsAt w' p n c (wtx s) ∧ Below w.heap.size w w' := by
  subst hn
  refine (lineWords_is s w hs).mono ?_
  rintro e w' ⟨A, rfl, _, ho, hb⟩
  obtain ⟨p, c, hv, hst⟩ := StrsAt.of_own ho
  exact ⟨p, c, by rw [← hv], hst, hb⟩
theorem words_b (s : ByteArray) (n : Nat) (w : World) (hs : s.size ≤ 1000) (hn : (wtx s).length = n) :
    Calls Tryd.prog 15 #[.string s] w fun e w' => ∃ p c, e = .returned (.slice p n c) ∧ StrsAt w' p n c (wtx s) ∧ Below w.heap.size w w' := by
  subst hn
  refine (refWords_is s w hs).mono ?_
  rintro e w' ⟨v, rfl, ho, hb⟩
  obtain ⟨p, c, rfl, hst⟩ := StrsAt.of_own ho
  exact ⟨p, c, rfl, hst, hb⟩
set_option maxRecDepth 100000 in
set_option maxHeartbeats 8000000 in
theorem within (o d a b n : Int) (s : ByteArray) (w : World) (hs : s.size ≤ maxLen) (hL : LinLaid w) :
    Calls Tryd.prog 3 #[.agg #[.int .i64 o, .int .i64 d, .int .i64 a, .int .i64 b, .int .i64 n], .string s] w fun e w' => e = .returned (.bool true) ∧ Below w.heap.size w w' := by
  have HI := Lib.hid (fun T => InsW.new w w o d a b n T (Below.refl _ _) (Nat.le_refl _))
  have HL := Lib.hid hL
  unfold maxLen at hs
  clear hL
  by_cases hbig : 300 < s.size
  · go_enter Tryd.func3, Tryd.ntmps3
    go_wp2_with (go_at_call 6; ((with_reducible refine (lineAwake_is _ (HL.out.below (HI.out _).below (Nat.le_refl _))).mono ?_); rintro e w1 ⟨rfl, hk⟩); have hI := (HI.out _).keep hk; clear hk)
    go_ret
    exact ⟨rfl, hI.below⟩
  · have hsm : s.size ≤ 300 := by omega
    have HSM := Lib.hid hsm
    have HSL := Lib.hid (show s.data.toList.length ≤ 300 by have := Lib.size_eq s; omega)
    have HS := Lib.hid (txt_of s).symm
    clear hbig hs
    have hq := eq_ins
    obtain ⟨z, hz⟩ : ∃ y, cChk o d a b n = y := ⟨_, rfl⟩
    obtain ⟨t, ht⟩ : ∃ y, lineT o d a b n = y := ⟨_, rfl⟩
    obtain ⟨o', ho⟩ : ∃ y, pO (wds s.data.toList) = y := ⟨_, rfl⟩
    obtain ⟨d', hd⟩ : ∃ y, pF (wds s.data.toList) 0 = y := ⟨_, rfl⟩
    obtain ⟨a', ha⟩ : ∃ y, pF (wds s.data.toList) 1 = y := ⟨_, rfl⟩
    obtain ⟨b', hb⟩ : ∃ y, pF (wds s.data.toList) 2 = y := ⟨_, rfl⟩
    obtain ⟨n', hn⟩ : ∃ y, pF (wds s.data.toList) 3 = y := ⟨_, rfl⟩
    obtain ⟨z', hz'⟩ : ∃ y, pErr (wds s.data.toList) = y := ⟨_, rfl⟩
    obtain ⟨v, hv⟩ : ∃ y, numV s.data.toList = y := ⟨_, rfl⟩
    obtain ⟨k, hk⟩ : ∃ y, numOk s.data.toList = y := ⟨_, rfl⟩
    obtain ⟨m, hm⟩ : ∃ y, (wtx s).length = y := ⟨_, rfl⟩
    have HZ := Lib.hid hz
    have HT := Lib.hid ht
    have GO := Lib.hid ho
    have GD := Lib.hid hd
    have GA := Lib.hid ha
    have GB := Lib.hid hb
    have GN := Lib.hid hn
    have GZ := Lib.hid hz'
    have HV := Lib.hid hv
    have HK := Lib.hid hk
    have HM := Lib.hid hm
    have RN := Lib.hid (fun W => (refNumber_is s W (by omega)))
    rw [hv, hk] at RN
    clear hz ht ho hd ha hb hn hz' hv hk hm
    go_enter Tryd.func3, Tryd.ntmps3
    go_wp2_with (first
      | (go_at_call 7; ((with_reducible refine (lineText_is o d a b n z t _ HZ.out HT.out (HL.out.below (HI.out _).below (Nat.le_refl _))).mono ?_); rintro e w1 ⟨rfl, hk⟩); have hI := (HI.out _).keep hk; have c0 := hI.c0; have c1 := hI.c1; have c2 := hI.c2; have c3 := hI.c3; have c4 := hI.c4; clear hk)
      | (go_at_call 8; ((with_reducible refine (refText_is o d a b n z t _ HZ.out HT.out).mono ?_); rintro e w2 ⟨rfl, hk⟩); have hI := hI.keep hk; clear hk c0 c1 c2 c3 c4)
      | (go_at_call 9; ((with_reducible refine (lineParse_to (l := s.data.toList) HS.out (by have := HSL.out; omega) GO.out GD.out GA.out GB.out GN.out GZ.out (HL.out.below hI.below (Nat.le_refl _))).mono ?_); rintro e w3 ⟨rfl, hk⟩); have hI := hI.keep hk; have hJ := InsW.new w w3 o' d' a' b' n' 23 hI.below hI.le; have hI := hI.alloc (.cells #[.int .i64 o', .int .i64 d', .int .i64 a', .int .i64 b', .int .i64 n'] 23); clear hk)
      | (go_at_call 10; ((with_reducible refine (refParse_to (l := s.data.toList) HS.out (by have := HSL.out; omega) GO.out GD.out GA.out GB.out GN.out GZ.out).mono ?_); rintro e w4 ⟨rfl, hk⟩); have hI := hI.keep hk; have hJ := hJ.keep hk; have hK := InsW.new w w4 o' d' a' b' n' 23 hI.below hI.le; have hJ := hJ.alloc (.cells #[.int .i64 o', .int .i64 d', .int .i64 a', .int .i64 b', .int .i64 n'] 23); clear hk hI)
      | (go_at_call 11; ((with_reducible refine (lineNumber_to (l := s.data.toList) HS.out (by have := HSL.out; omega) HV.out HK.out (HL.out.below hK.below (Nat.le_refl _))).mono ?_); rintro e w5 ⟨rfl, hk⟩); have hJ := hJ.keep hk; have hK := hK.keep hk; clear hk; have y0 := hJ.c0; have y1 := hJ.c1; have y2 := hJ.c2; have y3 := hJ.c3; have y4 := hJ.c4; have v0 := hK.c0; have v1 := hK.c1; have v2 := hK.c2; have v3 := hK.c3; have v4 := hK.c4)
      | (go_at_call 12; ((with_reducible refine (RN.out _).mono ?_); rintro e w6 ⟨rfl, rfl⟩))
      | (go_at_call 14; ((with_reducible refine (words_a s m _ (by have := HSM.out; omega) HM.out).mono ?_); rintro e w7 ⟨p, c, rfl, hst, hk⟩); have hK := hK.keep hk; have SA := Lib.hid hst; clear hk hst)
      | (go_at_call 15; ((with_reducible refine (words_b s m _ (by have := HSM.out; omega) HM.out).mono ?_); rintro e w8 ⟨q, c', rfl, hst, hk⟩); have hK := hK.keep hk; have SB := Lib.hid hst; have SA2 := Lib.hid (SA.out.keep hk); clear hk hst)
      | (go_at_call 13; ((with_reducible refine (refTexts_is p q m c c' _ _ SA2.out SB.out).mono ?_); rintro e w9 ⟨rfl, hk⟩); have hK := hK.keep hk; clear hk)
      | (go_at_call 6; ((with_reducible refine (lineAwake_is _ (HL.out.below hK.below (Nat.le_refl _))).mono ?_); rintro e wx ⟨rfl, hk⟩); have hK := hK.keep hk; clear hk))
    go_ret
    exact ⟨rfl, hK.below⟩
theorem walk (a0_0 a0_1 a0_2 a0_3 a0_4 : Int) (s1 : ByteArray) (_ : (Lit.int .i64 a0_0).wf = true) (_ : (Lit.int .i64 a0_1).wf = true) (_ : (Lit.int .i64 a0_2).wf = true) (_ : (Lit.int .i64 a0_3).wf = true) (_ : (Lit.int .i64 a0_4).wf = true) (ws1 : s1.size ≤ maxLen) (w : World) (hL : LinLaid w) :
    Calls Tryd.prog 3 #[.agg #[.int .i64 a0_0, .int .i64 a0_1, .int .i64 a0_2, .int .i64 a0_3, .int .i64 a0_4], .string s1] w fun e w' => e = .returned (.bool true) ∧ Below w.heap.size w w' :=
  within _ _ _ _ _ s1 w ws1 hL
end Go.Proofs.YtheflkhbmbfajaaDoor.lineTells
