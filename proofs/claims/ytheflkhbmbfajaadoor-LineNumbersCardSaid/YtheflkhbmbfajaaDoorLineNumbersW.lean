/- The walk of the law LineNumbers: it returns true and writes nothing that was there. -/
import Derived.Test.YtheflkhbmbfajaaDoorLinK
import Derived.Test.YtheflkhbmbfajaaDoorLinR
namespace Go.Proofs.YtheflkhbmbfajaaDoor.lineNumbers
open Go.RowKit Go.ChangeShapes Go.OpenShut

set_option maxRecDepth 100000 in
set_option maxHeartbeats 2000000 in
theorem within (n : Int) (s : ByteArray) (w : World) (n0 : -9223372036854775808 ≤ n) (n1 : n ≤ 9223372036854775807) (hs : s.size ≤ maxLen) (hL : LinLaid w) :
    Calls Tryd.prog 5 #[.int .i64 n, .string s] w fun e w' => e = .returned (.bool true) ∧ Below w.heap.size w w' := by
  have HL := Lib.hid hL
  unfold maxLen at hs
  clear hL
  by_cases h1 : n < -999999999
  · go_enter Tryd.func5, Tryd.ntmps5
    go_wp2_with (go_at_call 6; ((with_reducible refine (lineAwake_is _ HL.out).mono ?_); rintro e w1 ⟨rfl, hb⟩))
    go_ret
    exact ⟨rfl, hb⟩
  · by_cases h2 : 999999999 < n
    · go_enter Tryd.func5, Tryd.ntmps5
      go_wp2_with (go_at_call 6; ((with_reducible refine (lineAwake_is _ HL.out).mono ?_); rintro e w1 ⟨rfl, hb⟩))
      go_ret
      exact ⟨rfl, hb⟩
    · by_cases h3 : 100 < s.size
      · go_enter Tryd.func5, Tryd.ntmps5
        go_wp2_with (go_at_call 6; ((with_reducible refine (lineAwake_is _ HL.out).mono ?_); rintro e w1 ⟨rfl, hb⟩))
        go_ret
        exact ⟨rfl, hb⟩
      · have h1' : -999999999 ≤ n := by omega
        have h2' : n ≤ 999999999 := by omega
        have h3' : s.size ≤ 100 := by omega
        have hd := num_dec h1' h2'
        have HD := Lib.hid hd
        have HB0 := Lib.hid (Below.refl w.heap.size w)
        have hdl := decL_length (n := n) (by omega) (by omega)
        have HS := Lib.hid (txt_of s).symm
        have HSL := Lib.hid (show s.data.toList.length ≤ 281474976710656 by have := Lib.size_eq s; omega)
        clear h1 h2 h3 hs hd
        cases hok : numOk s.data.toList
        · have HV := Lib.hid (num_no hok)
          have HOK := Lib.hid hok
          clear hok
          go_enter Tryd.func5, Tryd.ntmps5
          go_wp2_with (first
            | (go_at_call 16; ((with_reducible refine (refDigits_is n _ (by omega) (by omega)).mono ?_); rintro e w1 ⟨rfl, rfl⟩))
            | (go_at_call 11; ((with_reducible refine (lineNumber_to (l := decL n) rfl (by omega) HD.out.2 HD.out.1 HL.out).mono ?_); rintro e w2 ⟨rfl, hb⟩); have HB := Lib.hid hb; clear hb)
            | (go_at_call 11; ((with_reducible refine (lineNumber_to (l := s.data.toList) HS.out HSL.out HV.out HOK.out (HL.out.below HB.out (Nat.le_refl _))).mono ?_); rintro e w3 ⟨rfl, hb⟩); have HB2 := Lib.hid (HB.out.trans (hb.mono HB.out.size)); clear hb)
            | (go_at_call 6; ((with_reducible refine (lineAwake_is _ (HL.out.below HB2.out (Nat.le_refl _))).mono ?_); rintro e w4 ⟨rfl, hb⟩); have HB3 := Lib.hid (HB2.out.trans (hb.mono HB2.out.size)); clear hb))
          go_ret
          exact ⟨rfl, HB3.out⟩
        · obtain ⟨v0, v1, hv⟩ := num_only hok
          have hsame : ((txt (decL (numV s.data.toList))).toList == s.toList) = true := str_same (by rw [hv, txt_of])
          obtain ⟨v, hv'⟩ : ∃ v, numV s.data.toList = v := ⟨_, rfl⟩
          rw [hv'] at v0 v1 hsame
          have HV := Lib.hid hv'
          have HOK := Lib.hid hok
          clear hok hv hv'
          go_enter Tryd.func5, Tryd.ntmps5
          go_wp2_with (first
            | (go_at_call 11; ((with_reducible refine (lineNumber_to (l := decL n) rfl (by omega) HD.out.2 HD.out.1 HL.out).mono ?_); rintro e w2 ⟨rfl, hb⟩); have HB := Lib.hid hb; clear hb)
            | (go_at_call 11; ((with_reducible refine (lineNumber_to (l := s.data.toList) HS.out HSL.out HV.out HOK.out (HL.out.below HB.out (Nat.le_refl _))).mono ?_); rintro e w3 ⟨rfl, hb⟩); have HB2 := Lib.hid (HB.out.trans (hb.mono HB.out.size)); clear hb)
            | (go_at_call 16; ((with_reducible refine (refDigits_is n _ (by omega) (by omega)).mono ?_); rintro e w1 ⟨rfl, rfl⟩))
            | (go_at_call 16; ((with_reducible refine (refDigits_is v _ (by omega) (by omega)).mono ?_); rintro e w1 ⟨rfl, rfl⟩))
            | (go_at_call 6; ((with_reducible refine (lineAwake_is _ (HL.out.below HB2.out (Nat.le_refl _))).mono ?_); rintro e w4 ⟨rfl, hb⟩); have HB3 := Lib.hid (HB2.out.trans (hb.mono HB2.out.size)); clear hb))
          go_ret
          exact ⟨rfl, HB3.out⟩
theorem walk (a0 : Int) (s1 : ByteArray) (w0 : (Lit.int .i64 a0).wf = true) (ws1 : s1.size ≤ maxLen) (w : World) (hL : LinLaid w) :
    Calls Tryd.prog 5 #[.int .i64 a0, .string s1] w fun e w' => e = .returned (.bool true) ∧ Below w.heap.size w w' := by
  obtain ⟨b0, b1⟩ : -9223372036854775808 ≤ a0 ∧ a0 ≤ 9223372036854775807 := by
    simp [Lit.wf, IntKind.min, IntKind.max, IntKind.bits, IntKind.signed] at w0
    omega
  exact within a0 s1 w b0 b1 ws1 hL
end Go.Proofs.YtheflkhbmbfajaaDoor.lineNumbers
