/- What the document's own Digits and Number answer: a number's decimal, a decimal's number. No conditions. -/
import Derived.Test.YtheflkhbmbfajaaDoorLinW
import Derived.Test.YtheflkhbmbfajaaDoorStr
import Derived.WalkKit
import Derived.IntWalk
import Derived.Handy
import Derived.Test.YtheflkhbmbfajaaDoorProg
namespace Go.Proofs.YtheflkhbmbfajaaDoor
open Go.RowKit

theorem digit_one : ∀ k : Fin 10, (⟨#[48, 49, 50, 51, 52, 53, 54, 55, 56, 57]⟩ : ByteArray).extract k.val (k.val + 1) = txt [UInt8.ofNat (48 + k.val)] := by decide +kernel
set_option maxRecDepth 100000 in
set_option maxHeartbeats 1000000 in
theorem refDigits_pos : ∀ (k : Nat) (n : Int) (w : World), 0 ≤ n → n < 10 ^ (k + 1) → k < 10 →
    Calls Tryd.prog 16 #[.int .i64 n] w fun e w' => e = .returned (.string (txt (decL n))) ∧ w = w'
  | 0, n, w, h0, h1, _ => by
    have h1' : n < 10 := by simpa using h1
    clear h1
    have HE := Lib.hid (show (⟨#[48, 49, 50, 51, 52, 53, 54, 55, 56, 57]⟩ : ByteArray).extract n.toNat (n + 1).toNat = txt (decL n) by rw [decL_one h0 h1', show (n + 1).toNat = n.toNat + 1 by omega]; exact digit_one ⟨n.toNat, by omega⟩)
    have hsl : ∀ w, (Instr.slice 9 (.string ⟨#[48, 49, 50, 51, 52, 53, 54, 55, 56, 57]⟩) (some (.int .i64 n)) (some (.int .i64 (n + 1))) none).run Tryd.prog w = .ok (.string (txt (decL n))) w := fun w => by
      rw [run_slice_string (w := w) (h := Tryd.underlying9) (h0 := h0) (h1 := by omega) (h2 := by show n + 1 ≤ (10 : Int); omega), HE.out]
    go_enter Tryd.func16, Tryd.ntmps16
    go_wp2_with fail
    go_ret
    exact ⟨rfl, rfl⟩
  | k + 1, n, w, h0, h1, hk => by
    by_cases hn : n < 10
    · exact refDigits_pos 0 n w h0 (by simpa using hn) (by omega)
    · have hbd : n ≤ 9999999999 := by
        have : (10 : Int) ^ (k + 1 + 1) ≤ 10 ^ 10 := by exact_mod_cast Nat.pow_le_pow_right (by decide) (by omega)
        omega
      have h2 : n / 10 < 10 ^ (k + 1) := by rw [Int.pow_succ] at h1; omega
      have HM := Lib.hid (decL_more (n := n) (by omega) (by omega))
      have hsz : ¬ (9223372036854775807 < (txt (decL (n / 10))).size + (txt (decL (n % 10))).size) := by
        rw [txt_size, txt_size]
        have e1 := decL_length (n := n / 10) (by omega) (by omega)
        have e2 := decL_length (n := n % 10) (by omega) (by omega)
        omega
      have hcat : txt (decL (n / 10)) ++ txt (decL (n % 10)) = txt (decL n) := by
        apply str_ext
        rw [HM.out, txt_list, ByteArray.data_append]
        simp [txt]
      have H1 := Lib.hid (fun w => refDigits_pos k (n / 10) w (by omega) h2 (by omega))
      have H2 := Lib.hid (fun w => refDigits_pos 0 (n % 10) w (by omega) (by simp; omega) (by omega))
      clear h1 h2
      have hn' : 10 ≤ n := by omega
      go_enter Tryd.func16, Tryd.ntmps16
      go_wp2_with (first
        | (go_at_call 16; ((with_reducible refine (H1.out _).mono ?_); rintro e w1 ⟨rfl, rfl⟩))
        | (go_at_call 16; ((with_reducible refine (H2.out _).mono ?_); rintro e w1 ⟨rfl, rfl⟩)))
      go_ret
      exact ⟨rfl, rfl⟩
set_option maxRecDepth 100000 in
set_option maxHeartbeats 1000000 in
theorem refDigits_is (n : Int) (w : World) (h0 : -9999999999 < n) (h1 : n < 9999999999) :
    Calls Tryd.prog 16 #[.int .i64 n] w fun e w' => e = .returned (.string (txt (decL n))) ∧ w = w' := by
  by_cases hn : n < 0
  · have hsz : ¬ (9223372036854775807 < 1 + (txt (decL (-n))).size) := by
      rw [txt_size]
      have e1 := decL_length (n := -n) (by omega) (by omega)
      omega
    have hcat : ({ data := #[45] } : ByteArray) ++ txt (decL (-n)) = txt (decL n) := by
      apply str_ext
      rw [decL_neg hn, txt_list, ByteArray.data_append]
      simp [txt]
    have H1 := Lib.hid (fun w => refDigits_pos 9 (-n) w (by omega) (by omega) (by omega))
    go_enter Tryd.func16, Tryd.ntmps16
    go_wp2_with (go_at_call 16; ((with_reducible refine (H1.out _).mono ?_); rintro e w1 ⟨rfl, rfl⟩))
    go_ret
    exact ⟨rfl, rfl⟩
  · exact refDigits_pos 9 n w (by omega) (by omega) (by omega)
/-- A digit more. -/
theorem dec_step {s : ByteArray} {k u : Nat} (hk : k < s.size) (hf : frm s.data.toList ≤ k) (h : Lib.decFrom 0 ((s.data.toList.drop (frm s.data.toList)).take (k - frm s.data.toList)) = some u) (h0 : 48 ≤ s[k].toNat) (h1 : s[k].toNat ≤ 57) :
    Lib.decFrom 0 ((s.data.toList.drop (frm s.data.toList)).take (k + 1 - frm s.data.toList)) = some (u * 10 + (s[k].toNat - 48)) := by
  rw [show k + 1 - frm s.data.toList = k - frm s.data.toList + 1 by omega]
  refine Lib.decFrom_take _ _ 0 u s[k] _ h ?_ ?_
  · rw [List.getElem?_drop, show frm s.data.toList + (k - frm s.data.toList) = k by omega]
    have hl : k < s.data.toList.length := by rw [← Lib.size_eq]; exact hk
    rw [List.getElem?_eq_getElem hl]
    rfl
  · unfold Lib.digitVal
    rw [if_pos ⟨h0, h1⟩]
theorem dec_bad {s : ByteArray} {k : Nat} (hk : k < s.size) (hf : frm s.data.toList ≤ k) (h : s[k].toNat < 48 ∨ 57 < s[k].toNat) : numOk s.data.toList = false := by
  have hl : k < s.data.toList.length := by rw [← Lib.size_eq]; exact hk
  exact num_bad (b := s[k]) hf (by rw [List.getElem?_eq_getElem hl]; rfl) h
theorem dec_small {l : List UInt8} {u : Nat} (h : Lib.decFrom 0 l = some u) (hl : l.length ≤ 9) : u < 1000000000 := by
  have := decFrom_bd l 0 u 0 (by decide) h
  have q : 10 ^ (0 + l.length) ≤ 10 ^ 9 := Nat.pow_le_pow_right (by decide) (by omega)
  omega
theorem num_end' {s : ByteArray} {u : Nat} (h : Lib.decFrom 0 ((s.data.toList.drop (frm s.data.toList)).take (s.size - frm s.data.toList)) = some u) (hu : u < 1000000000) (z : Int) (hz : z = if frm s.data.toList = 1 then -(u : Int) else u) :
    ((txt (decL z)).toList == s.toList) = numOk s.data.toList ∧ (numOk s.data.toList = true → numV s.data.toList = z) := by
  subst hz
  have e : (s.data.toList.drop (frm s.data.toList)).take (s.size - frm s.data.toList) = s.data.toList.drop (frm s.data.toList) := by
    rw [List.take_of_length_le]
    rw [List.length_drop, Lib.size_eq]
    exact Nat.le_refl _
  rw [e] at h
  obtain ⟨p, q⟩ := num_end h (by omega)
  by_cases k : decL (if frm s.data.toList = 1 then -(u : Int) else u) = s.data.toList
  · obtain ⟨a, b⟩ := p k
    exact ⟨by rw [a]; exact str_same (by rw [k, txt_of]), fun _ => b⟩
  · have a := q k
    refine ⟨by rw [a]; exact str_apart (fun e => k ((txt_list _).symm.trans (congrArg (fun x : ByteArray => x.data.toList) e))), fun f => ?_⟩
    rw [a] at f
    cases f
/-- What the loop over digits holds. -/
def DigAt (s : ByteArray) (x i : Value) : Prop := ∃ k u : Nat, frm s.data.toList ≤ k ∧ k ≤ s.size ∧ i = .int .i64 k ∧ x = .int .i64 u ∧ Lib.decFrom 0 ((s.data.toList.drop (frm s.data.toList)).take (k - frm s.data.toList)) = some u ∧ u < 1000000000
set_option maxRecDepth 100000 in
set_option maxHeartbeats 2000000 in
theorem refNumber_is (s : ByteArray) (w : World) (hs : s.size ≤ 4294967296) :
    Calls Tryd.prog 12 #[.string s] w fun e w' => e = .returned (.tuple #[.int .i64 (numV s.data.toList), .bool (numOk s.data.toList)]) ∧ w = w' := by
  have hfl := frm_le s.data.toList
  have hlen : s.size = s.data.toList.length := Lib.size_eq s
  by_cases hpos : 0 < s.size
  · have hh : s.data.toList.head? = some s[0] := by
      have hl : 0 < s.data.toList.length := by omega
      rw [List.head?_eq_getElem?, List.getElem?_eq_getElem hl]
      rfl
    by_cases h45 : s[0] = 45
    · have hfr : frm s.data.toList = 1 := by unfold frm; rw [hh, h45]; rfl
      have ht : ((s[0].toNat : Int) == 45) = true := by rw [h45]; rfl
      clear hh h45 hfl
      by_cases hr : s.size < 1 + 1 ∨ 1 + 9 < s.size
      · have hn := num_long (l := s.data.toList) (by omega)
        rw [num_no hn, hn]
        have HN := Lib.hid hn
        clear hn hlen hfr
        rcases hr with hr | hr
        all_goals
          go_enter Tryd.func12, Tryd.ntmps12
          go_wp2_with fail
          all_goals go_ret2
          all_goals exact ⟨rfl, rfl⟩
      · have hr1 : 1 + 1 ≤ s.size := by omega
        have hr2 : s.size ≤ 1 + 9 := by omega
        have HF := Lib.hid hfr
        clear hr hlen hfr
        go_enter Tryd.func12, Tryd.ntmps12
        go_wp2_with fail
        go_loop [4, 6] (fun x i => DigAt s x i) (fun _ i => s.size - (intOf i).toNat)
        case atStart => exact ⟨1, 0, by rw [HF.out]; omega, by omega, rfl, rfl, by rw [HF.out]; rfl, by omega⟩
        case round =>
          obtain ⟨k, u, hk1, hk2, rfl, rfl, hd, hu⟩ := hrel
          have HD := Lib.hid hd
          have HK1 := Lib.hid hk1
          clear hd hk1
          by_cases hlt : k < s.size
          · by_cases hc : 48 ≤ s[k].toNat ∧ s[k].toNat ≤ 57
            · obtain ⟨hc1, hc2⟩ := hc
              have hd2 := dec_step hlt HK1.out HD.out hc1 hc2
              have hu2 := dec_small hd2 (by have e := HF.out; rw [List.length_take, e]; omega)
              have HD2 := Lib.hid hd2
              have HU2 := Lib.hid hu2
              clear hd2 hu2
              have hc1' : (48 : Int) ≤ (s[k].toNat : Int) := by omega
              have hc2' : (s[k].toNat : Int) ≤ 57 := by omega
              go_wp2_with fail
              go_round
              case rel => exact ⟨k + 1, u * 10 + (s[k].toNat - 48), by have := HK1.out; omega, by omega, by go_num, (by congr 1; omega), HD2.out, HU2.out⟩
              case measure => simp [intOf]; omega
            · have hn := dec_bad hlt HK1.out (by omega)
              have HN := Lib.hid hn
              clear hn
              have hc' : (s[k].toNat : Int) < 48 ∨ 48 ≤ (s[k].toNat : Int) ∧ 57 < (s[k].toNat : Int) := by omega
              clear hc
              rcases hc' with hc | ⟨hc, hc2⟩
              all_goals
                go_wp2_with fail
                go_ret2
                exact ⟨by (rw [num_no HN.out, HN.out]; first | done | rfl), rfl⟩
          · obtain rfl : k = s.size := by omega
            obtain ⟨q1, q2⟩ := num_end' HD.out hu (-(u : Int)) (by rw [HF.out]; rfl)
            have Q1 := Lib.hid q1
            have Q2 := Lib.hid q2
            cases ok : numOk s.data.toList
            all_goals
              rw [ok] at q1
              have OK := Lib.hid ok
              clear q2 ok
              go_wp2_with (go_at_call 16; ((with_reducible refine (refDigits_is (-(u : Int)) _ (by omega) (by omega)).mono ?_); rintro e w1 ⟨rfl, rfl⟩))
              go_ret2
            · exact ⟨by (rw [num_no OK.out, OK.out]; first | done | rfl), rfl⟩
            · exact ⟨by (rw [Q2.out OK.out, OK.out]; first | done | rfl), rfl⟩
    · have hfr : frm s.data.toList = 0 := by unfold frm; rw [hh, if_neg (fun e => h45 (Option.some.inj e))]
      have ht : ((s[0].toNat : Int) == 45) = false := by
        rw [beq_eq_false_iff_ne]
        intro e
        exact h45 (UInt8.toNat_inj.1 (by show s[0].toNat = 45; omega))
      clear hh h45 hfl
      by_cases hr : s.size < 0 + 1 ∨ 0 + 9 < s.size
      · have hn := num_long (l := s.data.toList) (by omega)
        rw [num_no hn, hn]
        have HN := Lib.hid hn
        clear hn hlen hfr
        rcases hr with hr | hr
        all_goals
          go_enter Tryd.func12, Tryd.ntmps12
          go_wp2_with fail
          all_goals go_ret2
          all_goals exact ⟨rfl, rfl⟩
      · have hr1 : 0 + 1 ≤ s.size := by omega
        have hr2 : s.size ≤ 0 + 9 := by omega
        have HF := Lib.hid hfr
        clear hr hlen hfr
        go_enter Tryd.func12, Tryd.ntmps12
        go_wp2_with fail
        go_loop [4, 6] (fun x i => DigAt s x i) (fun _ i => s.size - (intOf i).toNat)
        case atStart => exact ⟨0, 0, by rw [HF.out]; omega, by omega, rfl, rfl, by rw [HF.out]; rfl, by omega⟩
        case round =>
          obtain ⟨k, u, hk1, hk2, rfl, rfl, hd, hu⟩ := hrel
          have HD := Lib.hid hd
          have HK1 := Lib.hid hk1
          clear hd hk1
          by_cases hlt : k < s.size
          · by_cases hc : 48 ≤ s[k].toNat ∧ s[k].toNat ≤ 57
            · obtain ⟨hc1, hc2⟩ := hc
              have hd2 := dec_step hlt HK1.out HD.out hc1 hc2
              have hu2 := dec_small hd2 (by have e := HF.out; rw [List.length_take, e]; omega)
              have HD2 := Lib.hid hd2
              have HU2 := Lib.hid hu2
              clear hd2 hu2
              have hc1' : (48 : Int) ≤ (s[k].toNat : Int) := by omega
              have hc2' : (s[k].toNat : Int) ≤ 57 := by omega
              go_wp2_with fail
              go_round
              case rel => exact ⟨k + 1, u * 10 + (s[k].toNat - 48), by have := HK1.out; omega, by omega, by go_num, (by congr 1; omega), HD2.out, HU2.out⟩
              case measure => simp [intOf]; omega
            · have hn := dec_bad hlt HK1.out (by omega)
              have HN := Lib.hid hn
              clear hn
              have hc' : (s[k].toNat : Int) < 48 ∨ 48 ≤ (s[k].toNat : Int) ∧ 57 < (s[k].toNat : Int) := by omega
              clear hc
              rcases hc' with hc | ⟨hc, hc2⟩
              all_goals
                go_wp2_with fail
                go_ret2
                exact ⟨by (rw [num_no HN.out, HN.out]; first | done | rfl), rfl⟩
          · obtain rfl : k = s.size := by omega
            obtain ⟨q1, q2⟩ := num_end' HD.out hu ((u : Int)) (by rw [HF.out]; rfl)
            have Q1 := Lib.hid q1
            have Q2 := Lib.hid q2
            cases ok : numOk s.data.toList
            all_goals
              rw [ok] at q1
              have OK := Lib.hid ok
              clear q2 ok
              go_wp2_with (go_at_call 16; ((with_reducible refine (refDigits_is ((u : Int)) _ (by omega) (by omega)).mono ?_); rintro e w1 ⟨rfl, rfl⟩))
              go_ret2
            · exact ⟨by (rw [num_no OK.out, OK.out]; first | done | rfl), rfl⟩
            · exact ⟨by (rw [Q2.out OK.out, OK.out]; first | done | rfl), rfl⟩
  · have hn := num_long (l := s.data.toList) (by omega)
    rw [num_no hn, hn]
    have hz : s.size = 0 := by omega
    have HN := Lib.hid hn
    clear hn hlen hfl hpos hs
    go_enter Tryd.func12, Tryd.ntmps12
    go_wp2_with fail
    go_ret2
    exact ⟨rfl, rfl⟩
end Go.Proofs.YtheflkhbmbfajaaDoor
