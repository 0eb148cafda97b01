/- What is a name: package label's answer and the document's. Condition: a text no longer than any can be. -/
import Derived.Test.YtekhgidbnpfmnaaGreatDoorProg
import Derived.Test.YtekhgidbnpfmnaaGreatDoorLabP
import Derived.IntWalk
import Derived.Handy
namespace Go.Proofs.YtekhgidbnpfmnaaGreatDoor
open Go.RowKit

theorem labLetter_is (c : Int) (w : World) (h0 : 0 ≤ c) (h1 : c ≤ 255) : Calls Tryz.prog 113 #[.int .u8 c] w fun e w' => e = .returned (.bool (letB c)) ∧ w = w' := by
  obtain ⟨z, hz⟩ : ∃ z, letB c = z := ⟨_, rfl⟩
  rw [hz]
  unfold letB at hz
  by_cases h : 97 ≤ c
  · by_cases k : c ≤ 122
    all_goals
      have hz' : z = decide (c ≤ 122) := by rw [← hz, decide_eq_true h]; rfl
      clear hz
      have HZ := Lib.hid hz'
      clear hz'
      go_enter Tryz.func113, Tryz.ntmps113
      go_wp2
      go_ret
      exact ⟨by rw [HZ.out]; simp [k] <;> omega, rfl⟩
  · have hz' : z = false := by rw [← hz, decide_eq_false h]; rfl
    have HZ := Lib.hid hz'
    clear hz hz'
    have h' : c < 97 := by omega
    clear h
    go_enter Tryz.func113, Tryz.ntmps113
    go_wp2
    go_ret
    exact ⟨by rw [HZ.out]; first | done | rfl, rfl⟩
theorem labDigit_is (c : Int) (w : World) (h0 : 0 ≤ c) (h1 : c ≤ 255) : Calls Tryz.prog 114 #[.int .u8 c] w fun e w' => e = .returned (.bool (digB c)) ∧ w = w' := by
  obtain ⟨z, hz⟩ : ∃ z, digB c = z := ⟨_, rfl⟩
  rw [hz]
  unfold digB at hz
  by_cases h : 48 ≤ c
  · by_cases k : c ≤ 57
    all_goals
      have hz' : z = decide (c ≤ 57) := by rw [← hz, decide_eq_true h]; rfl
      clear hz
      have HZ := Lib.hid hz'
      clear hz'
      go_enter Tryz.func114, Tryz.ntmps114
      go_wp2
      go_ret
      exact ⟨by rw [HZ.out]; simp [k] <;> omega, rfl⟩
  · have hz' : z = false := by rw [← hz, decide_eq_false h]; rfl
    have HZ := Lib.hid hz'
    clear hz hz'
    have h' : c < 48 := by omega
    clear h
    go_enter Tryz.func114, Tryz.ntmps114
    go_wp2
    go_ret
    exact ⟨by rw [HZ.out]; first | done | rfl, rfl⟩
/-- How far the loop over a name's bytes is. -/
def OkTo (s : ByteArray) (i : Value) : Prop := ∃ k : Nat, k ≤ s.size ∧ i = .int .i64 k ∧ ∀ j, j < k → okB (byI s j) = true
set_option maxHeartbeats 2000000 in
theorem labIs_is (s : ByteArray) (w : World) (hs : s.size ≤ maxLen) :
    Calls Tryz.prog 76 #[.string s] w fun e w' => e = .returned (.bool (nameB s)) ∧ w = w' := by
  unfold maxLen at hs
  by_cases h1 : s.size < 1
  · have HN := Lib.hid (nameB_short h1)
    have h1' : (s.size : Int) < 1 := by omega
    have hd1 : decide ((s.size : Int) < 1) = true := by simpa using h1'
    have hd2 : decide (s.size < 1) = true := by simpa using h1
    go_enter Tryz.func76, Tryz.ntmps76
    go_wp2
    go_ret
    exact ⟨by rw [HN.out]; first | done | rfl, rfl⟩
  · have h1' : 1 ≤ s.size := by omega
    have h0 : 0 < s.size := h1'
    clear h1
    by_cases h2 : 24 < s.size
    · have HN := Lib.hid (name_long h2)
      go_enter Tryz.func76, Tryz.ntmps76
      go_wp2
      go_ret
      exact ⟨by rw [HN.out]; first | done | rfl, rfl⟩
    · have h2' : s.size ≤ 24 := by omega
      clear h2
      have b0 : (s[0].toNat : Int) = byI s 0 := byI_eq h0
      have HB0 := Lib.hid b0
      have e0 : 0 ≤ (s[0].toNat : Int) ∧ (s[0].toNat : Int) ≤ 255 := ⟨by omega, by have := s[0].toNat_lt; omega⟩
      obtain ⟨e1, e2⟩ := e0
      clear b0
      by_cases h3 : letB (s[0].toNat : Int) = true
      · have H3 := Lib.hid h3
        go_enter Tryz.func76, Tryz.ntmps76
        go_wp2_with (go_at_call 113; ((with_reducible refine (labLetter_is _ _ e1 e2).mono ?_); rintro e w1 ⟨rfl, rfl⟩))
        clear h3
        go_loop [21] (fun i => OkTo s i) (fun i => s.size - (intOf i).toNat)
        case atStart => exact ⟨0, by omega, rfl, fun j hj => by omega⟩
        case round =>
          obtain ⟨k, hk, rfl, hok⟩ := hrel
          have HOK := Lib.hid hok
          clear hok
          by_cases hlt : k < s.size
          · have hlt' : (k : Int) < s.size := by omega
            have HBK := Lib.hid (byI_eq hlt)
            have f1 : 0 ≤ (s[k].toNat : Int) := by omega
            have f2 : (s[k].toNat : Int) ≤ 255 := by have := s[k].toNat_lt; omega
            by_cases g1 : letB (s[k].toNat : Int) = true
            · have HG := Lib.hid (show okB (s[k].toNat : Int) = true from let_ok g1)
              go_wp2_with (go_at_call 113; ((with_reducible refine (labLetter_is _ _ f1 f2).mono ?_); rintro e w1 ⟨rfl, rfl⟩))
              go_round
              case rel => exact ⟨k + 1, by omega, by go_num, fun j hj => by
                rcases Nat.lt_succ_iff_lt_or_eq.1 hj with q | q
                · exact HOK.out j q
                · subst q; rw [← HBK.out]; exact HG.out⟩
              case measure => simp [intOf]; omega
            · have g1' : letB (s[k].toNat : Int) = false := by simpa using g1
              clear g1
              by_cases g2 : digB (s[k].toNat : Int) = true
              · have HG := Lib.hid (show okB (s[k].toNat : Int) = true by unfold okB; rw [g2]; simp)
                go_wp2_with (first
                  | (go_at_call 113; ((with_reducible refine (labLetter_is _ _ f1 f2).mono ?_); rintro e w1 ⟨rfl, rfl⟩))
                  | (go_at_call 114; ((with_reducible refine (labDigit_is _ _ f1 f2).mono ?_); rintro e w1 ⟨rfl, rfl⟩)))
                go_round
                case rel => exact ⟨k + 1, by omega, by go_num, fun j hj => by
                  rcases Nat.lt_succ_iff_lt_or_eq.1 hj with q | q
                  · exact HOK.out j q
                  · subst q; rw [← HBK.out]; exact HG.out⟩
                case measure => simp [intOf]; omega
              · have g2' : digB (s[k].toNat : Int) = false := by simpa using g2
                clear g2
                by_cases g3 : (s[k].toNat : Int) = 95
                · have HG := Lib.hid (show okB (s[k].toNat : Int) = true by unfold okB; rw [decide_eq_true g3]; simp)
                  have g4 : ((s[k].toNat : Int) != 95) = false := by rw [g3]; rfl
                  have g5 : ((s[k].toNat : Int) == 95) = true := by rw [g3]; rfl
                  clear g3
                  go_wp2_with (first
                    | (go_at_call 113; ((with_reducible refine (labLetter_is _ _ f1 f2).mono ?_); rintro e w1 ⟨rfl, rfl⟩))
                    | (go_at_call 114; ((with_reducible refine (labDigit_is _ _ f1 f2).mono ?_); rintro e w1 ⟨rfl, rfl⟩)))
                  go_round
                  case rel => exact ⟨k + 1, by omega, by go_num, fun j hj => by
                    rcases Nat.lt_succ_iff_lt_or_eq.1 hj with q | q
                    · exact HOK.out j q
                    · subst q; rw [← HBK.out]; exact HG.out⟩
                  case measure => simp [intOf]; omega
                · have HN := Lib.hid (name_bad hlt (by rw [← HBK.out]; unfold okB; rw [g1', g2', decide_eq_false g3]; rfl))
                  have g4 : ((s[k].toNat : Int) != 95) = true := by simpa using g3
                  have g5 : ((s[k].toNat : Int) == 95) = false := by simpa using g3
                  clear g3
                  go_wp2_with (first
                    | (go_at_call 113; ((with_reducible refine (labLetter_is _ _ f1 f2).mono ?_); rintro e w1 ⟨rfl, rfl⟩))
                    | (go_at_call 114; ((with_reducible refine (labDigit_is _ _ f1 f2).mono ?_); rintro e w1 ⟨rfl, rfl⟩)))
                  go_ret
                  exact ⟨by rw [HN.out]; first | done | rfl, rfl⟩
          · obtain rfl : k = s.size := by omega
            have HN := Lib.hid (name_yes h1' h2' (by rw [← HB0.out]; exact H3.out) HOK.out)
            go_wp2
            go_ret
            exact ⟨by rw [HN.out]; first | done | rfl, rfl⟩
      · have h3' : letB (s[0].toNat : Int) = false := by simpa using h3
        clear h3
        have HN := Lib.hid (name_first (by rw [← HB0.out]; exact h3'))
        go_enter Tryz.func76, Tryz.ntmps76
        go_wp2_with (go_at_call 113; ((with_reducible refine (labLetter_is _ _ e1 e2).mono ?_); rintro e w1 ⟨rfl, rfl⟩))
        go_ret
        exact ⟨by rw [HN.out]; first | done | rfl, rfl⟩
end Go.Proofs.YtekhgidbnpfmnaaGreatDoor
