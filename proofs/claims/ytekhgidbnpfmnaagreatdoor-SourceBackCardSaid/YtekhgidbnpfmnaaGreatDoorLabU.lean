/- What package label's and plan's texts share: what is a name, as the document says it; blocks apart; a text's copy. Conditions: texts as short as any can be. -/
import Derived.Test.YtekhgidbnpfmnaaGreatDoorProg
import Derived.Test.YtekhgidbnpfmnaaGreatDoorLabM
import Derived.Test.YtekhgidbnpfmnaaGreatDoorShelf
import Derived.IntWalk
import Derived.Handy
import Derived.Deep.QuietTactic
import Derived.BigQuiet
namespace Go.Proofs.YtekhgidbnpfmnaaGreatDoor
open Go.RowKit Go.IntWalk

theorem info_el {P : Program} {t : TypeId} {z : Value} {s b : Nat} (h : (P.info? t).map (fun i => (i.zero, i.size, i.bytes)) = some (some z, s, b)) : ∃ i, P.info? t = some i ∧ i.zero = some z ∧ i.size = s ∧ i.bytes = b := by
  cases e : P.info? t with
  | none => rw [e] at h; cases h
  | some i => rw [e] at h; simp at h; exact ⟨i, rfl, h.1, h.2.1, h.2.2⟩
/-- What a call of F's owner leaves: F, and what is new. -/
def Wide (F : Nat → Prop) (w w' : World) : Nat → Prop := fun j => F j ∨ w.heap.size ≤ j ∧ j < w'.heap.size
theorem Wide.grows {F : Nat → Prop} {w w' : World} (k : Keeps F w w') : Grows F w (Wide F w w') w' := ⟨k, fun _ h => h.imp id fun q => q.1⟩
theorem one_el {α : Type} [Inhabited α] {K : Kd α} {b : Nat} (w : World) (e : TypeId) (x : α) (cs : Array Value) (hcs : cs.toList = K.enc x) (h : w.heap.size = b) : ElAt K (w.alloc (.cells cs e)) (some ⟨b, 0, none⟩) 1 1 [x] := by
  subst h; exact ElAt.one w e x cs hcs
theorem OwnEl.shape {α : Type} [Inhabited α] {K : Kd α} {w : World} {base : Nat} {e : TypeId} {v : Value} {l : List α} (h : OwnEl K w base e v l) : ∃ a n c, v = .slice a n c := by
  obtain ⟨a, c, e, -⟩ := h.at
  exact ⟨a, _, c, e⟩
theorem blk_ne {w : World} {b b' : Nat} {T T' : TypeId} {cs cs' : Array Value} (h : BlkAt b T cs w) (k : BlkAt b' T' cs' w) (hT : T ≠ T') : b ≠ b' := by
  rintro rfl
  unfold BlkAt at h k
  rw [h] at k
  simp only [Option.some.injEq, Obj.cells.injEq] at k
  exact hT k.2.1
theorem own_blk_ne {α : Type} {K : Kd α} {w : World} {base b : Nat} {e T : TypeId} {v : Value} {l : List α} {cs : Array Value} (h : OwnEl K w base e v l) (hb : BlkAt b T cs w) (hT : T ≠ e) : v.ownBlock ≠ some b := own_off_type h hb hT
theorem infoStr : (Tryz.prog.info? 9).map (fun i => (i.zero, i.size, i.bytes)) = some (some (.string ⟨#[]⟩), 1, 16) := by kernel_rfl
def fixOf (ds : Df) (u : ByteArray × Int) : Int × Int := (u.2, plV ds u.1)
theorem fixes_snoc (ds us : Df) {k : Nat} (h : k < us.length) : (us.take (k + 1)).map (fixOf ds) = (us.take k).map (fixOf ds) ++ [((el us k).2, plV ds (el us k).1)] := by
  rw [take_el h, List.map_append]; rfl
set_option maxHeartbeats 1000000 in
theorem strClone_is (s : ByteArray) (w : World) (hs : s.size ≤ 281474976710656) :
    Calls Tryz.prog 45 #[.string s] w fun e w' => e = .returned (.string s) ∧ Below w.heap.size w w' := by
  have C := Lib.hid (stringslite_Clone s w hs)
  clear hs
  go_enter Tryz.func45, Tryz.ntmps45
  go_wp2_with (go_at_call 79; ((with_reducible refine (C.out).mono ?_); rintro e w1 ⟨rfl, hb⟩); have HB := Lib.hid hb; clear hb)
  go_ret
  exact ⟨rfl, HB.out⟩
set_option maxHeartbeats 2000000 in
theorem refIs19_is (s : ByteArray) (w : World) (hs : s.size ≤ maxLen) :
    Calls Tryz.prog 85 #[.string s] w fun e w' => e = .returned (.bool (nameB s)) ∧ w = w' := by
  unfold maxLen at hs
  by_cases h1 : s.size < 1
  · have HN := Lib.hid (nameB_short h1)
    have h1' : (s.size : Int) < 1 := by omega
    have hd1 : decide ((s.size : Int) < 1) = true := by simpa using h1'
    have hd2 : decide (s.size < 1) = true := by simpa using h1
    go_enter Tryz.func85, Tryz.ntmps85
    go_wp2
    go_ret
    exact ⟨by rw [HN.out]; first | done | rfl, rfl⟩
  · have h1' : 1 ≤ s.size := by omega
    have h0 : 0 < s.size := h1'
    clear h1
    by_cases h2 : 24 < s.size
    · have HN := Lib.hid (name_long h2)
      go_enter Tryz.func85, Tryz.ntmps85
      go_wp2
      go_ret
      exact ⟨by rw [HN.out]; first | done | rfl, rfl⟩
    · have h2' : s.size ≤ 24 := by omega
      clear h2
      go_enter Tryz.func85, Tryz.ntmps85
      go_wp2
      go_loop [3] (fun i => ∃ k : Nat, k ≤ s.size ∧ i = .int .i64 k ∧ (∀ j, j < k → okB (byI s j) = true) ∧ (0 < k → letB (byI s 0) = true)) (fun i => s.size - (intOf i).toNat)
      case atStart => exact ⟨0, by omega, rfl, fun j hj => by omega, fun h => by omega⟩
      case round =>
        obtain ⟨k, hk, rfl, hok, hfirst⟩ := hrel
        have HOK := Lib.hid hok
        have HFI := Lib.hid hfirst
        clear hok hfirst
        by_cases hlt : k < s.size
        · have hlt' : (k : Int) < s.size := by omega
          have HBK := Lib.hid (byI_eq hlt)
          have f1 : 0 ≤ (s[k].toNat : Int) := by omega
          have f2 : (s[k].toNat : Int) ≤ 255 := by have := s[k].toNat_lt; omega
          by_cases g1 : 97 ≤ (s[k].toNat : Int) ∧ (s[k].toNat : Int) ≤ 122
          · obtain ⟨g1, g2⟩ := g1
            have HL := Lib.hid (show letB (s[k].toNat : Int) = true by unfold letB; rw [decide_eq_true g1, decide_eq_true g2]; rfl)
            go_wp2
            go_round
            case rel => exact ⟨k + 1, by omega, by go_num, fun j hj => by
              rcases Nat.lt_succ_iff_lt_or_eq.1 hj with q | q
              · exact HOK.out j q
              · subst q; rw [← HBK.out]; exact let_ok HL.out, fun _ => by
              rcases Nat.eq_zero_or_pos k with q | q
              · subst q; rw [← HBK.out]; exact HL.out
              · exact HFI.out q⟩
            case measure => simp [intOf]; omega
          · have HL := Lib.hid (show letB (s[k].toNat : Int) = false by
              unfold letB
              by_cases q : 97 ≤ (s[k].toNat : Int)
              · rw [decide_eq_false (p := (s[k].toNat : Int) ≤ 122) (by omega), Bool.and_false]
              · rw [decide_eq_false q, Bool.false_and])
            have g1' : (s[k].toNat : Int) < 97 ∨ 97 ≤ (s[k].toNat : Int) ∧ 122 < (s[k].toNat : Int) := by omega
            clear g1
            by_cases k0 : k = 0
            · subst k0
              have HN := Lib.hid (name_first (s := s) (by rw [← HBK.out]; exact HL.out))
              rcases g1' with g1 | ⟨g1, g2⟩
              · go_wp2
                go_ret
                exact ⟨by rw [HN.out]; first | done | rfl, rfl⟩
              · have g9 : decide ((s[0].toNat : Int) ≤ 122) = false := by simpa using g2
                go_wp2
                go_ret
                exact ⟨by rw [HN.out]; first | done | rfl, rfl⟩
            · have k1 : ((k : Int) == 0) = false := by simpa using k0
              have k2 : 0 < k := by omega
              clear k0
              by_cases g3 : (s[k].toNat : Int) = 95
              · have HG := Lib.hid (show okB (s[k].toNat : Int) = true by unfold okB; rw [decide_eq_true g3]; simp)
                have g4 : ((s[k].toNat : Int) != 95) = false := by rw [g3]; rfl
                have g5 : ((s[k].toNat : Int) == 95) = true := by rw [g3]; rfl
                have g6 : (s[k].toNat : Int) < 97 := by omega
                clear g3 g1'
                go_wp2
                go_round
                case rel => exact ⟨k + 1, by omega, by go_num, fun j hj => by
                  rcases Nat.lt_succ_iff_lt_or_eq.1 hj with q | q
                  · exact HOK.out j q
                  · subst q; rw [← HBK.out]; exact HG.out, fun _ => HFI.out k2⟩
                case measure => simp [intOf]; omega
              · have g4 : ((s[k].toNat : Int) != 95) = true := by simpa using g3
                have g5 : ((s[k].toNat : Int) == 95) = false := by simpa using g3
                by_cases g6 : 48 ≤ (s[k].toNat : Int) ∧ (s[k].toNat : Int) ≤ 57
                · obtain ⟨g6, g7⟩ := g6
                  have HG := Lib.hid (show okB (s[k].toNat : Int) = true by unfold okB digB; rw [decide_eq_true g6, decide_eq_true g7]; simp)
                  have g8 : (s[k].toNat : Int) < 97 := by omega
                  clear g3 g1'
                  go_wp2
                  go_round
                  case rel => exact ⟨k + 1, by omega, by go_num, fun j hj => by
                    rcases Nat.lt_succ_iff_lt_or_eq.1 hj with q | q
                    · exact HOK.out j q
                    · subst q; rw [← HBK.out]; exact HG.out, fun _ => HFI.out k2⟩
                  case measure => simp [intOf]; omega
                · have HN := Lib.hid (name_bad hlt (by
                    rw [← HBK.out]
                    have d : digB (s[k].toNat : Int) = false := by
                      unfold digB
                      by_cases q : 48 ≤ (s[k].toNat : Int)
                      · rw [decide_eq_false (p := (s[k].toNat : Int) ≤ 57) (by omega), Bool.and_false]
                      · rw [decide_eq_false q, Bool.false_and]
                    unfold okB; rw [HL.out, d, decide_eq_false g3]; rfl))
                  have g6' : (s[k].toNat : Int) < 48 ∨ 48 ≤ (s[k].toNat : Int) ∧ 57 < (s[k].toNat : Int) := by omega
                  clear g3 g6
                  rcases g1' with g1 | ⟨g1, g2⟩
                  · rcases g6' with g6 | ⟨g6, g7⟩
                    · go_wp2
                      go_ret
                      exact ⟨by rw [HN.out]; first | done | rfl, rfl⟩
                    · go_wp2
                      go_ret
                      exact ⟨by rw [HN.out]; first | done | rfl, rfl⟩
                  · have g9 : decide ((s[k].toNat : Int) ≤ 122) = false := by simpa using g2
                    have g10 : 57 < (s[k].toNat : Int) := by omega
                    have g11 : 48 ≤ (s[k].toNat : Int) := by omega
                    clear g6'
                    go_wp2
                    go_ret
                    exact ⟨by rw [HN.out]; first | done | rfl, rfl⟩
        · obtain rfl : k = s.size := by omega
          have HN := Lib.hid (name_yes h1' h2' (HFI.out h0) HOK.out)
          go_wp2
          go_ret
          exact ⟨by rw [HN.out]; first | done | rfl, rfl⟩
end Go.Proofs.YtekhgidbnpfmnaaGreatDoor
