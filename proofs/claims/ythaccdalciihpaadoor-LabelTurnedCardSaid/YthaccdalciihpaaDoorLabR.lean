/- The document's own names of places: what it answers. Conditions: lists and texts as short as any can be. -/
import Derived.Test.YthaccdalciihpaaDoorProg
import Derived.Test.YthaccdalciihpaaDoorLabM
import Derived.IntWalk
import Derived.Handy
import Derived.Deep.QuietTactic
import Derived.BigQuiet
namespace Go.Proofs.YthaccdalciihpaaDoor
open Go.RowKit Go.IntWalk

theorem info_el {P : Program} {t : TypeId} {z : Value} {s b : Nat} (h : (P.info? t).map (fun i => (i.zero, i.size, i.bytes)) = some (some z, s, b)) : ∃ i, P.info? t = some i ∧ i.zero = some z ∧ i.size = s ∧ i.bytes = b := by
  cases e : P.info? t with
  | none => rw [e] at h; cases h
  | some i => rw [e] at h; simp at h; exact ⟨i, rfl, h.1, h.2.1, h.2.2⟩
theorem infoRow : (Tryd.prog.info? 58).map (fun i => (i.zero, i.size, i.bytes)) = some (some (.agg #[.string ⟨#[]⟩, .int .i64 0]), 2, 24) := by kernel_rfl

set_option maxHeartbeats 2000000 in
theorem refIs19_is (s : ByteArray) (w : World) (hs : s.size ≤ maxLen) :
    Calls Tryd.prog 20 #[.string s] w fun e w' => e = .returned (.bool (nameB s)) ∧ w = w' := by
  unfold maxLen at hs
  by_cases h1 : s.size < 1
  · have HN := Lib.hid (name_short h1)
    have h1' : (s.size : Int) < 1 := by omega
    have hd1 : decide ((s.size : Int) < 1) = true := by simpa using h1'
    have hd2 : decide (s.size < 1) = true := by simpa using h1
    go_enter Tryd.func20, Tryd.ntmps20
    go_wp2
    go_ret
    exact ⟨by rw [HN.out]; first | done | rfl, rfl⟩
  · have h1' : 1 ≤ s.size := by omega
    have h0 : 0 < s.size := h1'
    clear h1
    by_cases h2 : 24 < s.size
    · have HN := Lib.hid (name_long h2)
      go_enter Tryd.func20, Tryd.ntmps20
      go_wp2
      go_ret
      exact ⟨by rw [HN.out]; first | done | rfl, rfl⟩
    · have h2' : s.size ≤ 24 := by omega
      clear h2
      go_enter Tryd.func20, Tryd.ntmps20
      go_wp2
      go_loop [3] (fun i => ∃ k : Nat, k ≤ s.size ∧ i = .int .i64 k ∧ (∀ j, j < k → okB (byI s j) = true) ∧ (0 < k → letB (byI s 0) = true)) (fun i => s.size - (intOf i).toNat)
      case atStart => exact ⟨0, by omega, rfl, fun j hj => by omega, fun h => by omega⟩
      case round =>
        obtain ⟨k, hk, rfl, hok, hfirst⟩ := hrel
        have HOK := Lib.hid hok
        have HFI := Lib.hid hfirst
        clear hok hfirst
        by_cases hlt : k < s.size
        · have hlt' : (k : Int) < s.size := by omega
          have HBK := Lib.hid (byI_eq hlt)
          have f1 : 0 ≤ (s[k].toNat : Int) := by omega
          have f2 : (s[k].toNat : Int) ≤ 255 := by have := s[k].toNat_lt; omega
          by_cases g1 : 97 ≤ (s[k].toNat : Int) ∧ (s[k].toNat : Int) ≤ 122
          · obtain ⟨g1, g2⟩ := g1
            have HL := Lib.hid (show letB (s[k].toNat : Int) = true by unfold letB; rw [decide_eq_true g1, decide_eq_true g2]; rfl)
            go_wp2
            go_round
            case rel => exact ⟨k + 1, by omega, by go_num, fun j hj => by
              rcases Nat.lt_succ_iff_lt_or_eq.1 hj with q | q
              · exact HOK.out j q
              · subst q; rw [← HBK.out]; exact let_ok HL.out, fun _ => by
              rcases Nat.eq_zero_or_pos k with q | q
              · subst q; rw [← HBK.out]; exact HL.out
              · exact HFI.out q⟩
            case measure => simp [intOf]; omega
          · have HL := Lib.hid (show letB (s[k].toNat : Int) = false by
              unfold letB
              by_cases q : 97 ≤ (s[k].toNat : Int)
              · rw [decide_eq_false (p := (s[k].toNat : Int) ≤ 122) (by omega), Bool.and_false]
              · rw [decide_eq_false q, Bool.false_and])
            have g1' : (s[k].toNat : Int) < 97 ∨ 97 ≤ (s[k].toNat : Int) ∧ 122 < (s[k].toNat : Int) := by omega
            clear g1
            by_cases k0 : k = 0
            · subst k0
              have HN := Lib.hid (name_first (s := s) (by rw [← HBK.out]; exact HL.out))
              rcases g1' with g1 | ⟨g1, g2⟩
              · go_wp2
                go_ret
                exact ⟨by rw [HN.out]; first | done | rfl, rfl⟩
              · have g9 : decide ((s[0].toNat : Int) ≤ 122) = false := by simpa using g2
                go_wp2
                go_ret
                exact ⟨by rw [HN.out]; first | done | rfl, rfl⟩
            · have k1 : ((k : Int) == 0) = false := by simpa using k0
              have k2 : 0 < k := by omega
              clear k0
              by_cases g3 : (s[k].toNat : Int) = 95
              · have HG := Lib.hid (show okB (s[k].toNat : Int) = true by unfold okB; rw [decide_eq_true g3]; simp)
                have g4 : ((s[k].toNat : Int) != 95) = false := by rw [g3]; rfl
                have g5 : ((s[k].toNat : Int) == 95) = true := by rw [g3]; rfl
                have g6 : (s[k].toNat : Int) < 97 := by omega
                clear g3 g1'
                go_wp2
                go_round
                case rel => exact ⟨k + 1, by omega, by go_num, fun j hj => by
                  rcases Nat.lt_succ_iff_lt_or_eq.1 hj with q | q
                  · exact HOK.out j q
                  · subst q; rw [← HBK.out]; exact HG.out, fun _ => HFI.out k2⟩
                case measure => simp [intOf]; omega
              · have g4 : ((s[k].toNat : Int) != 95) = true := by simpa using g3
                have g5 : ((s[k].toNat : Int) == 95) = false := by simpa using g3
                by_cases g6 : 48 ≤ (s[k].toNat : Int) ∧ (s[k].toNat : Int) ≤ 57
                · obtain ⟨g6, g7⟩ := g6
                  have HG := Lib.hid (show okB (s[k].toNat : Int) = true by unfold okB digB; rw [decide_eq_true g6, decide_eq_true g7]; simp)
                  have g8 : (s[k].toNat : Int) < 97 := by omega
                  clear g3 g1'
                  go_wp2
                  go_round
                  case rel => exact ⟨k + 1, by omega, by go_num, fun j hj => by
                    rcases Nat.lt_succ_iff_lt_or_eq.1 hj with q | q
                    · exact HOK.out j q
                    · subst q; rw [← HBK.out]; exact HG.out, fun _ => HFI.out k2⟩
                  case measure => simp [intOf]; omega
                · have HN := Lib.hid (name_bad hlt (by
                    rw [← HBK.out]
                    have d : digB (s[k].toNat : Int) = false := by
                      unfold digB
                      by_cases q : 48 ≤ (s[k].toNat : Int)
                      · rw [decide_eq_false (p := (s[k].toNat : Int) ≤ 57) (by omega), Bool.and_false]
                      · rw [decide_eq_false q, Bool.false_and]
                    unfold okB; rw [HL.out, d, decide_eq_false g3]; rfl))
                  have g6' : (s[k].toNat : Int) < 48 ∨ 48 ≤ (s[k].toNat : Int) ∧ 57 < (s[k].toNat : Int) := by omega
                  clear g3 g6
                  rcases g1' with g1 | ⟨g1, g2⟩
                  · rcases g6' with g6 | ⟨g6, g7⟩
                    · go_wp2
                      go_ret
                      exact ⟨by rw [HN.out]; first | done | rfl, rfl⟩
                    · go_wp2
                      go_ret
                      exact ⟨by rw [HN.out]; first | done | rfl, rfl⟩
                  · have g9 : decide ((s[k].toNat : Int) ≤ 122) = false := by simpa using g2
                    have g10 : 57 < (s[k].toNat : Int) := by omega
                    have g11 : 48 ≤ (s[k].toNat : Int) := by omega
                    clear g6'
                    go_wp2
                    go_ret
                    exact ⟨by rw [HN.out]; first | done | rfl, rfl⟩
        · obtain rfl : k = s.size := by omega
          have HN := Lib.hid (name_yes h1' h2' (HFI.out h0) HOK.out)
          go_wp2
          go_ret
          exact ⟨by rw [HN.out]; first | done | rfl, rfl⟩

/-- The document's table in memory: what was told, what is used; F: its blocks. -/
structure RefAt (B : Nat) (w : World) (x : Nat) (ds us : Df) (F : Nat → Prop) : Prop where
  ex : ∃ v u, BlkAt x 29 #[v, u] w ∧ OwnEl rowK w B 58 v ds ∧ OwnEl rowK w B 58 u us ∧ Apart v u ∧ (∀ j, v.ownBlock = some j → F j) ∧ (∀ j, u.ownBlock = some j → F j)
  own : F x
  low : ∀ j, F j → B ≤ j ∧ j < w.heap.size
theorem RefAt.kept {B x : Nat} {w w' : World} {ds us : Df} {F G : Nat → Prop} (h : RefAt B w x ds us F) (k : Keeps G w w') (hn : ∀ j, F j → ¬ G j) : RefAt B w' x ds us F := by
  obtain ⟨v, u, h1, h2, h3, h4, h5, h6⟩ := h.ex
  exact ⟨⟨v, u, h1.kept k (hn _ h.own), h2.kept k fun j q => hn j (h5 j q), h3.kept k fun j q => hn j (h6 j q), h4, h5, h6⟩, h.own, fun j q => ⟨(h.low j q).1, Nat.lt_of_lt_of_le (h.low j q).2 k.size⟩⟩
theorem RefAt.keep {B x : Nat} {w w' : World} {ds us : Df} {F : Nat → Prop} (h : RefAt B w x ds us F) (k : Below w.heap.size w w') : RefAt B w' x ds us F :=
  h.kept (Keeps.of_below (fun _ => False) k) fun _ _ q => q
theorem RefAt.new (w : World) (B : Nat) (hB : B ≤ w.heap.size) : RefAt B (w.alloc (.cells #[.slice none 0 0, .slice none 0 0] 29)) w.heap.size [] [] (fun j => j = w.heap.size) := by
  refine ⟨⟨_, _, BlkAt.new _ _ _, OwnEl.nil _ _ _ _, OwnEl.nil _ _ _ _, Apart.nil _, ?_, ?_⟩, rfl, ?_⟩
  · intro j q; cases q
  · intro j q; cases q
  · intro j q; subst q; simp; omega
/-- What a call of F's owner leaves: F, and what is new. -/
def Wide (F : Nat → Prop) (w w' : World) : Nat → Prop := fun j => F j ∨ w.heap.size ≤ j ∧ j < w'.heap.size
theorem Wide.grows {F : Nat → Prop} {w w' : World} (k : Keeps F w w') : Grows F w (Wide F w w') w' := ⟨k, fun _ h => h.imp id fun q => q.1⟩
set_option maxHeartbeats 2000000 in
theorem refPlace19_is (B x : Nat) (ds us : Df) (F : Nat → Prop) (s : ByteArray) (w : World) (h : RefAt B w x ds us F) (hn : ds.length ≤ 1000) :
    Calls Tryd.prog 14 #[.pointer (some ⟨x, 0, none⟩), .string s] w fun e w' => e = .returned (.tuple #[.int .i64 (plV ds s), .bool (plB ds s)]) ∧ w = w' := by
  obtain ⟨v, u, h1, h2, -⟩ := h.ex
  obtain ⟨a, c, rfl, h3⟩ := h2.at
  clear h2 h
  obtain ⟨n, hnl⟩ : ∃ n, ds.length = n := ⟨_, rfl⟩
  rw [hnl] at h1 h3 hn
  have c0 : w.cell? ⟨x, 0, none⟩ = some (.slice a n c) := h1.cell 0
  have HL := Lib.hid hnl
  have H3 := Lib.hid h3
  clear h1 h3 hnl
  go_enter Tryd.func14, Tryd.ntmps14
  go_wp2
  go_loop [6] (fun i => ∃ k : Nat, k ≤ n ∧ i = .int .i64 k ∧ ∀ j, j < k → (el ds j).1 ≠ s) (fun i => n - (intOf i).toNat)
  case atStart => exact ⟨0, by omega, rfl, fun j hj => by omega⟩
  case round =>
    obtain ⟨k, hk, rfl, hno⟩ := hrel
    have HNO := Lib.hid hno
    clear hno
    by_cases hlt : k < n
    · have hlt' : (k : Int) < n := by omega
      obtain ⟨b, off, rfl, d0, d1⟩ := H3.out.row hlt
      by_cases he : (el ds k).1 = s
      · obtain ⟨p1, p2⟩ := pl_hit (n := s) (by rw [HL.out]; exact hlt) HNO.out he
        have P1 := Lib.hid p1
        have P2 := Lib.hid p2
        have ht := str_same he
        clear p1 p2 he
        go_wp2
        go_ret2
        exact ⟨by rw [P1.out, P2.out]; first | done | rfl, rfl⟩
      · have HE := Lib.hid he
        have ht := str_apart he
        clear he
        go_wp2
        go_round
        case rel => exact ⟨k + 1, by omega, by go_num, fun j hj => by
          rcases Nat.lt_succ_iff_lt_or_eq.1 hj with q | q
          · exact HNO.out j q
          · subst q; exact HE.out⟩
        case measure => simp [intOf]; omega
    · obtain ⟨p1, p2⟩ := pl_none (ds := ds) (n := s) (fun d hd => by
        obtain ⟨j, hj, rfl⟩ := List.mem_iff_getElem.1 hd
        rw [el_eq hj]
        exact HNO.out j (by have := HL.out; omega))
      have P1 := Lib.hid p1
      have P2 := Lib.hid p2
      clear p1 p2
      obtain rfl : k = n := by omega
      go_wp2
      go_ret2
      exact ⟨by rw [P1.out, P2.out]; first | done | rfl, rfl⟩
end Go.Proofs.YthaccdalciihpaaDoor
