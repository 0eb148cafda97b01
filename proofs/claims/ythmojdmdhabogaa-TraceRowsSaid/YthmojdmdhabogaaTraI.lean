/- The document's Addrs. Conditions: the list can be read; it is no longer than 2^19. -/
import Derived.Test.YthmojdmdhabogaaTraG
namespace Go.Proofs.Ythmojdmdhabogaa
open Go.RowKit Go.IntWalk

theorem tAddrs_take {l : List Mk} {k : Nat} (h : k < l.length) : tAddrs (l.take (k + 1)) = if (mkAt l k).2.1 = -1 then tAddrs (l.take k) else ins iLt (mkAt l k).2.1 (tAddrs (l.take k)) := by
  rw [take_snoc h, tAddrs_snoc]
  rfl
theorem tAddrs_rises (l : List Mk) : (tAddrs l).Pairwise (fun a b => iLt a b = true) := rise_rises iLt_tot _
theorem below_first {w w1 : World} {row : Option Nat} (g : w.grownBy w1 row) (h : ∀ q, row = some q → w.heap.size ≤ q) : Below w.heap.size w w1 := (Below.refl _ _).grown g (Nat.le_refl _) h
set_option maxRecDepth 10000 in
set_option maxHeartbeats 4000000 in
theorem refTrAddrs_is (a : Option Addr) (n c : Nat) (l : List Mk) (w : World) (h : MkAt w a n c l) (hn : n ≤ 524288) :
    Calls Try.prog 16 #[.slice a n c] w fun r w' => ∃ v, r = .returned v ∧ OwnEl intK w' w.heap.size 3 v (tAddrs l) ∧ Below w.heap.size w w' := by
  obtain ⟨i0, hi, hz0, hz1, hz2⟩ := info_els infoIntT
  have hcap := h.cap
  have hbig := h.big
  unfold maxLen at hbig
  have HL := Lib.hid h
  have HLN := Lib.hid h.len
  clear h
  go_enter Try.func16, Try.ntmps16
  go_wp2
  go_loopw [3, 4] (fun v i wr => ∃ k : Nat, k ≤ n ∧ i = .int .i64 k ∧ OwnEl intK wr w.heap.size 3 v (tAddrs (l.take k)) ∧ Below w.heap.size w wr) (fun _ i _ => n - (intOf i).toNat)
  case atStart => exact ⟨0, by omega, rfl, by rw [List.take_zero]; exact OwnEl.nil _ _ _ _, Below.refl _ _⟩
  case round =>
    obtain ⟨k, hk, rfl, ho, hb⟩ := hrel
    have Hb := Lib.hid hb
    obtain ⟨ao, co, rfl, hat⟩ := ho.at
    have HR := Lib.hid (tAddrs_rises (l.take k))
    have hml : (tAddrs (l.take k)).length ≤ k := by have := tAddrs_len (l.take k); rw [List.length_take] at this; omega
    have HT := Lib.hid (fun h => tAddrs_take (l := l) (k := k) h)
    have HF := Lib.hid (show tAddrs (l.take n) = tAddrs l by rw [← HLN.out, List.take_length])
    have hgen : ∃ out, tAddrs (l.take k) = out := ⟨_, rfl⟩
    obtain ⟨out, hout⟩ := hgen
    rw [hout] at ho hat hml HR HT ⊢
    obtain ⟨m, hm⟩ : ∃ m, out.length = m := ⟨_, rfl⟩
    rw [hm] at ho hat hml ⊢
    have HO := Lib.hid ho
    have HOUT := Lib.hid hout
    clear hout
    have hcb := hat.big
    have hcm := hat.cap
    unfold maxLen at hcb
    have HAT := Lib.hid hat
    have HM := Lib.hid hm
    clear hb ho hat hm
    by_cases hlt : k < n
    · obtain ⟨g, off, rfl, hc⟩ := (HL.out.keep Hb.out).lie (by omega)
      obtain ⟨-, c1, -⟩ := hc k hlt
      have hkl : k < l.length := by have := HLN.out; omega
      have HT1 := Lib.hid (HT.out hkl)
      obtain ⟨x, hx⟩ : ∃ x, (mkAt l k).2.1 = x := ⟨_, rfl⟩
      rw [hx] at c1 HT1
      have hlt' : (k : Int) < n := by omega
      clear hc hx hkl HT
      go_wp2
      go_loopw [6] (fun i wr' => ∃ j : Nat, j ≤ m ∧ i = .int .i64 j ∧ (∀ q, q < j → el out q < x) ∧ wr' = wr) (fun i _ => m - (intOf i).toNat)
      case atStart => exact ⟨0, by omega, rfl, fun q hq => by omega, rfl⟩
      case round =>
        obtain ⟨j, hj, rfl, hq, rfl⟩ := hrel
        have HQ := Lib.hid hq
        clear hq
        by_cases hjm : j < m
        · have hjm' : (j : Int) < m := by omega
          obtain ⟨go, offo, rfl, hco⟩ := IntAt.lie1 HAT.out (by omega)
          have cj := hco j hjm
          obtain ⟨y, hy⟩ : ∃ y, el out j = y := ⟨_, rfl⟩
          rw [hy] at cj
          have HY := Lib.hid hy
          clear hco hy
          by_cases hyx : y < x
          · go_wp2
            go_roundw
            case rel => exact ⟨j + 1, by omega, by go_num, fun q hq => by
              rcases Nat.lt_succ_iff_lt_or_eq.1 hq with z | z
              · exact HQ.out q z
              · subst z; rw [HY.out]; exact hyx, by first | rfl | trivial⟩
            case measure => simp [intOf]; omega
          · have hyx' : x ≤ y := by omega
            by_cases hx1 : x = -1
            · have e1 : (x == -1) = true := by simp [hx1]
              have HX := Lib.hid hx1
              clear hx1
              go_wp2
              go_roundw
              case rel => exact ⟨k + 1, by omega, by go_num, by rw [HT1.out, if_pos HX.out]; exact HO.out, Hb.out⟩
              case measure => simp [intOf]; omega
            · have e1 : (x == -1) = false := by simp [hx1]
              have HX := Lib.hid hx1
              clear hx1
              by_cases hye : y = x
              · have e2 : (y == x) = true := by simp [hye]
                have HE := Lib.hid (show ins iLt x out = out by
                  rw [ins_at x out j (by have := HM.out; omega) (fun q hq => by have := HQ.out q hq; simpa [iLt, el] using this) (fun _ => by have := HY.out; unfold el at this; rw [this]; simp [iLt]; omega), if_pos ⟨by have := HM.out; omega, by have := HY.out; unfold el at this; rw [this]; exact hye⟩])
                clear hye
                go_wp2
                go_roundw
                case rel => exact ⟨k + 1, by omega, by go_num, by rw [HT1.out, if_neg HX.out, HE.out]; exact HO.out, Hb.out⟩
                case measure => simp [intOf]; omega
              · have e2 : (y == x) = false := by simp [hye]
                have HN := Lib.hid hye
                clear hye
                obtain ⟨a2, c2, hs2, hd2⟩ := HAT.out.from (m := j) hj
                have hsl1 : ∀ w, (Instr.slice 28 (.slice (some ⟨go, offo, none⟩) m co) none (some (.int .i64 j)) none).run Try.prog w = .ok (.slice (some ⟨go, offo, none⟩) j co) w := fun w => by rw [run_cut_to 28 Try.underlying28 (s := 1) (fun w => Try.sizeOf3 w) (some ⟨go, offo, none⟩) m co j (by omega) w, sliced_to]
                have hsl2 : ∀ w, (Instr.slice 28 (.slice (some ⟨go, offo, none⟩) m co) (some (.int .i64 j)) none none).run Try.prog w = .ok (.slice a2 (m - j : Nat) c2) w := fun w => by rw [run_cut_from 28 Try.underlying28 (s := 1) (fun w => Try.sizeOf3 w) (some ⟨go, offo, none⟩) m co j hj w]; rw [show (1 : Nat) = intK.k from rfl, hs2]
                have H1 := Lib.hid (HAT.out.pre hj)
                have H2 := Lib.hid hd2
                have HI := Lib.hid (show ins iLt x out = out.take j ++ x :: out.drop j by
                  rw [ins_at x out j (by have := HM.out; omega) (fun q hq => by have := HQ.out q hq; simpa [iLt, el] using this) (fun _ => by have := HY.out; unfold el at this; rw [this]; simp [iLt]; omega), if_neg (fun q => by have z := HY.out; unfold el at z; rw [z] at q; exact HN.out q.2)])
                have hl1 : (out.take j).length = j := by rw [List.length_take]; have := HM.out; omega
                have HL1 := Lib.hid hl1
                obtain ⟨d, hd⟩ : ∃ d, m - j = d := ⟨_, rfl⟩
                rw [hd] at hsl2 H2
                have hdb : d ≤ m := by omega
                clear hs2 hd2 hl1 hd
                go_wp2_with (first
                  | (at_builtin; refine wpList_append_els rfl _ _ 28 rfl wr.heap.size 3 i0 (.int .i64 0) Try.underlying28 hi hz0 hz1 (by omega) rfl rfl (OwnEl.nil _ _ _ _) rfl H1.out (by simp; omega) (Nat.le_refl _) ?_; intro v1 w1 h1 g1; have k1 := below_first g1 (fun q e => by cases e); have s1 := k1.size)
                  | (at_builtin; refine wpList_append_els rfl _ _ 28 rfl wr.heap.size 3 i0 (.int .i64 0) Try.underlying28 hi hz0 hz1 (by omega) rfl rfl (h1.keep ((Below.refl _ _).alloc (Nat.le_refl _) _)) rfl (int_one w1 x) (by rw [List.nil_append, HL1.out]; omega) (by simp; omega) ?_; intro v2 w2 h2 g2; have k2 := (k1.alloc s1 _).grown g2 (by simp; omega) (fun q e => (h1.lt q e).1); have s2 := k2.size)
                  | (at_builtin; refine wpList_append_els rfl _ _ 28 rfl wr.heap.size 3 i0 (.int .i64 0) Try.underlying28 hi hz0 hz1 (by omega) rfl rfl h2 rfl (H2.out.keep k2) (by rw [List.nil_append, List.length_append, HL1.out, List.length_singleton]; omega) s2 ?_; intro v3 w3 h3 g3; have k3 := k2.grown g3 s2 (fun q e => (h2.lt q e).1)))
                go_roundw
                case rel => exact ⟨k + 1, by omega, by go_num, by
                  rw [HT1.out, if_neg HX.out, HI.out]
                  have := h3.mono Hb.out.size
                  rw [List.nil_append, List.append_assoc, List.singleton_append] at this
                  exact this, Hb.out.trans (k3.mono Hb.out.size)⟩
                case measure => simp [intOf]; omega
        · obtain rfl : j = m := by omega
          by_cases hx1 : x = -1
          · have e1 : (x == -1) = true := by simp [hx1]
            have HX := Lib.hid hx1
            clear hx1
            go_wp2
            go_roundw
            case rel => exact ⟨k + 1, by omega, by go_num, by rw [HT1.out, if_pos HX.out]; exact HO.out, Hb.out⟩
            case measure => simp [intOf]; omega
          · have e1 : (x == -1) = false := by simp [hx1]
            have HX := Lib.hid hx1
            clear hx1
            obtain ⟨a2, c2, hs2, hd2⟩ := HAT.out.from (m := j) hj
            have hsl1 : ∀ w, (Instr.slice 28 (.slice ao j co) none (some (.int .i64 j)) none).run Try.prog w = .ok (.slice ao j co) w := fun w => by rw [run_cut_to 28 Try.underlying28 (s := 1) (fun w => Try.sizeOf3 w) ao j co j (by omega) w, sliced_to]
            have hsl2 : ∀ w, (Instr.slice 28 (.slice ao j co) (some (.int .i64 j)) none none).run Try.prog w = .ok (.slice a2 (j - j : Nat) c2) w := fun w => by rw [run_cut_from 28 Try.underlying28 (s := 1) (fun w => Try.sizeOf3 w) ao j co j hj w]; rw [show (1 : Nat) = intK.k from rfl, hs2]
            have H1 := Lib.hid (HAT.out.pre hj)
            have H2 := Lib.hid hd2
            have HI := Lib.hid (show ins iLt x out = out.take j ++ x :: out.drop j by
              rw [ins_at x out j (by have := HM.out; omega) (fun q hq => by have := HQ.out q hq; simpa [iLt, el] using this) (fun z => by have := HM.out; omega), if_neg (fun q => by have := HM.out; omega)])
            have hl1 : (out.take j).length = j := by rw [List.length_take]; have := HM.out; omega
            have HL1 := Lib.hid hl1
            obtain ⟨d, hd⟩ : ∃ d, j - j = d := ⟨_, rfl⟩
            rw [hd] at hsl2 H2
            have hdb : d ≤ j := by omega
            clear hs2 hd2 hl1 hd
            go_wp2_with (first
              | (at_builtin; refine wpList_append_els rfl _ _ 28 rfl wr.heap.size 3 i0 (.int .i64 0) Try.underlying28 hi hz0 hz1 (by omega) rfl rfl (OwnEl.nil _ _ _ _) rfl H1.out (by simp; omega) (Nat.le_refl _) ?_; intro v1 w1 h1 g1; have k1 := below_first g1 (fun q e => by cases e); have s1 := k1.size)
              | (at_builtin; refine wpList_append_els rfl _ _ 28 rfl wr.heap.size 3 i0 (.int .i64 0) Try.underlying28 hi hz0 hz1 (by omega) rfl rfl (h1.keep ((Below.refl _ _).alloc (Nat.le_refl _) _)) rfl (int_one w1 x) (by rw [List.nil_append, HL1.out]; omega) (by simp; omega) ?_; intro v2 w2 h2 g2; have k2 := (k1.alloc s1 _).grown g2 (by simp; omega) (fun q e => (h1.lt q e).1); have s2 := k2.size)
              | (at_builtin; refine wpList_append_els rfl _ _ 28 rfl wr.heap.size 3 i0 (.int .i64 0) Try.underlying28 hi hz0 hz1 (by omega) rfl rfl h2 rfl (H2.out.keep k2) (by rw [List.nil_append, List.length_append, HL1.out, List.length_singleton]; omega) s2 ?_; intro v3 w3 h3 g3; have k3 := k2.grown g3 s2 (fun q e => (h2.lt q e).1)))
            go_roundw
            case rel => exact ⟨k + 1, by omega, by go_num, by
              rw [HT1.out, if_neg HX.out, HI.out]
              have := h3.mono Hb.out.size
              rw [List.nil_append, List.append_assoc, List.singleton_append] at this
              exact this, Hb.out.trans (k3.mono Hb.out.size)⟩
            case measure => simp [intOf]; omega
    · obtain rfl : k = n := by omega
      go_wp2
      go_ret
      exact ⟨_, rfl, by rw [← HF.out, HOUT.out]; exact HO.out, Hb.out⟩
end Go.Proofs.Ythmojdmdhabogaa
