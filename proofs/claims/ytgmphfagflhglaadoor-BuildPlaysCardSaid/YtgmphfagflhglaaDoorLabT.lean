/- The document's own names of places: what Resolve and Names answer; whether two lists are one. Conditions: as few as 1000. -/
import Derived.Test.YtgmphfagflhglaaDoorLabS
namespace Go.Proofs.YtgmphfagflhglaaDoor
open Go.RowKit Go.IntWalk

set_option maxRecDepth 100000 in
set_option maxHeartbeats 2000000 in
theorem refResolve19_is (B x : Nat) (ds us : Df) (F : Nat → Prop) (w : World) (h : RefAt B w x ds us F) (hd : ds.length ≤ 1000) (hn : us.length ≤ 1000) :
    Calls Tryd.prog 29 #[.pointer (some ⟨x, 0, none⟩)] w (RetRes ds us w) := by
  have CP := Lib.hid fun s w h => refPlace19_is B x ds us F s w h hd
  obtain ⟨v0, u, h1, -, h3, -⟩ := h.ex
  obtain ⟨a, c, rfl, h4⟩ := h3.at
  obtain ⟨i0, hi, hz0, hz1, hz2⟩ := info_el infoFix
  obtain ⟨n, hnl⟩ : ∃ n, us.length = n := ⟨_, rfl⟩
  rw [hnl] at h1 h4 hn
  have HNL := Lib.hid hnl
  have H := Lib.hid h
  have H1 := Lib.hid h1
  have H4 := Lib.hid h4
  clear h h1 h3 h4 hnl hd
  go_enter Tryd.func29, Tryd.ntmps29
  go_wp2
  go_loopw [5, 6] (fun v i wr => ∃ k : Nat, k ≤ n ∧ i = .int .i64 k ∧ OwnEl fixK wr w.heap.size 68 v ((us.take k).map (fixOf ds)) ∧ Below w.heap.size w wr ∧ ∀ j, j < k → plB ds (el us j).1 = true) (fun _ i _ => n - (intOf i).toNat)
  case atStart => exact ⟨0, by omega, rfl, by rw [List.take_zero]; exact OwnEl.nil _ _ _ _, Below.refl _ _, fun j hj => by omega⟩
  case round =>
    obtain ⟨k, hk, rfl, ho, hb, hall⟩ := hrel
    have HA := Lib.hid hall
    have HO := Lib.hid ho
    have HB := Lib.hid hb
    have hsz := hb.size
    have c1 : wr.cell? ⟨x, 1, none⟩ = some (.slice a n c) := (H1.out.keep hb).cell 1
    have HR := Lib.hid (H.out.keep hb)
    by_cases hlt : k < n
    · have hlt' : (k : Int) < n := by omega
      have hkl : k < us.length := by rw [HNL.out]; exact hlt
      obtain ⟨b, off, rfl, d0, d1⟩ := (H4.out.keep hb).row hlt
      have HFS := Lib.hid (fixes_snoc ds us hkl)
      have HRN := Lib.hid (@res_no ds us k hkl HA.out)
      obtain ⟨M, hM⟩ : ∃ M, el us k = M := ⟨_, rfl⟩
      obtain ⟨s, at_⟩ := M
      rw [hM] at d0 d1 HFS HRN
      simp only at d0 d1 HFS HRN
      obtain ⟨L, hL⟩ : ∃ L, (us.take k).map (fixOf ds) = L := ⟨_, rfl⟩
      rw [hL] at HO HFS
      have hLl : L.length ≤ 1000 := by rw [← hL, List.length_map, List.length_take]; omega
      have HM := Lib.hid hM
      clear ho hb hall hM hL hkl
      cases hp : plB ds s
      · have HN := Lib.hid (HRN.out hp)
        have HP := Lib.hid hp
        clear hp
        go_wp2_with (go_at_call 47; ((with_reducible refine (CP.out _ _ HR.out).mono ?_); rintro e w1 ⟨rfl, rfl⟩); have hp := HP.out)
        go_quiet (fail)
        go_wp2
        refine bodyPost_ret (v := .tuple #[.slice none 0 0, .string s, .int .i64 10]) (by simp [results, Tryd.results29, go_sem]) rfl ⟨.slice none 0 0, ?_, ?_, ?_⟩
        · rw [HN.out.2.1, HN.out.2.2.1]
        · rw [HN.out.1]; exact OwnEl.nil _ _ _ _
        · exact ⟨HB.out.os, HB.out.tape, HB.out.output, HB.out.size, HB.out.block⟩
      · have HP := Lib.hid hp
        obtain ⟨a0, n0, c0, rfl⟩ := OwnEl.shape HO.out
        clear hp
        go_wp2_with (first
          | (go_at_call 47; ((with_reducible refine (CP.out _ _ HR.out).mono ?_); rintro e w1 ⟨rfl, rfl⟩); have hp := HP.out)
          | (at_builtin; refine wpList_append_el1 rfl _ _ 63 rfl w.heap.size 68 i0 _ Tryd.underlying63 hi hz0 hz1 (by omega) rfl rfl (HO.out.keep ((Below.refl _ _).alloc (Nat.le_refl _) _)) rfl (one_el (K := fixK) (b := wr.heap.size) wr 68 (at_, plV ds s) #[.int .i64 at_, .int .i64 (plV ds s)] rfl rfl) (by omega) (by simp; omega) ?_; intro v2 w2 hown2 hgrow2 hnext2; have HO2 := Lib.hid hown2; have HB2 := Lib.hid ((HB.out.alloc hsz _).grown hgrow2 (by simp; omega) fun j hj => (HO.out.lt j hj).1); obtain ⟨a2, n2, c2, rfl⟩ := OwnEl.shape hown2; clear hown2 hgrow2 hnext2))
        go_roundw
        case rel => exact ⟨k + 1, by omega, by go_num, by rw [HFS.out]; exact HO2.out, HB2.out, fun j hj => by
          rcases Nat.lt_succ_iff_lt_or_eq.1 hj with q | q
          · exact HA.out j q
          · subst q; rw [HM.out]; exact HP.out⟩
        case measure => simp [intOf]; omega
    · obtain rfl : k = n := by omega
      have HY := Lib.hid (@res_yes ds us (fun j hj => HA.out j (by have := HNL.out; omega)))
      clear ho hb hall
      obtain ⟨a0, n0, c0, rfl⟩ := OwnEl.shape HO.out
      go_wp2
      refine bodyPost_ret (v := .tuple #[.slice a0 n0 c0, .string ⟨#[]⟩, .int .i64 0]) (by simp [results, Tryd.results29, go_sem]) rfl ⟨.slice a0 n0 c0, ?_, ?_, HB.out⟩
      · rw [HY.out.2.1, HY.out.2.2.1]
      · have := HO.out
        rw [HY.out.1]
        rw [← HNL.out, List.take_length] at this
        exact this
end Go.Proofs.YtgmphfagflhglaaDoor
