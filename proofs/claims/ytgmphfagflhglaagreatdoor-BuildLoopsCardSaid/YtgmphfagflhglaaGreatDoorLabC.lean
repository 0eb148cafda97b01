/- Package label: what Use and New leave; what nobody's table answers. Conditions: as few names as 1000; texts as short as any can be. -/
import Derived.Test.YtgmphfagflhglaaGreatDoorLabB
namespace Go.Proofs.YtgmphfagflhglaaGreatDoor
open Go.RowKit Go.Maps

set_option maxRecDepth 100000 in
set_option maxHeartbeats 2000000 in
theorem labUse_is (B t : Nat) (ds us : Df) (F : Nat → Prop) (s : ByteArray) (p : Int) (w : World) (h : LabAt B w t ds us F) (hs : s.size ≤ maxLen) (hn : ds.length + us.length ≤ 2000) (hB : B ≤ w.heap.size) :
    Calls Tryz.prog 39 #[.pointer (some ⟨t, 0, none⟩), .string s, .int .i64 p] w (LabTo B t (useE s) ds (useS us s p) F w) := by
  have H := Lib.hid h
  obtain ⟨M, m, D, rows, v, h, hm⟩ := h
  obtain ⟨i0, hi, hz0, hz1, hz2⟩ := info_el infoUse
  cases hN : nameB s
  · obtain ⟨e1, e2⟩ := use_no (us := us) p hN
    rw [e1, e2]
    have C := Lib.hid (labSpot_no h s hs hN)
    clear h hs hN e1 e2
    go_enter Tryz.func39, Tryz.ntmps39
    go_wp2_with (go_at_call 36; ((with_reducible refine (C.out).mono ?_); rintro e w1 ⟨rfl, rfl⟩))
    go_ret
    exact ⟨F, rfl, H.out, Grows.refl _ _⟩
  · obtain ⟨e1, e2⟩ := use_yes (us := us) p hN
    rw [e1, e2]
    by_cases hr : s ∈ rows.map (·.1)
    · obtain ⟨⟨n, b⟩, hr2, e⟩ := List.mem_map.1 hr
      simp only at e
      subst e
      have C := Lib.hid (labSpot_old h n b hs hN hr2)
      have HM := Lib.hid hm
      have c1 : w.cell? ⟨t, 1, none⟩ = some v := h.blk.cell 1
      obtain ⟨ub, u1, u2, u3⟩ := h.uses
      have hul : ub.length ≤ 2000 := by omega
      have HU := Lib.hid (fun cs w1 v' o1 hg hx => LabIn.used h hr2 p hB (cs := cs) (w1 := w1) (v' := v') u1 u2 u3 o1 hg hx)
      have HI := Lib.hid h
      have HUO := Lib.hid u1
      have HUX := Lib.hid (own_blk_ne u1 h.blk (by decide))
      clear h hs hN e1 e2 hr hr2 hm u1 u2 u3
      go_enter Tryz.func39, Tryz.ntmps39
      go_wp2_with (first
        | (go_at_call 36; ((with_reducible refine (C.out).mono ?_); rintro e w1 ⟨rfl, rfl⟩))
        | (at_builtin; refine wpList_append_el1 rfl _ _ 79 rfl B 117 i0 _ Tryz.underlying79 hi hz0 hz1 (by omega) rfl rfl (HUO.out.keep ((Below.refl _ _).alloc (Nat.le_refl _) _)) rfl (one_el (K := useK) (b := w.heap.size) w 117 (b, p) #[.pointer (some ⟨b, 0, none⟩), .int .i64 p] rfl rfl) (by omega) (by simp; omega) ?_; intro v2 w2 hown2 hgrow2 hnext2; obtain ⟨a2, n2, c2, rfl⟩ := OwnEl.shape hown2; have hbk : BlkAt t 81 #[.map (some M), v, .pointer (some ⟨t, 0, none⟩)] w2 := (HI.out.blk.keep ((Below.refl _ _).alloc (Nat.le_refl _) _)).kept (Keeps.of_grown (F := fun j => v.ownBlock = some j) hgrow2 fun _ q => q) HUX.out; have q1 := hbk.cell 1; have q2 := hbk.free 1; have HG := Lib.hid (HU.out _ _ _ hown2 hgrow2 hnext2); clear hown2 hgrow2 hnext2 hbk))
      go_ret
      exact ⟨_, rfl, ⟨M, m, D, rows, _, HG.out.1, by have := HM.out; rw [List.length_append]; omega⟩, HG.out.2⟩
    · have C := Lib.hid (labSpot_new h s hs hN hr (by omega) hB)
      have HM := Lib.hid hm
      have hul : us.length ≤ 2000 := by omega
      clear h hs hN e1 e2 hr hm
      go_enter Tryz.func39, Tryz.ntmps39
      go_wp2_with (first
        | (go_at_call 36; ((with_reducible refine (C.out).mono ?_); rintro e w1 ⟨b, D', F', rfl, hI, hG⟩); have c1 : w1.cell? ⟨t, 1, none⟩ = some v := hI.blk.cell 1; have hs1 := hG.keeps.size; obtain ⟨ub, u1, u2, u3⟩ := hI.uses; have hul1 : ub.length ≤ 2000 := (by omega); have HU := Lib.hid (fun cs w2 v' o1 hg hx => LabIn.used hI (s := s) (b := b) (by simp) p (by omega) (cs := cs) (w1 := w2) (v' := v') u1 u2 u3 o1 hg hx); have HI := Lib.hid hI; have HUO := Lib.hid u1; have HUX := Lib.hid (own_blk_ne u1 hI.blk (by decide)); have HG1 := Lib.hid hG; clear hI hG u1 u2 u3)
        | (at_builtin; refine wpList_append_el1 rfl _ _ 79 rfl B 117 i0 _ Tryz.underlying79 hi hz0 hz1 (by omega) rfl rfl (HUO.out.keep ((Below.refl _ _).alloc (Nat.le_refl _) _)) rfl (one_el (K := useK) (b := w1.heap.size) w1 117 (b, p) #[.pointer (some ⟨b, 0, none⟩), .int .i64 p] rfl rfl) (by omega) (by simp; omega) ?_; intro v2 w2 hown2 hgrow2 hnext2; obtain ⟨a2, n2, c2, rfl⟩ := OwnEl.shape hown2; have hbk : BlkAt t 81 #[.map (some M), v, .pointer (some ⟨t, 0, none⟩)] w2 := (HI.out.blk.keep ((Below.refl _ _).alloc (Nat.le_refl _) _)).kept (Keeps.of_grown (F := fun j => v.ownBlock = some j) hgrow2 fun _ q => q) HUX.out; have q1 := hbk.cell 1; have q2 := hbk.free 1; have HG := Lib.hid (HU.out _ _ _ hown2 hgrow2 hnext2); clear hown2 hgrow2 hnext2 hbk))
      go_ret
      exact ⟨_, rfl, ⟨M, m + 1, D', _, _, HG.out.1, by have := HM.out; rw [List.length_append, List.length_singleton]; omega⟩, HG1.out.trans HG.out.2⟩

/-- What New answers: a table of its own. -/
def LabNew (B : Nat) (w : World) (e : Ending) (w' : World) : Prop := ∃ t F, e = .returned (.pointer (some ⟨t, 0, none⟩)) ∧ LabAt B w' t [] [] F ∧ (∀ j, F j → w.heap.size ≤ j) ∧ Below w.heap.size w w'
set_option maxHeartbeats 2000000 in
theorem labNew_is (B : Nat) (w : World) (hB : B ≤ w.heap.size) : Calls Tryz.prog 16 #[] w (LabNew B w) := by
  have hmm := @run_makeMap Tryz.prog
  have HM0 := Lib.hid (World.ownsMap_made w Tryz.prog 9 ptrElem)
  go_enter Tryz.func16, Tryz.ntmps16
  go_wp2
  go_ret
  have hm := HM0.out
  have b1 := (Below.refl w.heap.size w).alloc (Nat.le_refl _) (.map #[] 0)
  have bt := BlkAt.new (w.alloc (.map #[] 0)) 81 #[.map (some w.heap.size), .slice none 0 0, .pointer (some ⟨w.heap.size + 1, 0, none⟩)]
  have hs1 : (w.alloc (.map #[] 0)).heap.size = w.heap.size + 1 := by simp
  rw [hs1] at bt
  have hm2 := hm.alloc (.cells #[.map (some w.heap.size), .slice none 0 0, .pointer (some ⟨w.heap.size + 1, 0, none⟩)] 81)
  refine ⟨w.heap.size + 1, fun j => j = w.heap.size ∨ j = w.heap.size + 1, rfl, ⟨w.heap.size, 0, .map [], [], .slice none 0 0, ⟨bt, hm2, NmIs.nil, ?_, List.nodup_nil, ?_, ⟨[], OwnEl.nil _ _ _ _, rfl, ?_⟩, List.nodup_nil, ?_, .inr rfl, .inl rfl, ?_, ?_, ?_⟩, Nat.le_refl _⟩, ?_, ?_⟩
  · intro r hr; cases hr
  · intro d hd; cases hd
  · intro i hi; cases hi
  · intro r hr; cases hr
  · intro r hr; cases hr
  · intro j q; cases q
  · intro j q
    simp
    omega
  · intro j q; omega
  · exact b1.alloc (by simp) _

/-! ### nobody's table -/
section
variable {p : Value} {w : World}
theorem labDefine_nobody (s : ByteArray) (x : Int) (h : MadeL p w false) : Calls Tryz.prog 20 #[p, .string s, .int .i64 x] w fun e w' => e = .returned (.int .i64 1) ∧ w = w' := by
  have C := Lib.hid (labSpot_nobody p s w h)
  clear h
  go_enter Tryz.func20, Tryz.ntmps20
  go_wp2_with (go_at_call 36; ((with_reducible refine (C.out).mono ?_); rintro e w1 ⟨rfl, rfl⟩))
  go_ret
  exact ⟨rfl, rfl⟩
theorem labUse_nobody (s : ByteArray) (x : Int) (h : MadeL p w false) : Calls Tryz.prog 39 #[p, .string s, .int .i64 x] w fun e w' => e = .returned (.int .i64 1) ∧ w = w' := by
  have C := Lib.hid (labSpot_nobody p s w h)
  clear h
  go_enter Tryz.func39, Tryz.ntmps39
  go_wp2_with (go_at_call 36; ((with_reducible refine (C.out).mono ?_); rintro e w1 ⟨rfl, rfl⟩))
  go_ret
  exact ⟨rfl, rfl⟩
theorem labResolve_nobody (h : MadeL p w false) : Calls Tryz.prog 24 #[p] w fun e w' => e = .returned (.tuple #[.slice none 0 0, .string ⟨#[]⟩, .int .i64 1]) ∧ w = w' := by
  have C := Lib.hid h
  clear h
  go_enter Tryz.func24, Tryz.ntmps24
  go_wp2_with (go_at_call 40; ((with_reducible refine (C.out.now).mono ?_); rintro e w1 ⟨rfl, rfl⟩))
  exact bodyPost_ret (v := .tuple #[.slice none 0 0, .string ⟨#[]⟩, .int .i64 1]) (by simp [results, Tryz.results24, go_sem]) rfl ⟨rfl, rfl⟩
end
end Go.Proofs.YtgmphfagflhglaaGreatDoor
