/- Package build: what aim leaves; addi, isCounter; a loop's inside is called. Conditions: as few as 1000. -/
import Derived.Test.YtgmphfagflhglaaGreatDoorBldA
namespace Go.Proofs.YtgmphfagflhglaaGreatDoor
open Go.RowKit Go.Maps Go.IntWalk

set_option maxRecDepth 100000 in
set_option maxHeartbeats 2000000 in
theorem drAim_yes (B d : Nat) (s : Bst) (F : Nat → Prop) (o x a : Int) (nm : ByteArray) (w : World) (h : DrAt B w d s F) (hL : ShapesLaid w) (hs : nm.size ≤ maxLen) (hn : s.L.length ≤ 1000) (hd : s.ds.length ≤ 1000) (hu : s.us.length ≤ 1000) (hB : B ≤ w.heap.size) (hi : insE (o, x, a, 0, 0) = 0) (hm : nameB nm = true) :
    Calls Tryz.prog 22 #[.pointer (some ⟨d, 0, none⟩), .agg #[.int .i64 o, .int .i64 x, .int .i64 a, .int .i64 0, .int .i64 0], .string nm] w (DrTo B d 0 ((s.use nm s.L.length).add [(o, x, a, 0, 0)]) F w) := by
  have HI := Lib.hid (InsW.new w w o x a 0 0 29 (Below.refl _ _) (Nat.le_refl _))
  have HBX := Lib.hid (BlkAt.new w 29 #[.int .i64 o, .int .i64 x, .int .i64 a, .int .i64 0, .int .i64 0])
  have C := Lib.hid (codeCheckI_is o x a 0 0 0 _ (HI.out.sh hL) hi)
  have hu0 : useE nm = 0 := by unfold useE; rw [hm]; rfl
  obtain ⟨t, v, G, h⟩ := h
  obtain ⟨av, cv, rfl, -⟩ := h.own.at
  have H := Lib.hid h
  obtain ⟨i0, hi, hz0, hz1, hz2⟩ := info_el infoInsA
  clear h hL hm
  go_enter Tryz.func22, Tryz.ntmps22
  go_wp2_with (go_at_call 38; ((with_reducible refine (C.out).mono ?_); rintro e w1 ⟨rfl, hb1⟩); have HW := Lib.hid (HI.out.keep hb1); have HX1 := Lib.hid (HBX.out.keep hb1); have H1 := Lib.hid (H.out.keep HW.out.below); have c0 := H1.out.blk.cell 0; have c1 := H1.out.blk.cell 1; clear hb1)
  go_still_tail 10, (by kernel_rfl)
  change wpList _ _ _ _ _ w1.drew
  have hk : Below w1.heap.size w1 w1.drew := (Below.refl _ _).drew
  have H1 := Lib.hid (H1.out.keep hk)
  have HX1 := Lib.hid (HX1.out.keep hk)
  have HB1 := Lib.hid (HW.out.below.trans (hk.mono HW.out.below.size))
  have hsz := HB1.out.size
  generalize w1.drew = w2 at *
  clear c0 c1 hk
  have HU := Lib.hid (labUse_is B t s.ds s.us G nm s.L.length w2 H1.out.tab hs (by omega) (by omega))
  rw [hu0] at HU
  have HGN := Lib.hid (show ¬ G w.heap.size from fun q => Nat.lt_irrefl _ (H.out.low _ (H.out.fg _ q)).2)
  go_wp2_with (go_at_call 39; ((with_reducible refine (HU.out).mono ?_); rintro e w3 ⟨G1, rfl, t1, g1⟩); have HG := Lib.hid (H1.out.named (by omega) t1 g1); have hx3 := HX1.out.kept g1.keeps HGN.out; have e0 := hx3.cell 0; have e1 := hx3.cell 1; have e2 := hx3.cell 2; have e3 := hx3.cell 3; have e4 := hx3.cell 4; have hs3 := g1.keeps.size; have d1 := HG.out.1.blk.cell 1; clear t1 g1 hx3)
  have hk : Below w3.heap.size w3 w3.drew := (Below.refl _ _).drew
  have H3 := Lib.hid (HG.out.1.keep hk)
  have G3 := Lib.hid (((Grows.of_below F HB1.out).trans HG.out.2).trans (Grows.of_below _ hk))
  have HALL := Lib.hid (fun o => H3.out.own.keep ((Below.refl w3.drew.heap.size w3.drew).alloc (Nat.le_refl _) o))
  have HUX := Lib.hid (own_off_type H3.out.own H3.out.blk (by decide))
  have hx2 : d < w3.drew.heap.size := H3.out.blk.lt
  have hx1 : d < w3.heap.size := hx2
  have hB3 : B ≤ w3.drew.heap.size := by show B ≤ w3.heap.size; omega
  have HMR := Lib.hid (fun (q : Obj) (w5 : World) (v2 : Value) (q1 : OwnEl insK w5 B 29 v2 (s.L ++ [(o, x, a, 0, 0)])) (q2 : (w3.drew.alloc q).grownBy w5 (Value.slice av s.L.length cv).ownBlock) (q3 : Nexts (w3.drew.alloc q) (Value.slice av s.L.length cv) v2) => H3.out.more hB3 q1 ((Below.refl w3.drew.heap.size w3.drew).alloc (Nat.le_refl _) q) q2 q3)
  go_region_law (refine step_append_el1 rfl _ _ 44 rfl B 29 i0 _ Tryz.underlying44 hi hz0 hz1 (by omega) rfl rfl (HALL.out _) rfl (one_el (K := insK) (b := w3.heap.size) w3.drew 29 (o, x, a, 0, 0) #[.int .i64 o, .int .i64 x, .int .i64 a, .int .i64 0, .int .i64 0] rfl rfl) (by show s.L.length + 1 ≤ _; omega) (by simp; omega) ?_; intro v2 w5 hown2 hgrow2 hnext2; obtain ⟨a2, n2, c2, rfl⟩ := OwnEl.shape hown2; have hbk := (H3.out.blk.keep ((Below.refl _ _).alloc (Nat.le_refl _) _)).kept (Keeps.of_grown (F := fun j => (Value.slice av s.L.length cv).ownBlock = some j) hgrow2 fun _ q => q) HUX.out; have q1 := hbk.cell 1; have q2 := hbk.free 1; have HR := Lib.hid (HMR.out _ _ _ hown2 hgrow2 hnext2); clear hown2 hgrow2 hnext2 hbk)
  all_goals
    go_wp2
    go_ret
    exact ⟨_, rfl, ⟨_, _, _, HR.out.1⟩, G3.out.trans HR.out.2⟩
set_option maxRecDepth 100000 in
set_option maxHeartbeats 2000000 in
theorem drAim_nm (B d : Nat) (s : Bst) (F : Nat → Prop) (o x a : Int) (nm : ByteArray) (w : World) (h : DrAt B w d s F) (hL : ShapesLaid w) (hs : nm.size ≤ maxLen) (hd : s.ds.length ≤ 1000) (hu : s.us.length ≤ 1000) (hB : B ≤ w.heap.size) (hi : insE (o, x, a, 0, 0) = 0) (hm : nameB nm = false) :
    Calls Tryz.prog 22 #[.pointer (some ⟨d, 0, none⟩), .agg #[.int .i64 o, .int .i64 x, .int .i64 a, .int .i64 0, .int .i64 0], .string nm] w (DrTo B d 8 s F w) := by
  have HI := Lib.hid (InsW.new w w o x a 0 0 29 (Below.refl _ _) (Nat.le_refl _))
  have C := Lib.hid (codeCheckI_is o x a 0 0 0 _ (HI.out.sh hL) hi)
  have hu0 : useE nm = 8 := by unfold useE; rw [hm]; rfl
  have hu1 : ∀ p, useS s.us nm p = s.us := fun p => by unfold useS; rw [hm]; rfl
  obtain ⟨t, v, G, h⟩ := h
  obtain ⟨av, cv, rfl, -⟩ := h.own.at
  have H := Lib.hid h
  clear h hL hm hi
  go_enter Tryz.func22, Tryz.ntmps22
  go_wp2_with (go_at_call 38; ((with_reducible refine (C.out).mono ?_); rintro e w1 ⟨rfl, hb1⟩); have HW := Lib.hid (HI.out.keep hb1); have H1 := Lib.hid (H.out.keep HW.out.below); have c0 := H1.out.blk.cell 0; have c1 := H1.out.blk.cell 1; clear hb1)
  go_still_tail 10, (by kernel_rfl)
  change wpList _ _ _ _ _ w1.drew
  have hk : Below w1.heap.size w1 w1.drew := (Below.refl _ _).drew
  have H1 := Lib.hid (H1.out.keep hk)
  have HB1 := Lib.hid (HW.out.below.trans (hk.mono HW.out.below.size))
  have hsz := HB1.out.size
  generalize w1.drew = w2 at *
  clear c0 c1 hk
  have HU := Lib.hid (labUse_is B t s.ds s.us G nm s.L.length w2 H1.out.tab hs (by omega) (by omega))
  rw [hu0, hu1] at HU
  go_wp2_with (go_at_call 39; ((with_reducible refine (HU.out).mono ?_); rintro e w3 ⟨G1, rfl, t1, g1⟩); have HG := Lib.hid (H1.out.named (by omega) t1 g1); clear t1 g1)
  go_ret
  exact ⟨_, rfl, ⟨_, _, _, HG.out.1⟩, (Grows.of_below F HB1.out).trans HG.out.2⟩
set_option maxRecDepth 100000 in
set_option maxHeartbeats 2000000 in
theorem drAim_bad (B d : Nat) (s : Bst) (F : Nat → Prop) (o x a z : Int) (nm : ByteArray) (w : World) (h : DrAt B w d s F) (hL : ShapesLaid w) (hi : insE (o, x, a, 0, 0) = z) (hz : z ≠ 0) :
    Calls Tryz.prog 22 #[.pointer (some ⟨d, 0, none⟩), .agg #[.int .i64 o, .int .i64 x, .int .i64 a, .int .i64 0, .int .i64 0], .string nm] w (DrTo B d z s F w) := by
  have HI := Lib.hid (InsW.new w w o x a 0 0 29 (Below.refl _ _) (Nat.le_refl _))
  have C := Lib.hid (codeCheckI_is o x a 0 0 z _ (HI.out.sh hL) hi)
  have hz1 : (z != 0) = true := by simpa using hz
  have H := Lib.hid h
  clear h hL hi hz
  go_enter Tryz.func22, Tryz.ntmps22
  go_wp2_with (go_at_call 38; ((with_reducible refine (C.out).mono ?_); rintro e w1 ⟨rfl, hb1⟩); have HW := Lib.hid (HI.out.keep hb1); clear hb1)
  go_ret
  exact ⟨F, rfl, H.out.keep HW.out.below, Grows.of_below F HW.out.below⟩

end Go.Proofs.YtgmphfagflhglaaGreatDoor
