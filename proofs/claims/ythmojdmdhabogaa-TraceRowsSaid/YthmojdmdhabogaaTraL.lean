/- Package trace's rows: gathered by a map. Conditions: the list can be read, its numbers are of 64 bits; it is no longer than 2^20. -/
import Derived.Test.YthmojdmdhabogaaTraK
import Derived.Test.YthmojdmdhabogaaTraC
import Derived.StillTailTactics
import Derived.Carry
namespace Go.Proofs.Ythmojdmdhabogaa
open Go.RowKit Go.IntWalk Go.Maps

theorem gkeys_take {l : List Mk} {k : Nat} (h : k < l.length) : gkeys (l.take (k + 1)) = if mKy (mkAt l k) ∈ gkeys (l.take k) then gkeys (l.take k) else gkeys (l.take k) ++ [mKy (mkAt l k)] := by
  rw [take_snoc h, gkeys_snoc]
  rfl
theorem el_of_mem {α : Type} [Inhabited α] {l : List α} {x : α} (h : x ∈ l) : ∃ i, i < l.length ∧ el l i = x := by
  obtain ⟨i, hi, e⟩ := List.mem_iff_getElem.1 h
  exact ⟨i, hi, by rw [← el_eq hi, e]⟩
/-- A row's times are no more than the marks. -/
theorem gRows_times (l : List Mk) (i : Nat) (hi : i < (gRows l).length) : 0 ≤ (el (gRows l) i).2.2.1 ∧ (el (gRows l) i).2.2.1 ≤ l.length := by
  have hm : el (gRows l) i ∈ gRows l := by rw [← el_eq hi]; exact List.getElem_mem _
  obtain ⟨q, _, e⟩ := List.mem_map.1 hm
  rw [← e]
  unfold rowOf
  have := ofKy_le l q
  simp only
  omega
/-- What the last two stores of a round leave. -/
theorem two_set (R : List Ht) (i : Nat) (m : Mk) (a : Ht) (ha : el R i = a) : (R.set i (a.1, a.2.1, a.2.2.1 + 1, a.2.2.2)).set i (a.1, a.2.1, a.2.2.1 + 1, wrap64 (a.2.2.2 + m.2.2)) = R.set i (bump m (el R i)) := by
  rw [List.set_set, ha]
  rfl
theorem grown_set (W : World) (b k : Nat) (v : Value) : W.grownBy (W.setCell ⟨b, k, none⟩ v) (some b) :=
  ⟨rfl, rfl, rfl, by simp [World.setCell], fun j _ hn => Below.heap_setCell _ _ _ _ (fun e => hn (by rw [e]))⟩
theorem box3 {b : Nat} (X : World) (a0 a1 a2 : Value) (T : TypeId) (o : Obj) (h : X.heap.size = b) : ((X.alloc (.cells #[a0, a1, a2] T)).alloc o).cell? ⟨b, 2, none⟩ = some a2 := by
  subst h
  rw [World.cell?_of_block (a := ⟨X.heap.size, 2, none⟩) (Below.heap_alloc _ _ _ (by simp))]
  exact (BlkAt.new X T #[a0, a1, a2]).cell 2
theorem map_box {W w1 : World} {u0 u1 u2 : Value} {T : TypeId} {o : Obj} {row : Nat} (hg : ((W.alloc (.cells #[u0, u1, u2] T)).alloc o).grownBy w1 (some row)) (h : W.heap.size ≠ row) :
    w1.cell? ⟨W.heap.size, 0, none⟩ = some u0 ∧ w1.cell? ⟨W.heap.size, 1, none⟩ = some u1 ∧ w1.heap[W.heap.size]? = some (.cells #[u0, u1, u2] T (0, 0)) := by
  have e : w1.heap[W.heap.size]? = (W.alloc (.cells #[u0, u1, u2] T)).heap[W.heap.size]? := (hg.block _ (by simp; omega) (by simpa using h)).trans (Below.heap_alloc _ _ _ (by simp))
  have hb := BlkAt.new W T #[u0, u1, u2]
  exact ⟨(World.cell?_of_block (a := ⟨_, 0, none⟩) e).trans (hb.cell 0), (World.cell?_of_block (a := ⟨_, 1, none⟩) e).trans (hb.cell 1), e.trans hb⟩
theorem own_ne {α : Type} {K : Kd α} {w : World} {base g n cap b : Nat} {e T : TypeId} {l : List α} {cs : Array Value} {fr : Nat × Nat} (h : OwnEl K w base e (.slice (some ⟨g, 0, none⟩) n cap) l) (hb : w.heap[b]? = some (.cells cs T fr)) (hT : T ≠ e) : g ≠ b := by
  rintro rfl
  obtain ⟨_, hcase⟩ := h
  rcases hcase with ⟨h0, _⟩ | ⟨g', cap', cur, hv, _, hg, _⟩
  · cases h0
  · simp only [Value.slice.injEq, Option.some.injEq, Addr.mk.injEq, and_true] at hv
    obtain ⟨rfl, -, -⟩ := hv
    rw [hb] at hg
    simp only [Option.some.injEq, Obj.cells.injEq] at hg
    exact hT hg.2.1
set_option maxRecDepth 10000 in
set_option maxHeartbeats 4000000 in
theorem traGathered_is (a : Option Addr) (n c : Nat) (l : List Mk) (w : World) (h : MkAt w a n c l) (hn : n ≤ 524288) (h64 : Mk64 l) :
    Calls Try.prog 27 #[.slice a n c] w fun r w' => ∃ v, r = .returned v ∧ OwnHt w' w.heap.size 40 v (gRows l) ∧ Below w.heap.size w w' := by
  obtain ⟨i0, hi, hz0, hz1, hz2⟩ := info_els infoHt
  have hcap := h.cap
  have hbig := h.big
  unfold maxLen at hbig
  have HL := Lib.hid h
  have HLN := Lib.hid h.len
  have H64 := Lib.hid h64
  have HM0 := Lib.hid (World.ownsMap_made w Try.prog 58 (plainElem (H := Unit) Try.prog 3))
  have HB0 := Lib.hid ((Below.refl w.heap.size w).alloc (Nat.le_refl _) (.map #[] 0))
  have hmm := @run_makeMap Try.prog
  clear h h64
  go_enter Try.func27, Try.ntmps27
  go_wp2
  go_loopw [3, 13] (fun v i wr => ∃ k : Nat, ∃ D : DataW Unit, k ≤ n ∧ i = .int .i64 k ∧ OwnHt wr (w.heap.size + 1) 40 v (gRows (l.take k)) ∧ wr.ownsMap Try.prog 58 (plainElem (H := Unit) Try.prog 3) w.heap.size k D ∧ MapIs D (gkeys (l.take k)) ∧ Below w.heap.size w wr) (fun _ i _ => n - (intOf i).toNat)
  case atStart => exact ⟨0, _, by omega, rfl, by rw [List.take_zero]; exact OwnEl.nil _ _ _ _, HM0.out, by rw [List.take_zero]; exact MapIs.nil, HB0.out⟩
  case round =>
    obtain ⟨k, D, hk, rfl, ho, hm, hD, hb⟩ := hrel
    by_cases hlt : k < n
    · obtain ⟨g, off, rfl, hc⟩ := (HL.out.keep hb).lie (by omega)
      obtain ⟨c0, c1, c2⟩ := hc k hlt
      have hkl : k < l.length := by have := HLN.out; omega
      have hb64 := H64.out.at hkl
      have hlt' : (k : Int) < n := by omega
      have hgl : (gRows (l.take k)).length ≤ k := by have := gRows_len (l.take k); rw [List.length_take] at this; omega
      have htake : (l.take (k + 1)) = l.take k ++ [mkAt l k] := take_snoc hkl
      have HB := Lib.hid hb
      have HO := Lib.hid ho
      have HMp := Lib.hid hm
      have HD := Lib.hid hD
      have hsz := hb.size
      have hmlt := hm.lt
      have HK64 := Lib.hid (show B64k (mKy (mkAt l k)) from ⟨hb64.1, hb64.2.1⟩)
      obtain ⟨kl, hkl2⟩ : ∃ kl, kLit (mKy (mkAt l k)) = kl := ⟨_, rfl⟩
      have hky := spot_key (mKy (mkAt l k)) hb64.1 hb64.2.1
      rw [hkl2] at hky
      obtain ⟨M, hM⟩ : ∃ M, mkAt l k = M := ⟨_, rfl⟩
      obtain ⟨u0, u1, u2⟩ := M
      have HGT := Lib.hid (gkeys_take hkl)
      rw [hM] at c0 c1 c2 hkl2 hky htake HK64 HGT
      have HK := Lib.hid (show keyOf Try.prog 58 (.agg #[.int .i64 u0, .int .i64 u1]) = some kl from hky)
      have HTK := Lib.hid htake
      simp only at c0 c1 c2
      obtain ⟨R, hR⟩ : ∃ R, gRows (l.take k) = R := ⟨_, rfl⟩
      have hglen := gRows_glen (l.take k)
      rw [hR] at HO hgl hglen
      have HH := Lib.hid (And.intro (@gRows_hit (l.take k) (u0, u1, u2)) (gRows_new (l.take k) (u0, u1, u2)))
      have HTM := Lib.hid (gRows_times (l.take k))
      rw [hR] at HH HTM
      clear hc hky hb ho hm hD htake hM hb64 hR
      by_cases hmem : mKy ((u0, u1, u2) : Mk) ∈ gkeys (l.take k)
      · obtain ⟨i, hi1, hi2⟩ := el_of_mem hmem
        have hhere := HD.out.here i hi1
        rw [hi2, hkl2] at hhere
        obtain ⟨hhas, hat0⟩ := hhere
        have HAT := Lib.hid hat0
        have hil : i < R.length := by omega
        have HG := Lib.hid (show gRows (l.take k ++ [((u0, u1, u2) : Mk)]) = R.set i (bump (u0, u1, u2) (el R i)) from HH.out.1 hi1 hi2)
        have HGK := Lib.hid (show gkeys (l.take (k + 1)) = gkeys (l.take k) by rw [HGT.out, if_pos hmem])
        have htm := HTM.out i hil
        rw [List.length_take] at htm
        obtain ⟨⟨r0, r1, r2, r3⟩, hr⟩ : ∃ r, el R i = r := ⟨_, rfl⟩
        rw [hr] at htm
        have HR := Lib.hid hr
        obtain ⟨m, hm⟩ : ∃ m, R.length = m := ⟨_, rfl⟩
        obtain ⟨g2, cap2, rfl, hg2, hg2', hcp, hcp2⟩ := HO.out.form hm (by omega)
        have HML := Lib.hid hm
        have him : i < m := by omega
        have him' : (i : Int) < m := by omega
        have ho1 := (HO.out.keep ((Below.refl _ _).alloc (Nat.le_refl _) (.cells #[.int .i64 u0, .int .i64 u1, .int .i64 u2] 32))).keep ((Below.refl _ _).alloc (Nat.le_refl _) (.cells #[.int .i64 u0, .int .i64 u1] 58))
        have ho2 := OwnHt.setTi HO.out hm him (r2 + 1)
        rw [hr] at ho2
        simp only at ho2
        obtain ⟨-, -, d2, -⟩ := OwnHt.cells ho1 hm him
        rw [hr] at d2
        simp only at d2 htm
        have f2 := OwnEl.free ho1 hm (i * 4 + 2)
        have hsm : m ≤ 9223372036854775807 := by omega
        have hti : r2 + 1 ≤ 9223372036854775807 := by omega
        have HO1 := Lib.hid ho1
        have HO2 := Lib.hid ho2
        clear ho1 ho2 hat0 hi2 hi1 hmem hr hm
        go_wp2_with (at_lookup; refine wpList_lookup_own_ok_int _ rfl _ _ 56 rfl 58 3 .i64 spotLaw Try.underlying56 Try.underlying3 (zeroT _) w.heap.size k D rfl ((HMp.out.alloc _).alloc _) _ _ rfl HK.out ?_; intro c hat hwc; have hci : c = (i : Int) := (by have := hat.symm.trans HAT.out; simpa using this); subst hci)
        obtain ⟨W2, hW2⟩ : ∃ W2, (((wr.setCell ⟨g2, i * 4 + 2, none⟩ (.int .i64 (r2 + 1))).alloc (.cells #[.int .i64 u0, .int .i64 u1, .int .i64 u2] 32)).alloc (.cells #[.int .i64 u0, .int .i64 u1] 58)) = W2 := ⟨_, rfl⟩
        rw [hW2]
        obtain ⟨W3, hW3⟩ : ∃ W3, W2.drew = W3 := ⟨_, rfl⟩
        have hE2 : ∀ a, W2.drew.cell? a = W3.cell? a := fun a => by rw [hW3]
        have ho3 : OwnHt W3 (w.heap.size + 1) 40 (.slice (some ⟨g2, 0, none⟩) m cap2) (R.set i (r0, r1, r2 + 1, r3)) := by rw [← hW3, ← hW2]; exact OwnEl.keep HO2.out ((((Below.refl _ _).alloc (Nat.le_refl _) _).alloc (by simp) _).drew)
        have hlen3 : (R.set i (r0, r1, r2 + 1, r3)).length = m := by rw [List.length_set]; exact HML.out
        have hcs := OwnHt.cells ho3 hlen3 him
        rw [el_set _ _ _ _ (by have := HML.out; omega), if_pos rfl] at hcs
        obtain ⟨-, -, -, e3⟩ := hcs
        simp only at e3
        have fe := OwnEl.free ho3 hlen3 (i * 4 + 3)
        have hbx : W3.cell? ⟨wr.heap.size, 2, none⟩ = some (.int .i64 u2) := by
          rw [← hW3, ← hW2]
          exact box3 _ _ _ _ _ _ (by simp)
        have ho4 := OwnHt.setCo ho3 hlen3 him (wrap64 (r3 + u2))
        rw [el_set _ _ _ _ (by have := HML.out; omega), if_pos rfl] at ho4
        simp only at ho4
        have HO4 := Lib.hid ho4
        have hm4 : W3.ownsMap Try.prog 58 (plainElem (H := Unit) Try.prog 3) w.heap.size k D := by
          rw [← hW3, ← hW2]
          exact World.ownsMap.drew (((HMp.out.kept (grown_set wr g2 (i * 4 + 2) _) (by simp; omega)).alloc _).alloc _)
        have HM4 := Lib.hid (hm4.kept (grown_set W3 g2 (i * 4 + 3) (.int .i64 (wrap64 (r3 + u2)))) (by simp; omega))
        have hb4 : Below w.heap.size w W3 := by
          rw [← hW3, ← hW2]
          exact (((HB.out.setCell (p := ⟨g2, i * 4 + 2, none⟩) (by simp; omega) _).alloc (by simp; omega) _).alloc (by simp; omega) _).drew
        have HB4 := Lib.hid (hb4.setCell (p := ⟨g2, i * 4 + 3, none⟩) (by simp; omega) (.int .i64 (wrap64 (r3 + u2))))
        have e3d : W2.drew.cell? ⟨g2, i * 4 + 3, none⟩ = some (.int .i64 r3) := by rw [hE2]; exact e3
        have hbd : W2.drew.cell? ⟨wr.heap.size, 2, none⟩ = some (.int .i64 u2) := by rw [hE2]; exact hbx
        have hwe : IntKind.i64.wrap (r3 + u2) = wrap64 (r3 + u2) := IntWalk.i64_left _
        clear ho3 ho4 hm4 hb4 hW2 hE2
        go_still_tail 10, (by kernel_rfl)
        try rw [hwe]
        change wpList _ _ _ _ _ W2.drew
        rw [hW3]
        clear hW3 hwe e3d hbd
        go_wp2
        go_roundw
        case rel => exact ⟨k + 1, D, by omega, by go_num, by
          rw [HTK.out, HG.out, ← two_set R i (u0, u1, u2) (r0, r1, r2, r3) HR.out]
          exact HO4.out, HM4.out.mono (by omega), by rw [HGK.out]; exact HD.out, HB4.out⟩
        case measure => simp [intOf]; omega
      · have hfar := HD.out.far _ HK64.out hmem
        rw [hkl2] at hfar
        obtain ⟨m, hm⟩ : ∃ m, R.length = m := ⟨_, rfl⟩
        have HG := Lib.hid (show gRows (l.take k ++ [((u0, u1, u2) : Mk)]) = R ++ [bump (u0, u1, u2) (u0, u1, 0, 0)] from HH.out.2 hmem)
        have HGK := Lib.hid (show gkeys (l.take (k + 1)) = gkeys (l.take k) ++ [mKy ((u0, u1, u2) : Mk)] by rw [HGT.out, if_neg hmem])
        have HP := Lib.hid (HD.out.put HK64.out hmem)
        rw [hkl2, ← hglen, hm] at HP
        have HML := Lib.hid hm
        obtain ⟨a2, cap2, rfl, hat2⟩ := HO.out.at
        rw [hm] at HO hat2
        have hsm : m ≤ 9223372036854775807 := by omega
        have hml : m ≤ k := by omega
        rw [hm]
        have hwm : (Lit.int .i64 (m : Int)).wf = true := wf64 ⟨by omega, by omega⟩
        have hOn : (Value.slice a2 m cap2).ownBlock ≠ some w.heap.size := fun e => by have := (OwnEl.lt HO.out _ e).1; omega
        have hOw : ∀ q, (Value.slice a2 m cap2).ownBlock = some q → q < wr.heap.size := fun q e => (OwnEl.lt HO.out _ e).2
        have hOk := Lib.hid ((HO.out.keep ((Below.refl _ _).alloc (Nat.le_refl _) (.cells #[.int .i64 u0, .int .i64 u1, .int .i64 u2] 32))).keep ((Below.refl _ _).alloc (Nat.le_refl _) (.cells #[.int .i64 u0, .int .i64 u1] 58)))
        obtain ⟨N, hN⟩ : ∃ N, m + 1 = N := ⟨_, rfl⟩
        have HL2 := Lib.hid (show (R ++ [((u0, u1, 0, 0) : Ht)]).length = N by rw [List.length_append, List.length_singleton, hm, hN])
        have hmm1 : m < N := by omega
        have hmm2 : (m : Int) < N := by omega
        have HEL := Lib.hid (show el (R ++ [((u0, u1, 0, 0) : Ht)]) m = (u0, u1, 0, 0) by rw [← hm]; exact el_last _ _)
        clear hat2 hm hmem hN
        go_wp2_with (first
          | (at_lookup; refine wpList_lookup_own_ok_int _ rfl _ _ 56 rfl 58 3 .i64 spotLaw Try.underlying56 Try.underlying3 (zeroT _) w.heap.size k D rfl ((HMp.out.alloc _).alloc _) _ _ rfl HK.out ?_; intro c hat hwc)
          | (at_mapUpdate; refine wpList_mapUpdate_own _ rfl _ _ _ 56 rfl 58 3 spotLaw Try.underlying56 _ w.heap.size k D rfl ((HMp.out.alloc _).alloc _) (by unfold maxLen; omega) _ _ kl rfl rfl HK.out _ [] (plainElem_int Try.underlying3 hwm) ?_; intro w1 hown1 hgrow1; have hO1 : OwnHt w1 (w.heap.size + 1) 40 (.slice a2 m cap2) R := World.ownsRow.kept hOk.out hgrow1 (.inr hOn); have hbx := map_box hgrow1 (by omega); have x0 := hbx.1; have x1 := hbx.2.1; have hs1 := hgrow1.size)
          | (at_builtin; refine wpList_append_els rfl _ _ 35 rfl (w.heap.size + 1) 40 i0 _ Try.underlying35 hi hz0 hz1 (by omega) rfl rfl (OwnEl.keep (K := htK) hO1 ((Below.refl _ _).alloc (Nat.le_refl _) _)) rfl (ht_one (b := w1.heap.size) w1 (u0, u1, 0, 0) rfl) (by omega) (by simp at hs1 ⊢; omega) ?_; intro v2 w2 hown2 hgrow2; obtain ⟨g2, cap3, rfl, hg2, hg2', hcp, hcp2⟩ := OwnEl.form hown2 HL2.out (by omega); have d2 : w2.cell? ⟨g2, m * 4 + 2, none⟩ = some (.int .i64 0) := (OwnHt.cells hown2 HL2.out hmm1).2.2.1.trans (by rw [HEL.out]); have f2 := OwnEl.free hown2 HL2.out (m * 4 + 2)))
        obtain ⟨W2, hW2⟩ : ∃ W2, w2.setCell ⟨g2, m * 4 + 2, none⟩ (.int .i64 1) = W2 := ⟨_, rfl⟩
        rw [hW2]
        obtain ⟨W3, hW3⟩ : ∃ W3, W2.drew = W3 := ⟨_, rfl⟩
        have hE2 : ∀ a, W2.drew.cell? a = W3.cell? a := fun a => by rw [hW3]
        have hs2 := hgrow2.size
        rw [World.size_alloc] at hs2
        simp only [World.size_alloc] at hs1
        have hbk : w2.heap[wr.heap.size]? = some (.cells #[.int .i64 u0, .int .i64 u1, .int .i64 u2] 32 (0, 0)) := (hgrow2.block _ (by simp; omega) (fun e => by have := hOw _ e.symm; omega)).trans ((Below.heap_alloc _ _ _ (by omega)).trans hbx.2.2)
        have hgw : g2 ≠ wr.heap.size := own_ne hown2 hbk (by decide)
        have ho2 := OwnHt.setTi hown2 HL2.out hmm1 1
        rw [HEL.out] at ho2
        simp only at ho2
        have ho3 : OwnHt W3 (w.heap.size + 1) 40 (.slice (some ⟨g2, 0, none⟩) N cap3) ((R ++ [((u0, u1, 0, 0) : Ht)]).set m (u0, u1, 1, 0)) := by rw [← hW3, ← hW2]; exact OwnEl.keep ho2 ((Below.refl _ _).drew)
        have hlen3 : ((R ++ [((u0, u1, 0, 0) : Ht)]).set m (u0, u1, 1, 0)).length = N := by rw [List.length_set]; exact HL2.out
        have hcs := OwnHt.cells ho3 hlen3 hmm1
        rw [el_set _ _ _ _ (by have := HL2.out; omega), if_pos rfl] at hcs
        obtain ⟨-, -, -, e3⟩ := hcs
        simp only at e3
        have fe := OwnEl.free ho3 hlen3 (m * 4 + 3)
        have hbx2 : w2.cell? ⟨wr.heap.size, 2, none⟩ = some (.int .i64 u2) := BlkAt.cell (T := 32) hbk 2
        have hbx3 : W3.cell? ⟨wr.heap.size, 2, none⟩ = some (.int .i64 u2) := by
          rw [← hW3, ← hW2]
          exact (World.cell?_of_block (a := ⟨wr.heap.size, 2, none⟩) (Below.heap_setCell _ _ _ _ (fun e => hgw e.symm))).trans hbx2
        have ho4 := OwnHt.setCo ho3 hlen3 hmm1 (wrap64 u2)
        rw [el_set _ _ _ _ (by have := HL2.out; omega), if_pos rfl] at ho4
        simp only at ho4
        have HO4 := Lib.hid ho4
        have hm2 := (hown1.alloc (.cells #[.int .i64 u0, .int .i64 u1, .int .i64 0, .int .i64 0] 40)).kept hgrow2 (fun e => hOn e.symm)
        have hm4 : W3.ownsMap Try.prog 58 (plainElem (H := Unit) Try.prog 3) w.heap.size (k + 1) (D.put kl (.lit (.int .i64 (m : Nat)))) := by
          rw [← hW3, ← hW2]
          exact World.ownsMap.drew (hm2.kept (grown_set w2 g2 (m * 4 + 2) _) (by simp; omega))
        have HM4 := Lib.hid (hm4.kept (grown_set W3 g2 (m * 4 + 3) (.int .i64 (wrap64 u2))) (by simp; omega))
        have hb1 : Below w.heap.size w w1 := ((HB.out.alloc hsz _).alloc (by simp; omega) _).grown hgrow1 (by simp; omega) (fun j ej => by cases ej; exact Nat.le_refl _)
        have hb2 : Below w.heap.size w w2 := (hb1.alloc (by omega) _).grown hgrow2 (by simp; omega) (fun j ej => by have := (OwnEl.lt HO.out j ej).1; omega)
        have hb4 : Below w.heap.size w W3 := by
          rw [← hW3, ← hW2]
          exact (hb2.setCell (p := ⟨g2, m * 4 + 2, none⟩) (by simp; omega) _).drew
        have HB4 := Lib.hid (hb4.setCell (p := ⟨g2, m * 4 + 3, none⟩) (by simp; omega) (.int .i64 (wrap64 u2)))
        have e3d : W2.drew.cell? ⟨g2, m * 4 + 3, none⟩ = some (.int .i64 0) := by rw [hE2]; exact e3
        have hbd : W2.drew.cell? ⟨wr.heap.size, 2, none⟩ = some (.int .i64 u2) := by rw [hE2]; exact hbx3
        have hwe : IntKind.i64.wrap u2 = wrap64 u2 := IntWalk.i64_left _
        clear ho3 ho4 hm4 hb4 hW2 hE2 hbx2 hbx ho2 hown2 d2 f2 hown1 hgrow1 hgrow2 hm2
        go_still_tail 10, (by kernel_rfl)
        try rw [hwe]
        change wpList _ _ _ _ _ W2.drew
        rw [hW3]
        clear hW3 hwe e3d hbd
        go_wp2
        go_roundw
        case rel => exact ⟨k + 1, _, by omega, by go_num, by
          have e1 : (R ++ [((u0, u1, 0, 0) : Ht)]).set m (bump (u0, u1, u2) (u0, u1, 0, 0)) = R ++ [bump (u0, u1, u2) (u0, u1, 0, 0)] := by
            rw [List.set_append_right _ _ (by rw [HML.out]; omega), HML.out]; simp
          have e2 : bump (u0, u1, u2) (u0, u1, 0, 0) = (u0, u1, 1, wrap64 u2) := by simp [bump]
          rw [HTK.out, HG.out, ← e1, e2]
          have := HO4.out
          rw [List.set_set] at this
          exact this, HM4.out, by rw [HGK.out]; exact HP.out, HB4.out⟩
        case measure => simp [intOf]; omega
    · obtain rfl : k = n := by omega
      have HB := Lib.hid hb
      have HO := Lib.hid ho
      clear hb ho hm hD
      go_wp2
      go_ret
      exact ⟨_, rfl, by have := HO.out; rw [← HLN.out, List.take_length] at this; exact this.mono (by omega), HB.out⟩
end Go.Proofs.Ythmojdmdhabogaa
