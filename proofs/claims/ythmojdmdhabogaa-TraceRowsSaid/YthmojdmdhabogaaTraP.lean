/- The document's Rows. Conditions: the list can be read; it is no longer than 2^19. -/
import Derived.Test.YthmojdmdhabogaaTraL
import Derived.Test.YthmojdmdhabogaaTraI
namespace Go.Proofs.Ythmojdmdhabogaa
open Go.RowKit Go.IntWalk

theorem tRows_times (l : List Mk) (i : Nat) (hi : i < (tRows l).length) : 0 ≤ (el (tRows l) i).2.2.1 ∧ (el (tRows l) i).2.2.1 ≤ l.length := by
  have hm : el (tRows l) i ∈ tRows l := by rw [← el_eq hi]; exact List.getElem_mem _
  obtain ⟨q, _, e⟩ := List.mem_map.1 hm
  rw [← e]
  unfold rowOf
  have := ofKy_le l q
  simp only
  omega
/-- What the last two stores of a round leave, in whatever world they are done. -/
theorem tail_facts {w W : World} {g m cap i b0 : Nat} {R : List Ht} {r0 r1 r2 r3 u2 : Int} (ho : OwnHt W w.heap.size 40 (.slice (some ⟨g, 0, none⟩) m cap) R) (hm : R.length = m) (hi : i < m) (hr : el R i = (r0, r1, r2, r3))
    (hbx : W.cell? ⟨b0, 2, none⟩ = some (.int .i64 u2)) (hne : g ≠ b0) (hb : Below w.heap.size w W) :
    W.cell? ⟨g, i * 4 + 2, none⟩ = some (.int .i64 r2) ∧ W.frozen? ⟨g, i * 4 + 2, none⟩ = false ∧ ∀ W2 W3 : World, W.setCell ⟨g, i * 4 + 2, none⟩ (.int .i64 (r2 + 1)) = W2 → W2.drew = W3 →
      W2.drew.cell? ⟨g, i * 4 + 3, none⟩ = some (.int .i64 r3) ∧ W2.drew.cell? ⟨b0, 2, none⟩ = some (.int .i64 u2) ∧ W3.frozen? ⟨g, i * 4 + 3, none⟩ = false ∧
      OwnHt (W3.setCell ⟨g, i * 4 + 3, none⟩ (.int .i64 (wrap64 (r3 + u2)))) w.heap.size 40 (.slice (some ⟨g, 0, none⟩) m cap) (R.set i (r0, r1, r2 + 1, wrap64 (r3 + u2))) ∧ Below w.heap.size w (W3.setCell ⟨g, i * 4 + 3, none⟩ (.int .i64 (wrap64 (r3 + u2)))) := by
  obtain ⟨hg1, hg2⟩ := OwnEl.lt ho g rfl
  have hc := OwnHt.cells ho hm hi
  rw [hr] at hc
  refine ⟨hc.2.2.1, OwnEl.free ho hm _, ?_⟩
  rintro W2 W3 rfl rfl
  have ho2 := OwnHt.setTi ho hm hi (r2 + 1)
  rw [hr] at ho2
  have ho3 := OwnEl.keep ho2 ((Below.refl _ _).drew)
  have hlen3 : (R.set i (r0, r1, r2 + 1, r3)).length = m := by rw [List.length_set]; exact hm
  have hcs := OwnHt.cells ho3 hlen3 hi
  rw [el_set _ _ _ _ (by omega), if_pos rfl] at hcs
  have ho4 := OwnHt.setCo ho3 hlen3 hi (wrap64 (r3 + u2))
  rw [el_set _ _ _ _ (by omega), if_pos rfl, List.set_set] at ho4
  refine ⟨hcs.2.2.2, ?_, OwnEl.free ho3 hlen3 _, ho4, ?_⟩
  · exact (World.cell?_of_block (a := ⟨b0, 2, none⟩) (Below.heap_setCell _ _ _ _ (fun e => hne e.symm))).trans hbx
  · exact ((hb.setCell (p := ⟨g, _, none⟩) hg1 _).drew).setCell (p := ⟨g, _, none⟩) hg1 _
theorem bel_on1 {B : Nat} {w0 w1 w2 : World} (h : Below B w0 w1) (k : Below w1.heap.size w1 w2) (hB : B ≤ w1.heap.size) : Below B w0 w2 := h.trans (k.mono hB)
theorem cell_on {B : Nat} {w w' : World} {b i : Nat} {v : Value} (k : Below B w w') (h : w.cell? ⟨b, i, none⟩ = some v) (hb : b < B) : w'.cell? ⟨b, i, none⟩ = some v := (k.cell (p := ⟨b, i, none⟩) hb).trans h
theorem put_in {R : List Ht} {j : Nat} {x : Ht} (hj : j ≤ R.length) (y : Ht) : (R.take j ++ [x] ++ R.drop j).set j y = R.take j ++ y :: R.drop j := by
  have hl : (R.take j).length = j := by rw [List.length_take, Nat.min_eq_left hj]
  rw [List.append_assoc, List.set_append_right _ _ (by rw [hl]; exact Nat.le_refl _), hl, Nat.sub_self]; rfl
theorem put_at {R : List Ht} {j : Nat} {x : Ht} (hj : j ≤ R.length) : el (R.take j ++ [x] ++ R.drop j) j = x := by
  have hl : (R.take j).length = j := by rw [List.length_take, Nat.min_eq_left hj]
  unfold el
  rw [List.append_assoc, List.getD_eq_getElem?_getD, List.getElem?_append_right (by rw [hl]; exact Nat.le_refl _), hl, Nat.sub_self]; rfl
set_option maxRecDepth 10000 in
set_option maxHeartbeats 8000000 in
theorem refTrRows_is (a : Option Addr) (n c : Nat) (l : List Mk) (w : World) (h : MkAt w a n c l) (hn : n ≤ 524288) :
    Calls Try.prog 21 #[.slice a n c] w fun r w' => ∃ v, r = .returned v ∧ OwnHt w' w.heap.size 40 v (tRows l) ∧ Below w.heap.size w w' := by
  obtain ⟨i0, hi, hz0, hz1, hz2⟩ := info_els infoHt
  have hcap := h.cap
  have hbig := h.big
  unfold maxLen at hbig
  have HL := Lib.hid h
  have HLN := Lib.hid h.len
  clear h
  go_enter Try.func21, Try.ntmps21
  go_wp2
  go_loopw [3, 4] (fun v i wr => ∃ k : Nat, k ≤ n ∧ i = .int .i64 k ∧ OwnHt wr w.heap.size 40 v (tRows (l.take k)) ∧ Below w.heap.size w wr) (fun _ i _ => n - (intOf i).toNat)
  case atStart => exact ⟨0, by omega, rfl, by rw [List.take_zero]; exact OwnEl.nil _ _ _ _, Below.refl _ _⟩
  case round =>
    obtain ⟨k, hk, rfl, ho, hb⟩ := hrel
    have Hb := Lib.hid hb
    obtain ⟨ao, co, rfl, hat⟩ := OwnEl.at ho
    have hml : (tRows (l.take k)).length ≤ k := by have := tRows_len (l.take k); rw [List.length_take] at this; omega
    have HF := Lib.hid (show tRows (l.take n) = tRows l by rw [← HLN.out, List.take_length])
    have HTI := Lib.hid (tRows_times (l.take k))
    have HHIT := Lib.hid (fun m i hi hk => @tRows_hit (l.take k) m i hi hk)
    have HNEW := Lib.hid (fun m i h0 h1 h2 h3 => @tRows_new (l.take k) m i h0 h1 h2 h3)
    obtain ⟨R, hR⟩ : ∃ R, tRows (l.take k) = R := ⟨_, rfl⟩
    rw [hR] at ho hat hml HTI HHIT HNEW ⊢
    obtain ⟨m, hm⟩ : ∃ m, R.length = m := ⟨_, rfl⟩
    rw [hm] at ho hat hml HTI HHIT HNEW ⊢
    have HO := Lib.hid ho
    have HR := Lib.hid hR
    have hcb := hat.big
    have hcm := hat.cap
    unfold maxLen at hcb
    have HAT := Lib.hid hat
    have HM := Lib.hid hm
    clear hb ho hat hm hR
    by_cases hlt : k < n
    · obtain ⟨g, off, rfl, hc⟩ := (HL.out.keep Hb.out).lie (by omega)
      have hkl : k < l.length := by have := HLN.out; omega
      obtain ⟨c0, c1, c2⟩ := hc k hlt
      obtain ⟨⟨u0, u1, u2⟩, hu⟩ : ∃ q, mkAt l k = q := ⟨_, rfl⟩
      rw [hu] at c0 c1 c2
      simp only at c0 c1 c2
      have HTK := Lib.hid (show tRows (l.take (k + 1)) = tRows (l.take k ++ [((u0, u1, u2) : Mk)]) by rw [← hu]; exact congrArg tRows (take_snoc hkl))
      have hlt' : (k : Int) < n := by omega
      clear hc hu hkl
      go_wp2
      obtain ⟨W0, hW0⟩ : ∃ W0, wr.alloc (.cells #[.int .i64 u0, .int .i64 u1, .int .i64 u2] 32) = W0 := ⟨_, rfl⟩
      rw [hW0]
      obtain ⟨b0, hb0⟩ : ∃ b0, wr.heap.size = b0 := ⟨_, rfl⟩
      rw [hb0]
      have hbx : W0.cell? ⟨b0, 0, none⟩ = some (.int .i64 u0) ∧ W0.cell? ⟨b0, 1, none⟩ = some (.int .i64 u1) ∧ W0.cell? ⟨b0, 2, none⟩ = some (.int .i64 u2) := by
        rw [← hW0, ← hb0]
        have q := BlkAt.new wr 32 #[.int .i64 u0, .int .i64 u1, .int .i64 u2]
        exact ⟨q.cell 0, q.cell 1, q.cell 2⟩
      have hbs : b0 < W0.heap.size := by rw [← hW0, ← hb0]; simp
      have hA := (Below.refl wr.heap.size wr).alloc (Nat.le_refl _) (.cells #[.int .i64 u0, .int .i64 u1, .int .i64 u2] 32)
      rw [hW0] at hA
      have HOW := Lib.hid (OwnEl.keep HO.out hA)
      have HATW := Lib.hid (ElAt.keep HAT.out hA)
      have HBW := Lib.hid (bel_on1 Hb.out hA Hb.out.size)
      have HBX := Lib.hid hbx
      have hws := HBW.out.size
      have hg0 : ∀ q, (Value.slice ao m co).ownBlock = some q → q < b0 := fun q e => by rw [← hb0]; exact (OwnEl.lt HO.out q e).2
      have HG0 := Lib.hid hg0
      clear hA hbx hW0 hb0 c0 c1 c2 hg0
      go_loopw [6] (fun i wr => ∃ j : Nat, j ≤ m ∧ i = .int .i64 j ∧ (∀ q, q < j → kLt (hKy (el R q)) (u0, u1) = true) ∧ Below W0.heap.size W0 wr) (fun i _ => m - (intOf i).toNat)
      case atStart => exact ⟨0, by omega, rfl, fun q hq => by omega, Below.refl _ _⟩
      case round =>
        obtain ⟨j, hj, rfl, hq, hb⟩ := hrel
        have HQ := Lib.hid hq
        have HB := Lib.hid hb
        clear hq
        by_cases hjm : j < m
        · have hjm' : (j : Int) < m := by omega
          have hje : ((j : Int) == m) = false := by simp; omega
          have hje2 : (j == m) = false := by simp; omega
          have hje3 : decide (j = m) = false := decide_eq_false (by omega)
          obtain ⟨g2, cap2, e2, hg2, hg2', hcp, hcp2⟩ := OwnEl.form HOW.out HM.out (by omega)
          simp only [Value.slice.injEq] at e2
          obtain ⟨rfl, -, rfl⟩ := e2
          have hgb : g2 ≠ b0 := Nat.ne_of_lt (HG0.out g2 rfl)
          obtain ⟨⟨y0, y1, y2, y3⟩, hy⟩ : ∃ y, el R j = y := ⟨_, rfl⟩
          have HCELL := Lib.hid (show ∀ W, Below W0.heap.size W0 W → (W.cell? ⟨g2, j * 4, none⟩ = some (.int .i64 y0) ∧ W.cell? ⟨g2, j * 4 + 1, none⟩ = some (.int .i64 y1)) ∧ (W.cell? ⟨b0, 0, none⟩ = some (.int .i64 u0) ∧ W.cell? ⟨b0, 1, none⟩ = some (.int .i64 u1) ∧ W.cell? ⟨b0, 2, none⟩ = some (.int .i64 u2)) from fun W hW => by
            have q := OwnHt.cells (OwnEl.keep HOW.out hW) HM.out hjm
            rw [hy] at q
            exact ⟨⟨q.1, q.2.1⟩, cell_on hW HBX.out.1 hbs, cell_on hW HBX.out.2.1 hbs, cell_on hW HBX.out.2.2 hbs⟩)
          obtain ⟨⟨d0, d1⟩, z0, z1, z2⟩ := HCELL.out _ hb
          have HY := Lib.hid hy
          clear hy hb
          by_cases e0 : y0 < u0
          · have q0 : decide (y0 < u0) = true := decide_eq_true e0
            have E := Lib.hid e0
            clear e0
            go_wp2
            go_quiet (fail)
            go_wp2
            go_roundw
            case rel => exact ⟨j + 1, by omega, by go_num, fun q hq => by
              rcases Nat.lt_succ_iff_lt_or_eq.1 hq with z | z
              · exact HQ.out q z
              · subst z; rw [HY.out, kLt_iff]; exact .inl E.out, below_drewN HB.out _⟩
            case measure => simp [intOf]; omega
          · have q0 : decide (y0 < u0) = false := decide_eq_false e0
            have q0' : u0 ≤ y0 := by omega
            by_cases e1 : y0 = u0
            · have q1 : (y0 == u0) = true := by simp [e1]
              have q1' : (y0 != u0) = false := by simp [e1]
              have E1 := Lib.hid e1
              clear e0 e1
              by_cases e2 : y1 < u1
              · have q2 : decide (y1 < u1) = true := decide_eq_true e2
                have E := Lib.hid e2
                clear e2
                go_wp2
                go_quiet (fail)
                go_wp2
                go_roundw
                case rel => exact ⟨j + 1, by omega, by go_num, fun q hq => by
                  rcases Nat.lt_succ_iff_lt_or_eq.1 hq with z | z
                  · exact HQ.out q z
                  · subst z; rw [HY.out, kLt_iff]; exact .inr ⟨E1.out, E.out⟩, below_drewN HB.out _⟩
                case measure => simp [intOf]; omega
              · have q2 : decide (y1 < u1) = false := decide_eq_false e2
                have q2' : u1 ≤ y1 := by omega
                by_cases e3 : y1 = u1
                · have q3 : (y1 != u1) = false := by simp [e3]
                  have E3 := Lib.hid e3
                  clear e2 e3
                  go_wp2
                  go_quiet (fail)
                  generalize hW1 : wr.drewN nq = W1
                  have hB1 : Below W0.heap.size W0 W1 := by rw [← hW1]; exact below_drewN HB.out _
                  obtain ⟨⟨d0, d1⟩, z0, z1, z2⟩ := HCELL.out _ hB1
                  clear hW1
                  go_wp2
                  go_quiet (fail)
                  generalize hW2 : W1.drewN nq = W2
                  have hB2 : Below W0.heap.size W0 W2 := by rw [← hW2]; exact below_drewN hB1 _
                  clear hW2 hB1
                  have hti0 := HTI.out j hjm
                  rw [HY.out, List.length_take] at hti0
                  simp only at hti0
                  have hti : y2 + 1 ≤ 9223372036854775807 := by omega
                  obtain ⟨x1, x2, hT⟩ := tail_facts (w := w) (b0 := b0) (u2 := u2) (OwnEl.keep HOW.out hB2) HM.out hjm HY.out (HCELL.out _ hB2).2.2.2 hgb (bel_on1 HBW.out hB2 HBW.out.size)
                  have HTL := Lib.hid hT
                  have HG := Lib.hid (show tRows (l.take k ++ [((u0, u1, u2) : Mk)]) = R.set j (y0, y1, y2 + 1, wrap64 (y3 + u2)) by
                    have hy2 : R.getD j default = (y0, y1, y2, y3) := HY.out
                    have := HHIT.out (u0, u1, u2) j hjm (by rw [hy2]; simp only [hKy, mKy]; rw [E1.out, E3.out])
                    rw [hy2] at this
                    exact this)
                  clear hT hB2
                  go_wp2
                  obtain ⟨W4, hW4⟩ : ∃ W4, W2.setCell ⟨g2, j * 4 + 2, none⟩ (.int .i64 (y2 + 1)) = W4 := ⟨_, rfl⟩
                  rw [hW4]
                  obtain ⟨W5, hW5⟩ : ∃ W5, W4.drew = W5 := ⟨_, rfl⟩
                  obtain ⟨e3d, hbd, fe, ho4, hb4⟩ := HTL.out W4 W5 hW4 hW5
                  have e35 := e3d
                  have hb5 := hbd
                  rw [hW5] at e35 hb5
                  have HO4 := Lib.hid ho4
                  have HB4 := Lib.hid hb4
                  have hwe : IntKind.i64.wrap (y3 + u2) = wrap64 (y3 + u2) := IntWalk.i64_left _
                  clear ho4 hb4 hW4
                  go_still_tail 12, (by kernel_rfl)
                  try rw [hwe]
                  change wpList _ _ _ _ _ W4.drew
                  rw [hW5]
                  clear hW5 hwe e3d hbd
                  go_wp2
                  go_roundw
                  case rel => exact ⟨k + 1, by omega, by go_num, by rw [HTK.out, HG.out]; exact HO4.out, HB4.out⟩
                  case measure => simp [intOf]; omega
                · have q3 : (y1 != u1) = true := by simp [e3]
                  have E3 := Lib.hid e3
                  clear e2 e3
                  obtain ⟨a2, c2, hs2, hd2⟩ := ElAt.from HATW.out (m := j) hj
                  have hsl1 : ∀ w, (Instr.slice 35 (.slice (some ⟨g2, 0, none⟩) m co) none (some (.int .i64 j)) none).run Try.prog w = .ok (.slice (some ⟨g2, 0, none⟩) j co) w := fun w => by rw [run_cut_to 35 Try.underlying35 (s := 4) (fun w => Try.sizeOf40 w) (some ⟨g2, 0, none⟩) m co j (by omega) w, sliced_to]
                  have hsl2 : ∀ w, (Instr.slice 35 (.slice (some ⟨g2, 0, none⟩) m co) (some (.int .i64 j)) none none).run Try.prog w = .ok (.slice a2 (m - j : Nat) c2) w := fun w => by rw [run_cut_from 35 Try.underlying35 (s := 4) (fun w => Try.sizeOf40 w) (some ⟨g2, 0, none⟩) m co j hj w]; rw [show (4 : Nat) = htK.k from rfl, hs2]
                  have H1 := Lib.hid (ElAt.pre HATW.out hj)
                  have H2 := Lib.hid hd2
                  have hl1 : (R.take j).length = j := by rw [List.length_take]; have := HM.out; omega
                  have HL1 := Lib.hid hl1
                  obtain ⟨d, hd⟩ : ∃ d, m - j = d := ⟨_, rfl⟩
                  rw [hd] at hsl2 H2
                  have hdb : d ≤ m := by omega
                  obtain ⟨r2, hr2⟩ : ∃ r : Int, r = 0 := ⟨_, rfl⟩
                  obtain ⟨r3, hr3⟩ : ∃ r : Int, r = 0 := ⟨_, rfl⟩
                  have hti0 : 0 ≤ r2 ∧ r2 ≤ 5 := by omega
                  have hti : r2 + 1 ≤ 9223372036854775807 := by omega
                  obtain ⟨N, hN⟩ : ∃ N, (R.take j ++ [((u0, u1, 0, 0) : Ht)] ++ R.drop j).length = N := ⟨_, rfl⟩
                  have hNj : j < N := by rw [← hN, List.length_append, List.length_append, hl1, List.length_singleton]; omega
                  have hNj' : (j : Int) < N := by omega
                  have hjl : j ≤ R.length := by have := HM.out; omega
                  have HN := Lib.hid hN
                  have HEL := Lib.hid (show el (R.take j ++ [((u0, u1, 0, 0) : Ht)] ++ R.drop j) j = (u0, u1, r2, r3) by rw [hr2, hr3]; exact put_at hjl)
                  have HG := Lib.hid (show tRows (l.take k ++ [((u0, u1, u2) : Mk)]) = (R.take j ++ [((u0, u1, 0, 0) : Ht)] ++ R.drop j).set j (u0, u1, r2 + 1, wrap64 (r3 + u2)) by
                    rw [put_in hjl, HNEW.out (u0, u1, u2) j hj (fun q hq => HQ.out q hq) (fun _ => by rw [show R.getD j default = (y0, y1, y2, y3) from HY.out, kLt_not]; simp only [hKy, mKy]; have := E1.out; omega) (fun _ q => by rw [show R.getD j default = (y0, y1, y2, y3) from HY.out] at q; simp only [hKy, mKy, Prod.mk.injEq] at q; exact E3.out q.2), hr2, hr3]
                    rfl)
                  clear hs2 hd2 hl1 hd hr2 hr3 hN hjl
                  go_wp2
                  go_quiet (fail)
                  generalize hW1 : wr.drewN nq = W1
                  have hB1 : Below W0.heap.size W0 W1 := by rw [← hW1]; exact below_drewN HB.out _
                  obtain ⟨⟨d0, d1⟩, z0, z1, z2⟩ := HCELL.out _ hB1
                  clear hW1
                  go_wp2
                  go_quiet (fail)
                  generalize hW2 : W1.drewN nq = W2
                  have hB2 : Below W0.heap.size W0 W2 := by rw [← hW2]; exact below_drewN hB1 _
                  clear hW2 hB1
                  have z0 := cell_on hB2 HBX.out.1 hbs
                  have z1 := cell_on hB2 HBX.out.2.1 hbs
                  have z2 := cell_on hB2 HBX.out.2.2 hbs
                  have hs0 := hB2.size
                  have hbs2 : b0 < W2.heap.size := by omega
                  have H1' := Lib.hid (ElAt.keep H1.out hB2)
                  have H2' := Lib.hid (ElAt.keep H2.out hB2)
                  have HB2 := Lib.hid (bel_on1 HBW.out hB2 HBW.out.size)
                  have hws2 := HB2.out.size
                  clear hB2
                  go_wp2_with (first
                    | (at_builtin; refine wpList_append_els rfl _ _ 35 rfl W2.heap.size 40 i0 _ Try.underlying35 hi hz0 hz1 (by omega) rfl rfl (OwnEl.nil _ _ _ _) rfl H1'.out (by simp; omega) (Nat.le_refl _) ?_; intro v1 w1 h1 g1; have k1 := below_first g1 (fun q e => by cases e); have s1 := k1.size; have b1 := cell_on k1 z0 hbs2; have b2 := cell_on k1 z1 hbs2)
                    | (at_builtin; refine wpList_append_els rfl _ _ 35 rfl W2.heap.size 40 i0 _ Try.underlying35 hi hz0 hz1 (by omega) rfl rfl (OwnEl.keep h1 ((Below.refl _ _).alloc (Nat.le_refl _) _)) rfl (ht_one (b := w1.heap.size) w1 (u0, u1, 0, 0) rfl) (by rw [List.nil_append, HL1.out]; omega) (by simp; omega) ?_; intro v2 w2 h2 g2'; have k2 := (k1.alloc s1 _).grown g2' (by simp; omega) (fun q e => (OwnEl.lt h1 q e).1); have s2 := k2.size)
                    | (at_builtin; refine wpList_append_els rfl _ _ 35 rfl W2.heap.size 40 i0 _ Try.underlying35 hi hz0 hz1 (by omega) rfl rfl h2 rfl (ElAt.keep H2'.out k2) (by rw [List.nil_append, List.length_append, HL1.out, List.length_singleton]; omega) s2 ?_; intro v3 w3 h3 g3'; have k3 := k2.grown g3' s2 (fun q e => (OwnEl.lt h2 q e).1); rw [List.nil_append] at h3; obtain ⟨g3, cap3, rfl, hg3, hg3', hcp3, hcp4⟩ := OwnEl.form h3 HN.out (by omega); obtain ⟨x1, x2, hT⟩ := tail_facts (w := w) (b0 := b0) (u2 := u2) (OwnEl.mono h3 hws2) HN.out hNj HEL.out (cell_on k3 z2 hbs2) (by omega) (bel_on1 HB2.out k3 hws2); have HTL := Lib.hid hT; clear hT h3 g3' k3 h2 g2' k2 h1 g1 k1; unfold maxLen at hcp4))
                  obtain ⟨W4, hW4⟩ : ∃ W4, w3.setCell ⟨g3, j * 4 + 2, none⟩ (.int .i64 (r2 + 1)) = W4 := ⟨_, rfl⟩
                  rw [hW4]
                  obtain ⟨W5, hW5⟩ : ∃ W5, W4.drew = W5 := ⟨_, rfl⟩
                  obtain ⟨e3d, hbd, fe, ho4, hb4⟩ := HTL.out W4 W5 hW4 hW5
                  have e35 := e3d
                  have hb5 := hbd
                  rw [hW5] at e35 hb5
                  have HO4 := Lib.hid ho4
                  have HB4 := Lib.hid hb4
                  have hwe : IntKind.i64.wrap (r3 + u2) = wrap64 (r3 + u2) := IntWalk.i64_left _
                  clear ho4 hb4 hW4
                  go_still_tail 12, (by kernel_rfl)
                  try rw [hwe]
                  change wpList _ _ _ _ _ W4.drew
                  rw [hW5]
                  clear hW5 hwe e3d hbd
                  go_wp2
                  go_roundw
                  case rel => exact ⟨k + 1, by omega, by go_num, by rw [HTK.out, HG.out]; exact HO4.out, HB4.out⟩
                  case measure => simp [intOf]; omega
            · have q1 : (y0 == u0) = false := by simp [e1]
              have q1' : (y0 != u0) = true := by simp [e1]
              have E1 := Lib.hid e1
              clear e0 e1
              obtain ⟨a2, c2, hs2, hd2⟩ := ElAt.from HATW.out (m := j) hj
              have hsl1 : ∀ w, (Instr.slice 35 (.slice (some ⟨g2, 0, none⟩) m co) none (some (.int .i64 j)) none).run Try.prog w = .ok (.slice (some ⟨g2, 0, none⟩) j co) w := fun w => by rw [run_cut_to 35 Try.underlying35 (s := 4) (fun w => Try.sizeOf40 w) (some ⟨g2, 0, none⟩) m co j (by omega) w, sliced_to]
              have hsl2 : ∀ w, (Instr.slice 35 (.slice (some ⟨g2, 0, none⟩) m co) (some (.int .i64 j)) none none).run Try.prog w = .ok (.slice a2 (m - j : Nat) c2) w := fun w => by rw [run_cut_from 35 Try.underlying35 (s := 4) (fun w => Try.sizeOf40 w) (some ⟨g2, 0, none⟩) m co j hj w]; rw [show (4 : Nat) = htK.k from rfl, hs2]
              have H1 := Lib.hid (ElAt.pre HATW.out hj)
              have H2 := Lib.hid hd2
              have hl1 : (R.take j).length = j := by rw [List.length_take]; have := HM.out; omega
              have HL1 := Lib.hid hl1
              obtain ⟨d, hd⟩ : ∃ d, m - j = d := ⟨_, rfl⟩
              rw [hd] at hsl2 H2
              have hdb : d ≤ m := by omega
              obtain ⟨r2, hr2⟩ : ∃ r : Int, r = 0 := ⟨_, rfl⟩
              obtain ⟨r3, hr3⟩ : ∃ r : Int, r = 0 := ⟨_, rfl⟩
              have hti0 : 0 ≤ r2 ∧ r2 ≤ 5 := by omega
              have hti : r2 + 1 ≤ 9223372036854775807 := by omega
              obtain ⟨N, hN⟩ : ∃ N, (R.take j ++ [((u0, u1, 0, 0) : Ht)] ++ R.drop j).length = N := ⟨_, rfl⟩
              have hNj : j < N := by rw [← hN, List.length_append, List.length_append, hl1, List.length_singleton]; omega
              have hNj' : (j : Int) < N := by omega
              have hjl : j ≤ R.length := by have := HM.out; omega
              have HN := Lib.hid hN
              have HEL := Lib.hid (show el (R.take j ++ [((u0, u1, 0, 0) : Ht)] ++ R.drop j) j = (u0, u1, r2, r3) by rw [hr2, hr3]; exact put_at hjl)
              have HG := Lib.hid (show tRows (l.take k ++ [((u0, u1, u2) : Mk)]) = (R.take j ++ [((u0, u1, 0, 0) : Ht)] ++ R.drop j).set j (u0, u1, r2 + 1, wrap64 (r3 + u2)) by
                rw [put_in hjl, HNEW.out (u0, u1, u2) j hj (fun q hq => HQ.out q hq) (fun _ => by rw [show R.getD j default = (y0, y1, y2, y3) from HY.out, kLt_not]; simp only [hKy, mKy]; have := E1.out; omega) (fun _ q => by rw [show R.getD j default = (y0, y1, y2, y3) from HY.out] at q; simp only [hKy, mKy, Prod.mk.injEq] at q; exact E1.out q.1), hr2, hr3]
                rfl)
              clear hs2 hd2 hl1 hd hr2 hr3 hN hjl
              go_wp2
              go_quiet (fail)
              generalize hW1 : wr.drewN nq = W1
              have hB1 : Below W0.heap.size W0 W1 := by rw [← hW1]; exact below_drewN HB.out _
              obtain ⟨⟨d0, d1⟩, z0, z1, z2⟩ := HCELL.out _ hB1
              clear hW1
              go_wp2
              go_quiet (fail)
              generalize hW2 : W1.drewN nq = W2
              have hB2 : Below W0.heap.size W0 W2 := by rw [← hW2]; exact below_drewN hB1 _
              clear hW2 hB1
              have z0 := cell_on hB2 HBX.out.1 hbs
              have z1 := cell_on hB2 HBX.out.2.1 hbs
              have z2 := cell_on hB2 HBX.out.2.2 hbs
              have hs0 := hB2.size
              have hbs2 : b0 < W2.heap.size := by omega
              have H1' := Lib.hid (ElAt.keep H1.out hB2)
              have H2' := Lib.hid (ElAt.keep H2.out hB2)
              have HB2 := Lib.hid (bel_on1 HBW.out hB2 HBW.out.size)
              have hws2 := HB2.out.size
              clear hB2
              go_wp2_with (first
                | (at_builtin; refine wpList_append_els rfl _ _ 35 rfl W2.heap.size 40 i0 _ Try.underlying35 hi hz0 hz1 (by omega) rfl rfl (OwnEl.nil _ _ _ _) rfl H1'.out (by simp; omega) (Nat.le_refl _) ?_; intro v1 w1 h1 g1; have k1 := below_first g1 (fun q e => by cases e); have s1 := k1.size; have b1 := cell_on k1 z0 hbs2; have b2 := cell_on k1 z1 hbs2)
                | (at_builtin; refine wpList_append_els rfl _ _ 35 rfl W2.heap.size 40 i0 _ Try.underlying35 hi hz0 hz1 (by omega) rfl rfl (OwnEl.keep h1 ((Below.refl _ _).alloc (Nat.le_refl _) _)) rfl (ht_one (b := w1.heap.size) w1 (u0, u1, 0, 0) rfl) (by rw [List.nil_append, HL1.out]; omega) (by simp; omega) ?_; intro v2 w2 h2 g2'; have k2 := (k1.alloc s1 _).grown g2' (by simp; omega) (fun q e => (OwnEl.lt h1 q e).1); have s2 := k2.size)
                | (at_builtin; refine wpList_append_els rfl _ _ 35 rfl W2.heap.size 40 i0 _ Try.underlying35 hi hz0 hz1 (by omega) rfl rfl h2 rfl (ElAt.keep H2'.out k2) (by rw [List.nil_append, List.length_append, HL1.out, List.length_singleton]; omega) s2 ?_; intro v3 w3 h3 g3'; have k3 := k2.grown g3' s2 (fun q e => (OwnEl.lt h2 q e).1); rw [List.nil_append] at h3; obtain ⟨g3, cap3, rfl, hg3, hg3', hcp3, hcp4⟩ := OwnEl.form h3 HN.out (by omega); obtain ⟨x1, x2, hT⟩ := tail_facts (w := w) (b0 := b0) (u2 := u2) (OwnEl.mono h3 hws2) HN.out hNj HEL.out (cell_on k3 z2 hbs2) (by omega) (bel_on1 HB2.out k3 hws2); have HTL := Lib.hid hT; clear hT h3 g3' k3 h2 g2' k2 h1 g1 k1; unfold maxLen at hcp4))
              obtain ⟨W4, hW4⟩ : ∃ W4, w3.setCell ⟨g3, j * 4 + 2, none⟩ (.int .i64 (r2 + 1)) = W4 := ⟨_, rfl⟩
              rw [hW4]
              obtain ⟨W5, hW5⟩ : ∃ W5, W4.drew = W5 := ⟨_, rfl⟩
              obtain ⟨e3d, hbd, fe, ho4, hb4⟩ := HTL.out W4 W5 hW4 hW5
              have e35 := e3d
              have hb5 := hbd
              rw [hW5] at e35 hb5
              have HO4 := Lib.hid ho4
              have HB4 := Lib.hid hb4
              have hwe : IntKind.i64.wrap (r3 + u2) = wrap64 (r3 + u2) := IntWalk.i64_left _
              clear ho4 hb4 hW4
              go_still_tail 12, (by kernel_rfl)
              try rw [hwe]
              change wpList _ _ _ _ _ W4.drew
              rw [hW5]
              clear hW5 hwe e3d hbd
              go_wp2
              go_roundw
              case rel => exact ⟨k + 1, by omega, by go_num, by rw [HTK.out, HG.out]; exact HO4.out, HB4.out⟩
              case measure => simp [intOf]; omega
        · obtain rfl : j = m := by omega
          have q9 : decide (j < j) = false := decide_eq_false (Nat.lt_irrefl _)
          clear hb
          obtain ⟨a2, c2, hs2, hd2⟩ := ElAt.from HATW.out (m := j) hj
          have hsl1 : ∀ w, (Instr.slice 35 (.slice ao j co) none (some (.int .i64 j)) none).run Try.prog w = .ok (.slice ao j co) w := fun w => by rw [run_cut_to 35 Try.underlying35 (s := 4) (fun w => Try.sizeOf40 w) ao j co j (by omega) w, sliced_to]
          have hsl2 : ∀ w, (Instr.slice 35 (.slice ao j co) (some (.int .i64 j)) none none).run Try.prog w = .ok (.slice a2 (j - j : Nat) c2) w := fun w => by rw [run_cut_from 35 Try.underlying35 (s := 4) (fun w => Try.sizeOf40 w) ao j co j hj w]; rw [show (4 : Nat) = htK.k from rfl, hs2]
          have H1 := Lib.hid (ElAt.pre HATW.out hj)
          have H2 := Lib.hid hd2
          have hl1 : (R.take j).length = j := by rw [List.length_take]; have := HM.out; omega
          have HL1 := Lib.hid hl1
          obtain ⟨d, hd⟩ : ∃ d, j - j = d := ⟨_, rfl⟩
          rw [hd] at hsl2 H2
          have hdb : d ≤ j := by omega
          obtain ⟨r2, hr2⟩ : ∃ r : Int, r = 0 := ⟨_, rfl⟩
          obtain ⟨r3, hr3⟩ : ∃ r : Int, r = 0 := ⟨_, rfl⟩
          have hti0 : 0 ≤ r2 ∧ r2 ≤ 5 := by omega
          have hti : r2 + 1 ≤ 9223372036854775807 := by omega
          obtain ⟨N, hN⟩ : ∃ N, (R.take j ++ [((u0, u1, 0, 0) : Ht)] ++ R.drop j).length = N := ⟨_, rfl⟩
          have hNj : j < N := by rw [← hN, List.length_append, List.length_append, hl1, List.length_singleton]; omega
          have hNj' : (j : Int) < N := by omega
          have hjl : j ≤ R.length := by have := HM.out; omega
          have HN := Lib.hid hN
          have HEL := Lib.hid (show el (R.take j ++ [((u0, u1, 0, 0) : Ht)] ++ R.drop j) j = (u0, u1, r2, r3) by rw [hr2, hr3]; exact put_at hjl)
          have HG := Lib.hid (show tRows (l.take k ++ [((u0, u1, u2) : Mk)]) = (R.take j ++ [((u0, u1, 0, 0) : Ht)] ++ R.drop j).set j (u0, u1, r2 + 1, wrap64 (r3 + u2)) by
            rw [put_in hjl, HNEW.out (u0, u1, u2) j hj (fun q hq => HQ.out q hq) (fun z => absurd z (Nat.lt_irrefl _)) (fun z => absurd z (Nat.lt_irrefl _)), hr2, hr3]
            rfl)
          clear hs2 hd2 hl1 hd hr2 hr3 hN hjl
          go_wp2
          go_quiet (fail)
          generalize hW1 : wr.drewN nq = W1
          have hB1 : Below W0.heap.size W0 W1 := by rw [← hW1]; exact below_drewN HB.out _
          obtain ⟨z0, z1, z2⟩ : _ ∧ _ ∧ _ := ⟨cell_on hB1 HBX.out.1 hbs, cell_on hB1 HBX.out.2.1 hbs, cell_on hB1 HBX.out.2.2 hbs⟩
          clear hW1
          go_wp2
          go_quiet (fail)
          generalize hW2 : W1.drewN nq = W2
          have hB2 : Below W0.heap.size W0 W2 := by rw [← hW2]; exact below_drewN hB1 _
          clear hW2 hB1
          have z0 := cell_on hB2 HBX.out.1 hbs
          have z1 := cell_on hB2 HBX.out.2.1 hbs
          have z2 := cell_on hB2 HBX.out.2.2 hbs
          have hs0 := hB2.size
          have hbs2 : b0 < W2.heap.size := by omega
          have H1' := Lib.hid (ElAt.keep H1.out hB2)
          have H2' := Lib.hid (ElAt.keep H2.out hB2)
          have HB2 := Lib.hid (bel_on1 HBW.out hB2 HBW.out.size)
          have hws2 := HB2.out.size
          clear hB2
          go_wp2_with (first
            | (at_builtin; refine wpList_append_els rfl _ _ 35 rfl W2.heap.size 40 i0 _ Try.underlying35 hi hz0 hz1 (by omega) rfl rfl (OwnEl.nil _ _ _ _) rfl H1'.out (by simp; omega) (Nat.le_refl _) ?_; intro v1 w1 h1 g1; have k1 := below_first g1 (fun q e => by cases e); have s1 := k1.size; have b1 := cell_on k1 z0 hbs2; have b2 := cell_on k1 z1 hbs2)
            | (at_builtin; refine wpList_append_els rfl _ _ 35 rfl W2.heap.size 40 i0 _ Try.underlying35 hi hz0 hz1 (by omega) rfl rfl (OwnEl.keep h1 ((Below.refl _ _).alloc (Nat.le_refl _) _)) rfl (ht_one (b := w1.heap.size) w1 (u0, u1, 0, 0) rfl) (by rw [List.nil_append, HL1.out]; omega) (by simp; omega) ?_; intro v2 w2 h2 g2'; have k2 := (k1.alloc s1 _).grown g2' (by simp; omega) (fun q e => (OwnEl.lt h1 q e).1); have s2 := k2.size)
            | (at_builtin; refine wpList_append_els rfl _ _ 35 rfl W2.heap.size 40 i0 _ Try.underlying35 hi hz0 hz1 (by omega) rfl rfl h2 rfl (ElAt.keep H2'.out k2) (by rw [List.nil_append, List.length_append, HL1.out, List.length_singleton]; omega) s2 ?_; intro v3 w3 h3 g3'; have k3 := k2.grown g3' s2 (fun q e => (OwnEl.lt h2 q e).1); rw [List.nil_append] at h3; obtain ⟨g3, cap3, rfl, hg3, hg3', hcp3, hcp4⟩ := OwnEl.form h3 HN.out (by omega); obtain ⟨x1, x2, hT⟩ := tail_facts (w := w) (b0 := b0) (u2 := u2) (OwnEl.mono h3 hws2) HN.out hNj HEL.out (cell_on k3 z2 hbs2) (by omega) (bel_on1 HB2.out k3 hws2); have HTL := Lib.hid hT; clear hT h3 g3' k3 h2 g2' k2 h1 g1 k1; unfold maxLen at hcp4))
          obtain ⟨W4, hW4⟩ : ∃ W4, w3.setCell ⟨g3, j * 4 + 2, none⟩ (.int .i64 (r2 + 1)) = W4 := ⟨_, rfl⟩
          rw [hW4]
          obtain ⟨W5, hW5⟩ : ∃ W5, W4.drew = W5 := ⟨_, rfl⟩
          obtain ⟨e3d, hbd, fe, ho4, hb4⟩ := HTL.out W4 W5 hW4 hW5
          have e35 := e3d
          have hb5 := hbd
          rw [hW5] at e35 hb5
          have HO4 := Lib.hid ho4
          have HB4 := Lib.hid hb4
          have hwe : IntKind.i64.wrap (r3 + u2) = wrap64 (r3 + u2) := IntWalk.i64_left _
          clear ho4 hb4 hW4
          go_still_tail 12, (by kernel_rfl)
          try rw [hwe]
          change wpList _ _ _ _ _ W4.drew
          rw [hW5]
          clear hW5 hwe e3d hbd
          go_wp2
          go_roundw
          case rel => exact ⟨k + 1, by omega, by go_num, by rw [HTK.out, HG.out]; exact HO4.out, HB4.out⟩
          case measure => simp [intOf]; omega
    · obtain rfl : k = n := by omega
      go_wp2
      go_ret
      exact ⟨_, rfl, by rw [← HF.out, HR.out]; exact HO.out, Hb.out⟩
end Go.Proofs.Ythmojdmdhabogaa
