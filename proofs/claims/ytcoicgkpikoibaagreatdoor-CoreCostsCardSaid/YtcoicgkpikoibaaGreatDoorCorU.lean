/- What the document says of layer 16: Step. Conditions: fewer marks than a million; words are words. -/
import Derived.Test.YtcoicgkpikoibaaGreatDoorCorT
import Derived.Test.YtcoicgkpikoibaaGreatDoorAluS
import Derived.Test.YtcoicgkpikoibaaGreatDoorCodS
import Derived.Deep.DeepCutAuto
namespace Go.Proofs.YtcoicgkpikoibaaGreatDoor
open Go.RowKit Go.IntWalk

set_option maxRecDepth 100000 in
set_option maxHeartbeats 4000000 in
theorem refStep_no {w : World} {base b R : Nat} {F : Nat → Prop} {code : List Int} {s : Cst} (h : RefAt w base b F code s) (hg : Good code.length R s) (hp : ¬ (0 ≤ s.pc ∧ s.pc < code.length)) :
    Calls Tryz.prog 11 #[.pointer (some ⟨b, 0, none⟩)] w fun e w' => e = .returned (.tuple #[]) ∧ RefTo w base b F code (s.stop 2) w' := by
  obtain ⟨ca, cn, cc, ra, rn, rc, mv, h⟩ := h
  have HR := Lib.hid h
  obtain ⟨c0, -, c34, c35, -⟩ := h.cpc
  have f35 := h.free 35
  have hcn := h.code.len
  have hcap := h.code.cap
  obtain ⟨q0, q1⟩ := hg.pc
  clear h hg
  by_cases h0 : s.pc < 0
  · have e0 : decide (s.pc < 0) = true := by simpa using h0
    go_enter Tryz.func11, Tryz.ntmps11
    go_wp2
    go_quiet (fail)
    go_wp2
    refine bodyPost_ret (results_none rfl _ _ _) rfl ?_
    exact ⟨rfl, F, ((HR.out.keep (below_drewN (Below.refl _ _) _)).to_st 2).at, (Grows.of_below F (below_drewN (Below.refl _ _) _)).trans (Grows.set HR.out.fb _ _ _)⟩
  · have e0 : decide (s.pc < 0) = false := by simpa using h0
    have h1 : 0 ≤ s.pc := by omega
    have h2 : (cn : Int) ≤ s.pc := by omega
    go_enter Tryz.func11, Tryz.ntmps11
    go_wp2
    go_quiet (fail)
    go_wp2
    refine bodyPost_ret (results_none rfl _ _ _) rfl ?_
    exact ⟨rfl, F, ((HR.out.keep (below_drewN (Below.refl _ _) _)).to_st 2).at, (Grows.of_below F (below_drewN (Below.refl _ _) _)).trans (Grows.set HR.out.fb _ _ _)⟩
/-- An instruction's block that was made ahead of a call. -/
theorem ins_ahead {w w' : World} {o d a b n : Int} (h : Below (w.alloc (.cells #[.int .i64 o, .int .i64 d, .int .i64 a, .int .i64 b, .int .i64 n] 66)).drew.heap.size (w.alloc (.cells #[.int .i64 o, .int .i64 d, .int .i64 a, .int .i64 b, .int .i64 n] 66)).drew w') :
    BlkAt w.heap.size 66 #[.int .i64 o, .int .i64 d, .int .i64 a, .int .i64 b, .int .i64 n] w' ∧ Below w.heap.size w w' :=
  ⟨(BlkAt.new w _ _).keep ((Below.refl _ _).drew.trans h), ((Below.refl w.heap.size w).alloc (Nat.le_refl _) _).drew.trans (h.mono (by show w.heap.size ≤ (w.alloc _).heap.size; rw [World.size_alloc]; omega))⟩
theorem below_drew {w w' : World} (h : Below w.drew.heap.size w.drew w') : Below w.heap.size w w' := (Below.refl w.heap.size w).drew.trans h
theorem refDecode_to {v o d a b n z : Int} {w : World} (ho : cO v = o) (hd : cG v 0 = d) (ha : cG v 1 = a) (hb : cG v 2 = b) (hn : cG v 3 = n) (hz : cErr v = z) (v0 : 0 ≤ v) (v1 : v < 4294967296) :
    Calls Tryz.prog 30 #[.int .u32 v] w fun e w' => e = .returned (.tuple #[.agg #[.int .i64 o, .int .i64 d, .int .i64 a, .int .i64 b, .int .i64 n], .int .i64 z]) ∧ Below w.heap.size w w' := by
  subst ho hd ha hb hn hz
  exact (refDecode_is v w v0 v1).mono fun _ _ h => h
theorem RefAt.fb {w : World} {base b : Nat} {F : Nat → Prop} {code : List Int} {s : Cst} (h : RefAt w base b F code s) : F b := match h with | ⟨_, _, _, _, _, _, _, h⟩ => h.fb
theorem RefAt.to_st {w : World} {base b : Nat} {F : Nat → Prop} {code : List Int} {s : Cst} (h : RefAt w base b F code s) (x : Int) : RefAt (w.setCell ⟨b, 35, none⟩ (.int .i64 x)) base b F code (s.stop x) := match h with | ⟨_, _, _, _, _, _, _, h⟩ => ⟨_, _, _, _, _, _, _, h.to_st x⟩
/-- What a Decode leaves: an instruction's block, made by the call. -/
def InsNew (W : World) (s2 : Value) (o d a q n : Int) (wx : World) : Prop := ∃ B : Nat, s2 = .pointer (some ⟨B, 0, none⟩) ∧ BlkAt B 66 #[.int .i64 o, .int .i64 d, .int .i64 a, .int .i64 q, .int .i64 n] wx ∧ W.heap.size ≤ B ∧ Below W.heap.size W wx
theorem InsNew.behind {W w3 : World} (o d a q n : Int) (h : Below W.heap.size W w3) : InsNew W (.pointer (some ⟨w3.heap.size, 0, none⟩)) o d a q n (w3.alloc (.cells #[.int .i64 o, .int .i64 d, .int .i64 a, .int .i64 q, .int .i64 n] 66)) :=
  ⟨_, rfl, BlkAt.new _ _ _, h.size, h.alloc h.size _⟩
theorem InsNew.ahead {W w3 : World} {z0 z1 z2 z3 z4 : Value} (o d a q n : Int) (hB : BlkAt W.heap.size 66 #[z0, z1, z2, z3, z4] w3) (h : Below W.heap.size W w3) :
    InsNew W (.pointer (some ⟨W.heap.size, 0, none⟩)) o d a q n (((((w3.setCell ⟨W.heap.size, 0, none⟩ (.int .i64 o)).setCell ⟨W.heap.size, 1, none⟩ (.int .i64 d)).setCell ⟨W.heap.size, 2, none⟩ (.int .i64 a)).setCell ⟨W.heap.size, 3, none⟩ (.int .i64 q)).setCell ⟨W.heap.size, 4, none⟩ (.int .i64 n)) := by
  refine ⟨_, rfl, ?_, Nat.le_refl _, ?_⟩
  · exact ((((((hB.set 0 (.int .i64 o)).set 1 (.int .i64 d)).set 2 (.int .i64 a)).set 3 (.int .i64 q)).set 4 (.int .i64 n)).eq (by simp))
  · exact ((((h.setCell (p := ⟨W.heap.size, 0, none⟩) (Nat.le_refl _) _).setCell (p := ⟨W.heap.size, 1, none⟩) (Nat.le_refl _) _).setCell (p := ⟨W.heap.size, 2, none⟩) (Nat.le_refl _) _).setCell (p := ⟨W.heap.size, 3, none⟩) (Nat.le_refl _) _).setCell (p := ⟨W.heap.size, 4, none⟩) (Nat.le_refl _) _
theorem refDo_v {op a b v : Int} {t : Bool} {w : World} (ha : w32 a) (hb : w32 b) (hv : wDo op a b = v) (ht : wDoes op b = t) :
    Calls Tryz.prog 34 #[.int .i64 op, .int .i32 a, .int .i32 b] w fun e w' => e = .returned (.tuple #[.int .i32 v, .bool t]) ∧ Below w.heap.size w w' := by
  subst hv ht; exact refDo_is op a b w ha.1 ha.2 hb.1 hb.2
theorem refCost_v {op a v : Int} {w : World} (ho : 1 ≤ op ∧ op ≤ 30) (ha : w32 a) (hv : wCostA op a = v) :
    Calls Tryz.prog 37 #[.int .i64 op, .int .i32 a] w fun e w' => e = .returned (.int .i64 v) ∧ Below w.heap.size w w' := by
  subst hv; exact refCostA_is op a w (by omega) (by omega) ha.1 ha.2
set_option maxRecDepth 100000 in
set_option maxHeartbeats 8000000 in
theorem refStep_at {w : World} {base b R p : Nat} {F : Nat → Prop} {code : List Int} {s : Cst} {v z : Int} {o n : Int} {d a q : Nat} (h : RefAt w base b F code s) (hg : Good code.length R s) (hN : code.length < 1048576) (hR : R ≤ 1048576) (hm : s.mks.length < 1048575) (hp : s.pc = (p : Int)) (hpn : p < code.length) (hv : byAt code p = v) (hvb : 0 ≤ v ∧ v < 4294967296)
    (hz : cErr v = z) (hoo : cO v = o) (hdd : cG v 0 = (d : Int)) (haa : cG v 1 = (a : Int)) (hbb : cG v 2 = (q : Int)) (hnn : cG v 3 = n) (hok : z = 0 → (1 ≤ o ∧ o ≤ 43) ∧ -32768 ≤ n ∧ n ≤ 65535) (hd : d < 32) (ha : a < 32) (hq : q < 32) :
    Calls Tryz.prog 11 #[.pointer (some ⟨b, 0, none⟩)] w fun e w' => e = .returned (.tuple #[]) ∧ RefTo w base b F code (if z = 0 then exeS s o d a q n else s.stop 3) w' := by
  obtain ⟨ca, cn, cc, ra, rn, rc, mv, h⟩ := h
  have HR := Lib.hid h
  obtain ⟨c0, -, c34, c35, -⟩ := h.cpc
  rw [hp] at c34
  have hcn := h.code.len
  have hcap := h.code.cap
  have hbig := h.code.big
  unfold maxLen at hbig
  obtain ⟨cb, co, rfl, hcell⟩ := h.code.lie (by omega)
  have c9 := hcell p (by omega)
  rw [hv] at c9
  have HDec := Lib.hid (fun w => refDecode_to (w := w) hoo hdd haa hbb hnn hz hvb.1 hvb.2)
  have hpc : (p : Int) < cn := by omega
  have hp0 : ¬ (p : Int) < 0 := by omega
  have e0 : decide ((p : Int) < 0) = false := by simp
  have hge : ¬ (cn : Int) ≤ (p : Int) := by omega
  have HG := Lib.hid hg
  have HOK := Lib.hid hok
  have HP := Lib.hid hp
  have HM := Lib.hid (show s.mks.length < 1048576 by omega)
  have HRL := Lib.hid (show s.ram.length ≤ 1048576 by have := hg.len; omega)
  have HP20 := Lib.hid (show p < 1048576 by omega)
  clear h hg hcell hz hoo hdd haa hbb hnn hv hp hok hvb hcn hN hR hpn
  have HD := Lib.hid (And.intro hd (And.intro ha hq))
  clear hd ha hq
  obtain ⟨t, ht⟩ : ∃ t, (if z = 0 then exeS s o d a q n else s.stop 3) = t := ⟨_, rfl⟩
  rw [ht]
  have HT := Lib.hid ht
  clear ht
  go_enter Tryz.func11, Tryz.ntmps11
  go_wp2
  go_quiet (fail)
  go_wp2
  generalize hW : World.drewN w _ = W
  have HB := Lib.hid (show Below w.heap.size w W from hW ▸ below_drewN (Below.refl _ _) _)
  clear hW
  have HR1 := Lib.hid (HR.out.keep HB.out)
  have d0 := HR1.out.cpc.1
  have d34 := (HB.out.cell (p := ⟨b, 34, none⟩) (cell_lt c34)).trans c34
  have d9 := (HB.out.cell (p := ⟨cb, co + p, none⟩) (cell_lt c9)).trans c9
  go_cut [2, 3] (fun s2 s3 wx => InsNew W s2 o d a q n wx ∧ s3 = .int .i64 z)
  case first =>
    have HA := Lib.hid (fun o => (Below.refl W.heap.size W).alloc (Nat.le_refl _) o)
    have g0 := fun o => ((HA.out o).cell (p := ⟨b, 0, none⟩) (cell_lt d0)).trans d0
    have g34 := fun o => ((HA.out o).cell (p := ⟨b, 34, none⟩) (cell_lt d34)).trans d34
    have g9 := fun o => ((HA.out o).cell (p := ⟨cb, co + p, none⟩) (cell_lt d9)).trans d9
    go_region_law (go_simp; go_at_call 30; ((with_reducible refine (HDec.out _).mono ?_); rintro e w3 ⟨rfl, hk⟩); first | (have hb := (ins_ahead hk).1; have HK3 := Lib.hid (ins_ahead hk).2; have i0 := hb.cell 0; have i1 := hb.cell 1; have i2 := hb.cell 2; have i3 := hb.cell 3; have i4 := hb.cell 4; have fi := BlkAt.free hb; have HI := Lib.hid hb; clear hb) | (have HK3 := Lib.hid (below_drew hk)); clear hk)
    all_goals (go_wp2_with fail; go_meet)
    all_goals first
      | with_reducible exact ⟨InsNew.behind _ _ _ _ _ HK3.out, rfl⟩
      | with_reducible exact ⟨InsNew.ahead _ _ _ _ _ HI.out HK3.out, rfl⟩
  case rest =>
    obtain ⟨⟨B, rfl, hB, hBW, hk⟩, rfl⟩ := hcut
    have HB0 := Lib.hid hB
    have HK := Lib.hid (show Below w.heap.size w wc from HB.out.trans (hk.mono HB.out.size))
    have HR2 := Lib.hid (HR1.out.keep hk)
    have HBN := Lib.hid (show ¬ F B from fun f => by have h1 := (HR1.out.fF B f).2; omega)
    have i0 := hB.cell 0
    have i1 := hB.cell 1
    have i2 := hB.cell 2
    have i3 := hB.cell 3
    have i4 := hB.cell 4
    obtain ⟨hd, ha, hq⟩ := HD.out
    have hd' : (d : Int) < 32 := by omega
    have ha' : (a : Int) < 32 := by omega
    have hq' : (q : Int) < 32 := by omega
    have f35 := HR2.out.free 35
    have k35 := HR2.out.cpc.2.2.2.1
    obtain ⟨x, hx⟩ : ∃ x, s.reg a = x := ⟨_, rfl⟩
    obtain ⟨y, hy⟩ : ∃ y, s.reg q = y := ⟨_, rfl⟩
    have ra := HR2.out.creg ha
    have rq := HR2.out.creg hq
    rw [hx] at ra
    rw [hy] at rq
    have HX := Lib.hid hx
    have HY := Lib.hid hy
    have HXW := Lib.hid (show w32 x from hx ▸ HG.out.reg a)
    have HYW := Lib.hid (show w32 y from hy ▸ HG.out.reg q)
    clear hB hBW hk hx hy
    by_cases hz : z = 0
    case neg =>
      have ez : (z != 0) = true := by simpa using hz
      have HE := Lib.hid (HT.out ▸ if_neg hz : t = s.stop 3)
      clear hz
      go_wp2
      refine bodyPost_ret (results_none rfl _ _ _) rfl ?_
      rw [HE.out]
      exact ⟨rfl, F, (HR2.out.to_st 3).at, (Grows.of_below F HK.out).trans (Grows.set HR.out.fb _ _ _)⟩
    case pos =>
      have ez : (z != 0) = false := by simpa using hz
      obtain ⟨⟨o1, o2⟩, n0, n1⟩ := HOK.out hz
      have HE := Lib.hid (HT.out.symm.trans (if_pos hz) : t = exeS s o d a q n)
      clear hz HT HOK HDec
      go_wp2
      go_quiet (fail)
      generalize hW5 : World.drewN wc _ = W5
      have HB5 := Lib.hid (show Below wc.heap.size wc W5 from hW5 ▸ below_drewN (Below.refl _ _) _)
      clear hW5
      have HR5 := Lib.hid (HR2.out.keep HB5.out)
      have HG5 := Lib.hid (Grows.of_below F (HK.out.trans (HB5.out.mono HK.out.size)))
      have l34 := HR5.out.cpc.2.2.1
      rw [HP.out] at l34
      have l35 := HR5.out.cpc.2.2.2.1
      have g35 := HR5.out.free 35
      have j0 := (HB5.out.cell (p := ⟨B, 0, none⟩) (cell_lt i0)).trans i0
      have j1 := (HB5.out.cell (p := ⟨B, 1, none⟩) (cell_lt i1)).trans i1
      have j2 := (HB5.out.cell (p := ⟨B, 2, none⟩) (cell_lt i2)).trans i2
      have j3 := (HB5.out.cell (p := ⟨B, 3, none⟩) (cell_lt i3)).trans i3
      have j4 := (HB5.out.cell (p := ⟨B, 4, none⟩) (cell_lt i4)).trans i4
      have HA5 := Lib.hid HR5.out.at
      clear i0 i1 i2 i3 i4 d0 d34 d9 c0 c34 c35 c9 f35 k35 ra rq
      have HPB := Lib.hid (show (0 : Int) ≤ s.pc ∧ s.pc < 1048576 by rw [HP.out]; have := HP20.out; omega)
      have HM1 := Lib.hid (show s.mks.length < 1048575 from hm)
      rcases (show o ≤ 30 ∨ o = 31 ∨ o = 32 ∨ o = 33 ∨ o = 34 ∨ o = 35 ∨ o = 36 ∨ o = 37 ∨ o = 38 ∨ o = 39 ∨ o = 40 ∨ o = 41 ∨ o = 42 ∨ o = 43 by omega) with h30 | rfl | rfl | rfl | rfl | rfl | rfl | rfl | rfl | rfl | rfl | rfl | rfl | rfl
      · obtain ⟨r, hr⟩ : ∃ r, wDo o x y = r := ⟨_, rfl⟩
        obtain ⟨k, hk⟩ : ∃ k, wDoes o y = k := ⟨_, rfl⟩
        obtain ⟨cst, hc⟩ : ∃ c, wCostA o x = c := ⟨_, rfl⟩
        have HDo := Lib.hid (fun w => refDo_v (w := w) HXW.out HYW.out hr hk)
        have HCo := Lib.hid (fun w => refCost_v (w := w) ⟨o1, h30⟩ HXW.out hc)
        have HS := Lib.hid (show t = if k = true then (s.put d r).mark (s.pc + 1) (-1) cst else s.stop 5 by rw [HE.out, exe_lo h30, HX.out, HY.out, hk, hr, hc])
        have e31 : (o == 31) = false := by simpa using (show o ≠ 31 by omega)
        have e32 : (o == 32) = false := by simpa using (show o ≠ 32 by omega)
        have e33 : (o == 33) = false := by simpa using (show o ≠ 33 by omega)
        have e34 : (o == 34) = false := by simpa using (show o ≠ 34 by omega)
        have e35 : (o == 35) = false := by simpa using (show o ≠ 35 by omega)
        have e36 : (o == 36) = false := by simpa using (show o ≠ 36 by omega)
        have e37 : (o == 37) = false := by simpa using (show o ≠ 37 by omega)
        have e38 : (o == 38) = false := by simpa using (show o ≠ 38 by omega)
        have e39 : (o == 39) = false := by simpa using (show o ≠ 39 by omega)
        have e40 : (o == 40) = false := by simpa using (show o ≠ 40 by omega)
        have e41 : (o == 41) = false := by simpa using (show o ≠ 41 by omega)
        have e42 : (o == 42) = false := by simpa using (show o ≠ 42 by omega)
        have e43 : (o == 43) = false := by simpa using (show o ≠ 43 by omega)
        clear hr hk hc o2
        cases k with
        | false =>
          have HS2 := Lib.hid (show t = s.stop 5 from HS.out.trans (if_neg (by decide)))
          clear HS
          go_wp2_with (go_at_call 34; ((with_reducible refine (HDo.out _).mono ?_); rintro e w6 ⟨rfl, hk⟩); have HK6 := Lib.hid hk; have HR6 := Lib.hid (HR5.out.keep hk); have k35 := (hk.cell (p := ⟨b, 35, none⟩) (cell_lt l35)).trans l35; have f35 := (HR5.out.keep hk).free 35; clear hk)
          refine bodyPost_ret (results_none rfl _ _ _) rfl ?_
          rw [HS2.out]
          exact ⟨rfl, F, (HR6.out.to_st 5).at, (HG5.out.trans (Grows.of_below F HK6.out)).trans (Grows.set HR.out.fb _ _ _)⟩
        | true =>
          have HS2 := Lib.hid (show t = (s.put d r).mark (s.pc + 1) (-1) cst from HS.out.trans (if_pos rfl))
          clear HS
          have HM7 := Lib.hid (show (s.put d r).mks.length < 1048576 from HM.out)
          go_wp2_with (first
            | (go_at_call 34; ((with_reducible refine (HDo.out _).mono ?_); rintro e w6 ⟨rfl, hk⟩); have HK6 := Lib.hid hk; have HR6 := Lib.hid (HA5.out.keep hk); have k1 := (hk.cell (p := ⟨B, 1, none⟩) (cell_lt j1)).trans j1; have k0 := (hk.cell (p := ⟨B, 0, none⟩) (cell_lt j0)).trans j0; clear hk)
            | (go_at_call 31; ((with_reducible refine (refSet_at d r HR6.out HD.out.1).mono ?_); rintro e w7 ⟨rfl, hr1, hg1⟩); have HR7 := Lib.hid hr1; have HG7 := Lib.hid hg1; have d34 := show _ = some (Value.int .i64 (p : Int)) from HP.out ▸ hr1.cells.1; have d0 := hg1.keeps.cell HBN.out k0; clear hr1 hg1))
          have ew : IntKind.i64.wrap ((p : Int) + 1) = (p : Int) + 1 := by simp [IntKind.wrap, IntKind.bits, IntKind.signed]; omega
          go_region_law (first
            | (go_simp; go_at_call 37; ((with_reducible refine (HCo.out _).mono ?_); rintro e w9 ⟨rfl, hk⟩); have HK9 := Lib.hid (below_drew hk); have HR9 := Lib.hid (HR7.out.keep (below_drew hk)); have m34 := ((below_drew hk).cell (p := ⟨b, 34, none⟩) (cell_lt d34)).trans d34; clear hk)
            | (go_simp; go_at_call 33; ((with_reducible refine (refMark_is ((p : Int) + 1) (-1) cst HR9.out HM7.out).mono ?_); rintro e w8 ⟨rfl, ht⟩); have HF := Lib.hid ht; clear ht))
          all_goals go_wp2
          all_goals go_end0
          all_goals rw [HS2.out, HP.out]
          all_goals exact ⟨rfl, HF.out.after ((((HG5.out.trans (Grows.of_below F HK6.out)).trans HG7.out)).trans (Grows.of_below F HK9.out))⟩
      · have HX2 := Lib.hid (show s.reg a = x from HX.out)
        have HL := Lib.hid (show wrap32 (x + n) = wrap32 (x + n) from rfl)
        have HS := Lib.hid (show t = (s.put d (wrap32 (x + n))).mark (s.pc + 1) (-1) 1 by rw [HE.out, exe_31, HX.out])
        obtain ⟨r, hr⟩ : ∃ r, wrap32 (x + n) = r := ⟨_, rfl⟩
        have HRR := Lib.hid hr
        have HM7 := Lib.hid (show (s.put d r).mks.length < 1048576 from HM.out)
        clear hr
        obtain ⟨x0, x1⟩ := HXW.out
        have ew1 : IntKind.i64.wrap x = x := by simp [IntKind.wrap, IntKind.bits, IntKind.signed]; omega
        have ew2 : IntKind.i64.wrap (x + n) = x + n := by simp [IntKind.wrap, IntKind.bits, IntKind.signed]; omega
        go_wp2_with fail
        go_region_law (first
          | (go_simp; go_at_call 32; ((with_reducible refine (refLow_is _ r _ HRR.out).mono ?_); rintro e w6 ⟨rfl, rfl⟩))
          | (go_simp; go_at_call 31; ((with_reducible refine (refSet_at d r (HA5.out.keep (Below.refl _ _).drew) HD.out.1).mono ?_); rintro e w7 ⟨rfl, hr1, hg1⟩); have HR7 := Lib.hid hr1; have HG7 := Lib.hid hg1; have d34 := show _ = some (Value.int .i64 (p : Int)) from HP.out ▸ hr1.cells.1; clear hr1 hg1))
        all_goals go_wp2_with (go_at_call 33; ((with_reducible refine (refMark_is ((p : Int) + 1) (-1) 1 HR7.out HM7.out).mono ?_); rintro e w8 ⟨rfl, ht⟩); have HF := Lib.hid ht; clear ht)
        all_goals go_end0
        all_goals rw [HS.out, HRR.out, HP.out]
        all_goals exact ⟨rfl, HF.out.after ((HG5.out.trans (Grows.of_below F ((Below.refl _ _).drew))).trans HG7.out)⟩
      · have HS := Lib.hid (show t = (s.put d (wOr x n)).mark (s.pc + 1) (-1) 1 by rw [HE.out, exe_32, HX.out])
        obtain ⟨r, hr⟩ : ∃ r, wOr x n = r := ⟨_, rfl⟩
        have HDo := Lib.hid (fun w => refDo_v (op := 6) (t := true) (w := w) HXW.out (show w32 n by unfold w32; omega) (show wDo 6 x n = r from (wDo_two (wDoes_in (by omega) (by omega) (by omega) (by omega)) (by omega)).trans hr) (wDoes_in (by omega) (by omega) (by omega) (by omega)))
        have HRR := Lib.hid hr
        have HM7 := Lib.hid (show (s.put d r).mks.length < 1048576 from HM.out)
        clear hr
        go_wp2_with (first
          | (go_at_call 34; ((with_reducible refine (HDo.out _).mono ?_); rintro e w6 ⟨rfl, hk⟩); have HK6 := Lib.hid hk; have HR6 := Lib.hid (HA5.out.keep hk); have k1 := (hk.cell (p := ⟨B, 1, none⟩) (cell_lt j1)).trans j1; clear hk)
          | (go_at_call 31; ((with_reducible refine (refSet_at d r HR6.out HD.out.1).mono ?_); rintro e w7 ⟨rfl, hr1, hg1⟩); have HR7 := Lib.hid hr1; have HG7 := Lib.hid hg1; have d34 := show _ = some (Value.int .i64 (p : Int)) from HP.out ▸ hr1.cells.1; clear hr1 hg1)
          | (go_at_call 33; ((with_reducible refine (refMark_is ((p : Int) + 1) (-1) 1 HR7.out HM7.out).mono ?_); rintro e w8 ⟨rfl, ht⟩); have HF := Lib.hid ht; clear ht))
        go_end0
        rw [HS.out, HRR.out, HP.out]
        exact ⟨rfl, HF.out.after ((HG5.out.trans (Grows.of_below F HK6.out)).trans HG7.out)⟩
      · have HX2 := Lib.hid (show s.reg a = x from HX.out)
        have HL := Lib.hid (show wrap32 (n * 65536) = wrap32 (n * 65536) from rfl)
        have HS := Lib.hid (show t = (s.put d (wrap32 (n * 65536))).mark (s.pc + 1) (-1) 1 by rw [HE.out, exe_33])
        obtain ⟨r, hr⟩ : ∃ r, wrap32 (n * 65536) = r := ⟨_, rfl⟩
        have HRR := Lib.hid hr
        have HM7 := Lib.hid (show (s.put d r).mks.length < 1048576 from HM.out)
        clear hr
        have ew2 : IntKind.i64.wrap (n * 65536) = n * 65536 := by simp [IntKind.wrap, IntKind.bits, IntKind.signed]; omega
        go_wp2_with fail
        go_region_law (first
          | (go_simp; go_at_call 32; ((with_reducible refine (refLow_is _ r _ HRR.out).mono ?_); rintro e w6 ⟨rfl, rfl⟩))
          | (go_simp; go_at_call 31; ((with_reducible refine (refSet_at d r (HA5.out.keep (Below.refl _ _).drew) HD.out.1).mono ?_); rintro e w7 ⟨rfl, hr1, hg1⟩); have HR7 := Lib.hid hr1; have HG7 := Lib.hid hg1; have d34 := show _ = some (Value.int .i64 (p : Int)) from HP.out ▸ hr1.cells.1; clear hr1 hg1))
        all_goals go_wp2_with (go_at_call 33; ((with_reducible refine (refMark_is ((p : Int) + 1) (-1) 1 HR7.out HM7.out).mono ?_); rintro e w8 ⟨rfl, ht⟩); have HF := Lib.hid ht; clear ht)
        all_goals go_end0
        all_goals rw [HS.out, HRR.out, HP.out]
        all_goals exact ⟨rfl, HF.out.after ((HG5.out.trans (Grows.of_below F ((Below.refl _ _).drew))).trans HG7.out)⟩
      · go_wp2_with (go_at_call 35; ((with_reducible refine (refMemory_is 34 d a q n HA5.out HM1.out (by decide) HD.out.1 HD.out.2.1 (HG.out.reg a) n0 n1 HRL.out HPB.out.1 HPB.out.2).mono ?_); rintro e w8 ⟨rfl, ht⟩); have HF := Lib.hid ht; clear ht)
        go_end0
        rw [HE.out]
        exact ⟨rfl, HF.out.after HG5.out⟩
      · go_wp2_with (go_at_call 35; ((with_reducible refine (refMemory_is 35 d a q n HA5.out HM1.out (by decide) HD.out.1 HD.out.2.1 (HG.out.reg a) n0 n1 HRL.out HPB.out.1 HPB.out.2).mono ?_); rintro e w8 ⟨rfl, ht⟩); have HF := Lib.hid ht; clear ht)
        go_end0
        rw [HE.out]
        exact ⟨rfl, HF.out.after HG5.out⟩
      · go_wp2_with (go_at_call 36; ((with_reducible refine (refGoes_is 36 d a q n HA5.out HM1.out (by decide) HD.out.1 HD.out.2.1 (HG.out.reg a) HPB.out.1 HPB.out.2).mono ?_); rintro e w8 ⟨rfl, ht⟩); have HF := Lib.hid ht; clear ht)
        go_end0
        rw [HE.out]
        exact ⟨rfl, HF.out.after HG5.out⟩
      · go_wp2_with (go_at_call 36; ((with_reducible refine (refGoes_is 37 d a q n HA5.out HM1.out (by decide) HD.out.1 HD.out.2.1 (HG.out.reg a) HPB.out.1 HPB.out.2).mono ?_); rintro e w8 ⟨rfl, ht⟩); have HF := Lib.hid ht; clear ht)
        go_end0
        rw [HE.out]
        exact ⟨rfl, HF.out.after HG5.out⟩
      · go_wp2_with (go_at_call 36; ((with_reducible refine (refGoes_is 38 d a q n HA5.out HM1.out (by decide) HD.out.1 HD.out.2.1 (HG.out.reg a) HPB.out.1 HPB.out.2).mono ?_); rintro e w8 ⟨rfl, ht⟩); have HF := Lib.hid ht; clear ht)
        go_end0
        rw [HE.out]
        exact ⟨rfl, HF.out.after HG5.out⟩
      · go_wp2_with (go_at_call 36; ((with_reducible refine (refGoes_is 39 d a q n HA5.out HM1.out (by decide) HD.out.1 HD.out.2.1 (HG.out.reg a) HPB.out.1 HPB.out.2).mono ?_); rintro e w8 ⟨rfl, ht⟩); have HF := Lib.hid ht; clear ht)
        go_end0
        rw [HE.out]
        exact ⟨rfl, HF.out.after HG5.out⟩
      · go_wp2_with (go_at_call 36; ((with_reducible refine (refGoes_is 40 d a q n HA5.out HM1.out (by decide) HD.out.1 HD.out.2.1 (HG.out.reg a) HPB.out.1 HPB.out.2).mono ?_); rintro e w8 ⟨rfl, ht⟩); have HF := Lib.hid ht; clear ht)
        go_end0
        rw [HE.out]
        exact ⟨rfl, HF.out.after HG5.out⟩
      · go_wp2_with (go_at_call 36; ((with_reducible refine (refGoes_is 41 d a q n HA5.out HM1.out (by decide) HD.out.1 HD.out.2.1 (HG.out.reg a) HPB.out.1 HPB.out.2).mono ?_); rintro e w8 ⟨rfl, ht⟩); have HF := Lib.hid ht; clear ht)
        go_end0
        rw [HE.out]
        exact ⟨rfl, HF.out.after HG5.out⟩
      · go_wp2_with (go_at_call 33; ((with_reducible refine (refMark_is ((p : Int) + 1) (-1) 1 HA5.out HM.out).mono ?_); rintro e w8 ⟨rfl, ht⟩); have HF := Lib.hid ht; clear ht)
        go_end0
        rw [HE.out, exe_42, HP.out]
        exact ⟨rfl, HF.out.after HG5.out⟩
      · go_wp2_with (go_at_call 33; ((with_reducible refine (refMark_is (p : Int) (-1) 1 HA5.out HM.out).mono ?_); rintro e w8 ⟨rfl, ht⟩); obtain ⟨F8, h8, g8⟩ := ht; have HF := Lib.hid h8; have HG8 := Lib.hid g8; have k35 := h8.cells.2.1; have f35 := h8.cells.2.2.2.1 35; clear h8 g8)
        go_end0
        rw [HE.out, exe_43, HP.out]
        exact ⟨rfl, _, HF.out.to_st 1, (HG5.out.trans HG8.out).trans (Grows.set HF.out.fb _ _ _)⟩
theorem cG_bd (v : Int) {k : Nat} (hk : k < 3) : 0 ≤ cG v k ∧ cG v k ≤ 31 := by
  by_cases h : cErr v = 0
  · obtain ⟨-, h0, h1, h2, -⟩ := dec_bd h
    rcases (show k = 0 ∨ k = 1 ∨ k = 2 by omega) with rfl | rfl | rfl
    · exact h0
    · exact h1
    · exact h2
  · unfold cG; rw [if_neg h]; decide
theorem refStep_is {w : World} {base b R : Nat} {F : Nat → Prop} {code : List Int} {s : Cst} (h : RefAt w base b F code s) (hg : Good code.length R s) (hN : code.length < 1048576) (hR : R ≤ 1048576) (hm : s.mks.length < 1048575) (hc : ∀ i, i < code.length → 0 ≤ byAt code i ∧ byAt code i < 4294967296) :
    Calls Tryz.prog 11 #[.pointer (some ⟨b, 0, none⟩)] w fun e w' => e = .returned (.tuple #[]) ∧ RefTo w base b F code (stepS code s) w' := by
  by_cases hp : 0 ≤ s.pc ∧ s.pc < code.length
  · obtain ⟨p, hpp⟩ : ∃ p : Nat, s.pc = p := ⟨s.pc.toNat, by omega⟩
    have hpn : p < code.length := by omega
    have e0 := cG_bd (byAt code p) (k := 0) (by omega)
    have e1 := cG_bd (byAt code p) (k := 1) (by omega)
    have e2 := cG_bd (byAt code p) (k := 2) (by omega)
    have := refStep_at (d := (cG (byAt code p) 0).toNat) (a := (cG (byAt code p) 1).toNat) (q := (cG (byAt code p) 2).toNat) h hg hN hR hm hpp hpn rfl (hc p hpn) rfl rfl (by omega) (by omega) (by omega) rfl (fun h0 => ⟨(dec_bd h0).1, (dec_bd h0).2.2.2.2.1⟩) (by omega) (by omega) (by omega)
    unfold stepS
    rw [if_pos hp, hpp]
    exact this
  · rw [step_no hp]
    exact refStep_no h hg hp
end Go.Proofs.YtcoicgkpikoibaaGreatDoor
