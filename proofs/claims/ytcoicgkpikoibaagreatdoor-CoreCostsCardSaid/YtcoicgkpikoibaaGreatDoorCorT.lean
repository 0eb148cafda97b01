/- What the document says of layer 16: memory (lw and sw). Conditions: fewer marks than a million; words are words. -/
import Derived.Test.YtcoicgkpikoibaaGreatDoorCorS
import Derived.Test.YtcoicgkpikoibaaGreatDoorRefs
namespace Go.Proofs.YtcoicgkpikoibaaGreatDoor
open Go.RowKit Go.IntWalk

theorem RefW.at {w : World} {base b : Nat} {F : Nat → Prop} {ca : Option Addr} {cn cc : Nat} {ra : Option Addr} {rn rc : Nat} {mv : Value} {code : List Int} {s : Cst} (h : RefW w base b F ca cn cc ra rn rc mv code s) : RefAt w base b F code s := ⟨_, _, _, _, _, _, _, h⟩
/-- Its memory, behind a word put there. -/
theorem refStore_in {w : World} {base b : Nat} {F : Nat → Prop} {ca : Option Addr} {cn cc : Nat} {ra : Option Addr} {rn rc : Nat} {mv : Value} {code : List Int} {s : Cst} {x : Int} (z : Int) {k : Bool} (h : RefW w base b F ca cn cc ra rn rc mv code s) (hn : 0 < rn) (hr : rn ≤ 1048576) (hx : -2147483648 ≤ x ∧ x ≤ 2147483647) (hk : ldB s.ram x = k) :
    Calls Tryz.prog 53 #[.slice ra rn rc, .int .i32 x, .int .i32 z] w fun e w' => ∃ a' c', e = .returned (.tuple #[.slice a' rn c', .bool k]) ∧ RefW w' base b F ca cn cc ra rn rc mv code s ∧ RefTo w base b F code (s.hold (stL s.ram x z)) (w'.setCell ⟨b, 1, none⟩ (.slice a' rn c')) := by
  subst hk
  refine (refStore_is ra rn rc s.ram x z w h.ram hx hr).mono ?_
  rintro e w' ⟨a', c', rfl, hw, hb, hf⟩
  obtain ⟨h1, h2⟩ := h.to_ram hb hw hn hn hf
  exact ⟨a', c', rfl, h.keep hb, _, ⟨_, _, _, _, _, _, _, h1⟩, h2⟩
set_option maxRecDepth 100000 in
set_option maxHeartbeats 4000000 in
theorem refMemory_is {w : World} {base b : Nat} {F : Nat → Prop} {code : List Int} {s : Cst} (o : Int) (d a q : Nat) (n : Int) (h : RefAt w base b F code s) (hm : s.mks.length < 1048575) (ho : o = 34 ∨ o = 35) (hd : d < 32) (ha : a < 32) (hw : w32 (s.reg a)) (n0 : -32768 ≤ n) (n1 : n ≤ 65535) (hlr : s.ram.length ≤ 1048576) (p0 : 0 ≤ s.pc) (p1 : s.pc < 1048576) :
    Calls Tryz.prog 35 #[.pointer (some ⟨b, 0, none⟩), .agg #[.int .i64 o, .int .i64 (d : Int), .int .i64 (a : Int), .int .i64 (q : Int), .int .i64 n]] w fun e w' => e = .returned (.tuple #[]) ∧ RefTo w base b F code (exeS s o d a q n) w' := by
  obtain ⟨ka, kn, kc, ra, rn, rc, mv, h⟩ := h
  have HB := Lib.hid ((Below.refl w.heap.size w).alloc (Nat.le_refl _) (.cells #[.int .i64 o, .int .i64 (d : Int), .int .i64 (a : Int), .int .i64 (q : Int), .int .i64 n] 66))
  have HN := Lib.hid (show ¬ F w.heap.size from fun f => Nat.lt_irrefl _ (h.fF _ f).2)
  have HR := Lib.hid (h.keep HB.out)
  have HG := Lib.hid (Grows.of_below F HB.out)
  obtain ⟨i0, i1, i2, -, i4⟩ := ins_new w o d a q n
  obtain ⟨-, c1, c34, c35, -⟩ := HR.out.cpc
  have cd := HR.out.creg hd
  have ca := HR.out.creg ha
  have f35 := HR.out.free 35
  have f1 := HR.out.free 1
  have hd' : (d : Int) < 32 := by omega
  have ha' : (a : Int) < 32 := by omega
  have hE : (ldB s.ram (adrS s a n) = false → exeS s o d a q n = s.stop 4) := fun e => by
    rcases ho with rfl | rfl
    · rw [exe_34, if_neg (by rw [e]; decide)]
    · rw [exe_35, if_neg (by rw [e]; decide)]
  have hx0 : -2147483648 ≤ adrS s a n ∧ adrS s a n ≤ 2147483647 := by unfold adrS wrap32; omega
  have hxw : wrap32 (s.reg a + n) = adrS s a n := rfl
  obtain ⟨y, hy⟩ : ∃ y, s.reg a = y := ⟨_, rfl⟩
  obtain ⟨y0, y1⟩ := hw
  rw [hy] at ca y0 y1 hxw
  obtain ⟨z, hz⟩ : ∃ z, s.reg d = z := ⟨_, rfl⟩
  rw [hz] at cd
  have HX := Lib.hid hxw
  have HZ := Lib.hid hz
  have HM := Lib.hid (show s.mks.length < 1048576 by omega)
  have HXB := Lib.hid hx0
  have HRN := Lib.hid (show rn ≤ 1048576 by have := h.ram.len; omega)
  clear h hy hz hxw
  cases hk : ldB s.ram (adrS s a n) with
  | false =>
    rw [hE hk]
    have HK := Lib.hid hk
    obtain ⟨u, hu⟩ : ∃ u, ldV s.ram (adrS s a n) = u := ⟨_, rfl⟩
    have HU := Lib.hid hu
    obtain ⟨x, hx⟩ : ∃ x, adrS s a n = x := ⟨_, rfl⟩
    rw [hx] at HK HU HX HXB
    clear hE hk hx hu hx0 cd
    go_enter Tryz.func35, Tryz.ntmps35
    go_wp2
    generalize hW : w.alloc _ = W at *
    go_quiet ((go_at_call 32; exact quiet_here (refLow_is _ x _ HX.out)))
    go_wp2_with (go_at_call 52; ((with_reducible refine (refLoad_at ((HR.out.ram).keep (below_drewN (Below.refl _ _) _)) HXB.out HU.out HK.out).mono ?_); rintro e w1 ⟨rfl, rfl⟩))
    refine bodyPost_ret (results_none rfl _ _ _) rfl ?_
    exact ⟨rfl, (show RefTo W base b F code (s.stop 4) _ from ⟨F, ⟨_, _, _, _, _, _, _, (HR.out.keep (below_drewN (Below.refl _ _) _)).to_st 4⟩, (Grows.of_below F (below_drewN (Below.refl _ _) _)).trans (Grows.set HR.out.fb _ _ _)⟩).after HG.out⟩
  | true =>
    have HK := Lib.hid hk
    obtain ⟨u, hu⟩ : ∃ u, ldV s.ram (adrS s a n) = u := ⟨_, rfl⟩
    have HU := Lib.hid hu
    obtain ⟨x, hx⟩ : ∃ x, adrS s a n = x := ⟨_, rfl⟩
    have HA := Lib.hid hx
    rw [hx] at HK HU HX HXB
    obtain ⟨x0, x1⟩ := HXB.out
    clear hE hx hx0
    rcases ho with rfl | rfl
    · rw [exe_34, if_pos hk, hu, HA.out]
      have HM2 := Lib.hid (show (s.put d u).mks.length < 1048576 from HM.out)
      clear hk hu cd
      by_cases hb : 1024 ≤ x
      · rw [show bankS x = 3 by unfold bankS; rw [if_pos hb]]
        go_enter Tryz.func35, Tryz.ntmps35
        go_wp2
        generalize hW : w.alloc _ = W at *
        go_quiet ((go_at_call 32; exact quiet_here (refLow_is _ x _ HX.out)))
        go_wp2_with (first
          | (go_at_call 52; ((with_reducible refine (refLoad_at ((HR.out.ram).keep (below_drewN (Below.refl _ _) _)) HXB.out HU.out HK.out).mono ?_); rintro e w1 ⟨rfl, rfl⟩))
          | (go_at_call 31; ((with_reducible refine (refSet_at d u (w := World.drewN W _) (HR.out.keep (below_drewN (Below.refl _ _) _)).at hd).mono ?_); rintro e w1 ⟨rfl, hr1, hg1⟩); have HR1 := Lib.hid hr1; have HG1 := Lib.hid ((Grows.of_below F (below_drewN (Below.refl _ _) _)).trans hg1); have d34 := show _ = some (Value.int .i64 s.pc) from hr1.cells.1; clear hr1 hg1)
          | (go_at_call 33; ((with_reducible refine (refMark_is (s.pc + 1) x 3 HR1.out HM2.out).mono ?_); rintro e w2 ⟨rfl, ht⟩); have HT := Lib.hid ht; clear ht))
        go_end0
        exact ⟨rfl, HT.out.after (HG.out.trans HG1.out)⟩
      · rw [show bankS x = 2 by unfold bankS; rw [if_neg hb]]
        have hb' : x < 1024 := by omega
        clear hb
        go_enter Tryz.func35, Tryz.ntmps35
        go_wp2
        generalize hW : w.alloc _ = W at *
        go_quiet ((go_at_call 32; exact quiet_here (refLow_is _ x _ HX.out)))
        go_wp2_with (first
          | (go_at_call 52; ((with_reducible refine (refLoad_at ((HR.out.ram).keep (below_drewN (Below.refl _ _) _)) HXB.out HU.out HK.out).mono ?_); rintro e w1 ⟨rfl, rfl⟩))
          | (go_at_call 31; ((with_reducible refine (refSet_at d u (w := World.drewN W _) (HR.out.keep (below_drewN (Below.refl _ _) _)).at hd).mono ?_); rintro e w1 ⟨rfl, hr1, hg1⟩); have HR1 := Lib.hid hr1; have HG1 := Lib.hid ((Grows.of_below F (below_drewN (Below.refl _ _) _)).trans hg1); have d34 := show _ = some (Value.int .i64 s.pc) from hr1.cells.1; clear hr1 hg1)
          | (go_at_call 33; ((with_reducible refine (refMark_is (s.pc + 1) x 2 HR1.out HM2.out).mono ?_); rintro e w2 ⟨rfl, ht⟩); have HT := Lib.hid ht; clear ht))
        go_end0
        exact ⟨rfl, HT.out.after (HG.out.trans HG1.out)⟩
    · rw [exe_35, if_pos hk, HZ.out, HA.out]
      have HM2 := Lib.hid (show (s.hold (stL s.ram x z)).mks.length < 1048576 from HM.out)
      have HRP := Lib.hid (show 0 < rn by have h1 := ldB_bd HK.out; have h2 := HR.out.ram.len; omega)
      clear hk hu
      by_cases hb : 1024 ≤ x
      · rw [show bankS x = 3 by unfold bankS; rw [if_pos hb]]
        go_enter Tryz.func35, Tryz.ntmps35
        go_wp2
        generalize hW : w.alloc _ = W at *
        go_quiet ((go_at_call 32; exact quiet_here (refLow_is _ x _ HX.out)))
        go_wp2_with (go_at_call 52; ((with_reducible refine (refLoad_at ((HR.out.ram).keep (below_drewN (Below.refl _ _) _)) HXB.out HU.out HK.out).mono ?_); rintro e w1 ⟨rfl, rfl⟩))
        generalize hW2 : World.drewN W _ = W2
        have HB2 := Lib.hid (show Below W.heap.size W W2 from hW2 ▸ below_drewN (Below.refl _ _) _)
        have HR2 := Lib.hid (HR.out.keep HB2.out)
        have d1 := HR2.out.cpc.2.1
        have dd := HR2.out.creg hd
        rw [HZ.out] at dd
        have j1 := (HB2.out.cell (p := ⟨w.heap.size, 1, none⟩) (cell_lt i1)).trans i1
        clear hW2
        go_region_law (go_simp; go_at_call 53; ((with_reducible refine (refStore_in z (HR2.out.keep (Below.refl _ _).drew) HRP.out HRN.out HXB.out HK.out).mono ?_); rintro e w3 ⟨a2, c2, rfl, hr3, hs3⟩); have HS3 := Lib.hid hs3; have d3 := hr3.cpc.2.1; have f3 := hr3.free 1; have HR3 := Lib.hid hr3; clear hr3 hs3)
        all_goals obtain ⟨F3, h3, g3⟩ := HS3.out
        all_goals have HR4 := Lib.hid h3
        all_goals have HG4 := Lib.hid g3
        all_goals have d34 := show _ = some (Value.int .i64 s.pc) from h3.cells.1
        all_goals clear h3 g3
        all_goals go_wp2_with (go_at_call 33; ((with_reducible refine (refMark_is (s.pc + 1) x 3 HR4.out HM2.out).mono ?_); rintro e w2 ⟨rfl, ht⟩); have HT := Lib.hid ht; clear ht)
        all_goals go_end0
        all_goals exact ⟨rfl, HT.out.after (HG.out.trans ((Grows.of_below F (HB2.out.drew)).trans HG4.out))⟩
      · rw [show bankS x = 2 by unfold bankS; rw [if_neg hb]]
        have hb' : x < 1024 := by omega
        clear hb
        go_enter Tryz.func35, Tryz.ntmps35
        go_wp2
        generalize hW : w.alloc _ = W at *
        go_quiet ((go_at_call 32; exact quiet_here (refLow_is _ x _ HX.out)))
        go_wp2_with (go_at_call 52; ((with_reducible refine (refLoad_at ((HR.out.ram).keep (below_drewN (Below.refl _ _) _)) HXB.out HU.out HK.out).mono ?_); rintro e w1 ⟨rfl, rfl⟩))
        generalize hW2 : World.drewN W _ = W2
        have HB2 := Lib.hid (show Below W.heap.size W W2 from hW2 ▸ below_drewN (Below.refl _ _) _)
        have HR2 := Lib.hid (HR.out.keep HB2.out)
        have d1 := HR2.out.cpc.2.1
        have dd := HR2.out.creg hd
        rw [HZ.out] at dd
        have j1 := (HB2.out.cell (p := ⟨w.heap.size, 1, none⟩) (cell_lt i1)).trans i1
        clear hW2
        go_region_law (go_simp; go_at_call 53; ((with_reducible refine (refStore_in z (HR2.out.keep (Below.refl _ _).drew) HRP.out HRN.out HXB.out HK.out).mono ?_); rintro e w3 ⟨a2, c2, rfl, hr3, hs3⟩); have HS3 := Lib.hid hs3; have d3 := hr3.cpc.2.1; have f3 := hr3.free 1; have HR3 := Lib.hid hr3; clear hr3 hs3)
        all_goals obtain ⟨F3, h3, g3⟩ := HS3.out
        all_goals have HR4 := Lib.hid h3
        all_goals have HG4 := Lib.hid g3
        all_goals have d34 := show _ = some (Value.int .i64 s.pc) from h3.cells.1
        all_goals clear h3 g3
        all_goals go_wp2_with (go_at_call 33; ((with_reducible refine (refMark_is (s.pc + 1) x 2 HR4.out HM2.out).mono ?_); rintro e w2 ⟨rfl, ht⟩); have HT := Lib.hid ht; clear ht)
        all_goals go_end0
        all_goals exact ⟨rfl, HT.out.after (HG.out.trans ((Grows.of_below F (HB2.out.drew)).trans HG4.out))⟩
end Go.Proofs.YtcoicgkpikoibaaGreatDoor
