/- The program's core: fetch, step. Conditions: fewer marks than a million; words are words. -/
import Derived.Test.YtcoicgkpikoibaaGreatDoorCorE
namespace Go.Proofs.YtcoicgkpikoibaaGreatDoor
open Go.RowKit Go.IntWalk

abbrev insCells (o d a q n : Int) : Array Value := #[.int .i64 o, .int .i64 d, .int .i64 a, .int .i64 q, .int .i64 n]
theorem ins_wrote {g : Nat} {T : TypeId} {cs : Array Value} {W1 W9 : World} {o d a q n : Int} (h : BlkAt g T cs W1) (hW : (((((W1.setCell ⟨g, 0, none⟩ (.int .i64 o)).setCell ⟨g, 1, none⟩ (.int .i64 d)).setCell ⟨g, 2, none⟩ (.int .i64 a)).setCell ⟨g, 3, none⟩ (.int .i64 q)).setCell ⟨g, 4, none⟩ (.int .i64 n)) = W9) (hs : cs.size = 5 := by rfl) :
    BlkAt g T (insCells o d a q n) W9 ∧ Keeps (fun j => j = g) W1 W9 := by
  subst hW
  refine ⟨(((((h.set 0 (.int .i64 o)).set 1 (.int .i64 d)).set 2 (.int .i64 a)).set 3 (.int .i64 q)).set 4 (.int .i64 n)).eq ?_, ((((Keeps.set1 _ _ _ _).trans (Keeps.set1 _ _ _ _)).trans (Keeps.set1 _ _ _ _)).trans (Keeps.set1 _ _ _ _)).trans (Keeps.set1 _ _ _ _)⟩
  obtain ⟨l⟩ := cs
  match l, hs with
  | [c0, c1, c2, c3, c4], _ => rfl
section
variable {w : World} {base b rb : Nat} {F : Nat → Prop} {ca : Option Addr} {cn cc : Nat} {rv mv : Value} {cyc : Int} {code : List Int} {s : Cst}
set_option maxRecDepth 100000 in
set_option maxHeartbeats 8000000 in
theorem corFetch_no (h : CorW w base b rb F ca cn cc rv mv cyc code s) (hpw : w32 s.pc) (hp : ¬ (0 ≤ s.pc ∧ s.pc < code.length)) :
    Calls Tryz.prog 45 #[.pointer (some ⟨b, 0, none⟩)] w fun e w' => e = .returned (.tuple #[.agg (insCells 0 0 0 0 0), .int .i64 2]) ∧ Below w.heap.size w w' := by
  have HB := Lib.hid ((Below.refl w.heap.size w).alloc (Nat.le_refl _) (.cells (insCells 0 0 0 0 0) 66))
  have HR := Lib.hid (h.keep HB.out)
  obtain ⟨-, c1, c34, -⟩ := HR.out.cpc
  have hI := BlkAt.new w 66 (insCells 0 0 0 0 0)
  have HI := Lib.hid hI
  have hcn := h.code.len
  have hcap := h.code.cap
  have hbig := h.code.big
  unfold maxLen at hbig
  obtain ⟨pc, hpc⟩ : ∃ pc, s.pc = pc := ⟨_, rfl⟩
  rw [hpc] at c34 hpw hp
  rw [hcn] at hp
  obtain ⟨q0, q1⟩ := hpw
  clear h hcn hpc
  by_cases h0 : pc < 0
  · have e0 : decide (pc < 0) = true := by simpa using h0
    clear hp
    go_enter Tryz.func45, Tryz.ntmps45
    go_upto_region 1 with (fail)
    generalize hW : World.alloc w _ = W at *
    go_quiet (fail)
    generalize hW1 : World.drewN W _ = W1
    have hb1 : Below W.heap.size W W1 := hW1 ▸ below_drewN (Below.refl _ _) _
    have HB1 := Lib.hid hb1
    have HI1 := Lib.hid (HI.out.keep hb1)
    have r0 := HI1.out.cell 0
    have r1 := HI1.out.cell 1
    have r2 := HI1.out.cell 2
    have r3 := HI1.out.cell 3
    have r4 := HI1.out.cell 4
    have rf := BlkAt.free HI1.out
    clear hW1 hb1
    go_wp2
    generalize hW9 : World.setCell (World.setCell (World.setCell (World.setCell (World.setCell W1 _ _) _ _) _ _) _ _) _ _ = W9
    obtain ⟨h9, k9⟩ := ins_wrote HI1.out hW9
    have p0 := h9.cell 0
    have p1 := h9.cell 1
    have p2 := h9.cell 2
    have p3 := h9.cell 3
    have p4 := h9.cell 4
    clear hW9
    refine bodyPost_ret (v := .tuple #[.agg (insCells 0 0 0 0 0), .int .i64 2]) (by simp [results, Tryz.results45, go_sem, p0, p1, p2, p3, p4]) rfl ⟨rfl, k9.below (HB.out.trans (HB1.out.mono HB.out.size)) ((HB.out.trans (HB1.out.mono HB.out.size)).size) fun j e => Nat.le_of_eq e.symm⟩
  · have e0 : decide (pc < 0) = false := by simpa using h0
    have h1 : 0 ≤ pc := by omega
    have h2 : (cn : Int) ≤ pc := by omega
    clear hp h0
    go_enter Tryz.func45, Tryz.ntmps45
    go_upto_region 1 with (fail)
    generalize hW : World.alloc w _ = W at *
    go_quiet (fail)
    generalize hW1 : World.drewN W _ = W1
    have hb1 : Below W.heap.size W W1 := hW1 ▸ below_drewN (Below.refl _ _) _
    have HB1 := Lib.hid hb1
    have HI1 := Lib.hid (HI.out.keep hb1)
    have r0 := HI1.out.cell 0
    have r1 := HI1.out.cell 1
    have r2 := HI1.out.cell 2
    have r3 := HI1.out.cell 3
    have r4 := HI1.out.cell 4
    have rf := BlkAt.free HI1.out
    clear hW1 hb1
    go_wp2
    generalize hW9 : World.setCell (World.setCell (World.setCell (World.setCell (World.setCell W1 _ _) _ _) _ _) _ _) _ _ = W9
    obtain ⟨h9, k9⟩ := ins_wrote HI1.out hW9
    have p0 := h9.cell 0
    have p1 := h9.cell 1
    have p2 := h9.cell 2
    have p3 := h9.cell 3
    have p4 := h9.cell 4
    clear hW9
    refine bodyPost_ret (v := .tuple #[.agg (insCells 0 0 0 0 0), .int .i64 2]) (by simp [results, Tryz.results45, go_sem, p0, p1, p2, p3, p4]) rfl ⟨rfl, k9.below (HB.out.trans (HB1.out.mono HB.out.size)) ((HB.out.trans (HB1.out.mono HB.out.size)).size) fun j e => Nat.le_of_eq e.symm⟩
set_option maxRecDepth 100000 in
set_option maxHeartbeats 8000000 in
theorem corFetch_is {p : Nat} {v o d a q n : Int} {st : Int} (h : CorW w base b rb F ca cn cc rv mv cyc code s) (hp : s.pc = (p : Int)) (hpn : p < code.length) (hv : byAt code p = v) (ho : cO v = o) (hd : cG v 0 = d) (ha : cG v 1 = a) (hq : cG v 2 = q) (hn : cG v 3 = n)
    (hst : (o = 0 ∧ d = 0 ∧ a = 0 ∧ q = 0 ∧ n = 0 ∧ st = 3) ∨ (1 ≤ o ∧ st = 0)) :
    Calls Tryz.prog 45 #[.pointer (some ⟨b, 0, none⟩)] w fun e w' => e = .returned (.tuple #[.agg (insCells o d a q n), .int .i64 st]) ∧ Below w.heap.size w w' := by
  have HB := Lib.hid ((Below.refl w.heap.size w).alloc (Nat.le_refl _) (.cells (insCells 0 0 0 0 0) 66))
  have HR := Lib.hid (h.keep HB.out)
  obtain ⟨-, c1, c34, -⟩ := HR.out.cpc
  have hI := BlkAt.new w 66 (insCells 0 0 0 0 0)
  have HI := Lib.hid hI
  have hcn := h.code.len
  have hcap := h.code.cap
  have hbig := h.code.big
  unfold maxLen at hbig
  obtain ⟨g, rfl, hcell⟩ := HR.out.code.lie (by omega)
  have c0 := hcell p (by omega) 0 (by omega)
  have d1 := hcell p (by omega) 1 (by omega)
  have d2 := hcell p (by omega) 2 (by omega)
  have d3 := hcell p (by omega) 3 (by omega)
  have d4 := hcell p (by omega) 4 (by omega)
  unfold insF at c0 d1 d2 d3 d4
  rw [hv, if_pos rfl, ho] at c0
  rw [hv, if_neg (by decide), hd] at d1
  rw [hv, if_neg (by decide), ha] at d2
  rw [hv, if_neg (by decide), hq] at d3
  rw [hv, if_neg (by decide), hn] at d4
  rw [hp] at c34
  rw [Nat.add_zero] at c0
  have hpc : (p : Int) < cn := by omega
  have e0 : decide ((p : Int) < 0) = false := by simp
  have hge : ¬ (cn : Int) ≤ (p : Int) := by omega
  have HST := Lib.hid hst
  have HEQ := Lib.hid (fun w => eq_ins o d a q n 0 0 0 0 0 w)
  clear h hcn hp hpn hv ho hd ha hq hn hcell hst
  go_enter Tryz.func45, Tryz.ntmps45
  go_upto_region 1 with (fail)
  generalize hW : World.alloc w _ = W at *
  go_quiet (fail)
  go_upto_region 3 with (fail)
  generalize hW1 : World.drewN W _ = W1
  have hb1 : Below W.heap.size W W1 := hW1 ▸ below_drewN (Below.refl _ _) _
  have HB1 := Lib.hid hb1
  have HI1 := Lib.hid (HI.out.keep hb1)
  have HR1 := Lib.hid (HR.out.keep hb1)
  have m1 := HR1.out.cpc.2.1
  have m34 := (hb1.cell (p := ⟨b, 34, none⟩) (cell_lt c34)).trans c34
  have n0 := (hb1.cell (p := ⟨g, p * 5, none⟩) (cell_lt c0)).trans c0
  have n1 := (hb1.cell (p := ⟨g, p * 5 + 1, none⟩) (cell_lt d1)).trans d1
  have n2 := (hb1.cell (p := ⟨g, p * 5 + 2, none⟩) (cell_lt d2)).trans d2
  have n3 := (hb1.cell (p := ⟨g, p * 5 + 3, none⟩) (cell_lt d3)).trans d3
  have n4 := (hb1.cell (p := ⟨g, p * 5 + 4, none⟩) (cell_lt d4)).trans d4
  clear c0 c1 c34 d1 d2 d3 d4 hW1 hb1
  go_cut [4] (fun s4 wx => ∃ B, s4 = .pointer (some ⟨B, 0, none⟩) ∧ BlkAt B 66 (insCells o d a q n) wx ∧ Below W1.heap.size W1 wx)
  case first =>
    have HA := Lib.hid (fun o => (Below.refl W1.heap.size W1).alloc (Nat.le_refl _) o)
    have g1 := fun o => ((HA.out o).cell (p := ⟨b, 1, none⟩) (cell_lt m1)).trans m1
    have g34 := fun o => ((HA.out o).cell (p := ⟨b, 34, none⟩) (cell_lt m34)).trans m34
    have k0 := fun o => ((HA.out o).cell (p := ⟨g, p * 5, none⟩) (cell_lt n0)).trans n0
    have k1 := fun o => ((HA.out o).cell (p := ⟨g, p * 5 + 1, none⟩) (cell_lt n1)).trans n1
    have k2 := fun o => ((HA.out o).cell (p := ⟨g, p * 5 + 2, none⟩) (cell_lt n2)).trans n2
    have k3 := fun o => ((HA.out o).cell (p := ⟨g, p * 5 + 3, none⟩) (cell_lt n3)).trans n3
    have k4 := fun o => ((HA.out o).cell (p := ⟨g, p * 5 + 4, none⟩) (cell_lt n4)).trans n4
    go_region
    all_goals (go_wp2_with fail; go_meet)
    all_goals exact ⟨_, rfl, (BlkAt.new _ _ _).keep ((Below.refl _ _).drew), ((Below.refl _ _).alloc (Nat.le_refl _) _).drew⟩
  case rest =>
    obtain ⟨B, rfl, hB, hk⟩ := hcut
    have HB2 := Lib.hid hk
    have HI2 := Lib.hid (HI1.out.keep hk)
    have j0 := hB.cell 0
    have j1 := hB.cell 1
    have j2 := hB.cell 2
    have j3 := hB.cell 3
    have j4 := hB.cell 4
    have r0 := HI2.out.cell 0
    have r1 := HI2.out.cell 1
    have r2 := HI2.out.cell 2
    have r3 := HI2.out.cell 3
    have r4 := HI2.out.cell 4
    have rf := BlkAt.free HI2.out
    clear hB hk m1 m34 n0 n1 n2 n3 n4
    have hE := HEQ.out
    rcases HST.out with ⟨rfl, rfl, rfl, rfl, rfl, rfl⟩ | ⟨h1, rfl⟩
    · go_wp2
      generalize hW9 : World.setCell (World.setCell (World.setCell (World.setCell (World.setCell wc _ _) _ _) _ _) _ _) _ _ = W9
      obtain ⟨h9, k9⟩ := ins_wrote HI2.out hW9
      have p0 := h9.cell 0
      have p1 := h9.cell 1
      have p2 := h9.cell 2
      have p3 := h9.cell 3
      have p4 := h9.cell 4
      clear hW9
      refine bodyPost_ret (v := .tuple #[.agg (insCells 0 0 0 0 0), .int .i64 3]) (by simp [results, Tryz.results45, go_sem, p0, p1, p2, p3, p4]) rfl ⟨rfl, k9.below (((HB.out.trans (HB1.out.mono HB.out.size))).trans (HB2.out.mono (HB.out.trans (HB1.out.mono HB.out.size)).size)) ((((HB.out.trans (HB1.out.mono HB.out.size))).trans (HB2.out.mono (HB.out.trans (HB1.out.mono HB.out.size)).size)).size) fun j e => Nat.le_of_eq e.symm⟩
    · have e9 : (o == 0) = false := by simpa using (show o ≠ 0 by omega)
      clear h1
      go_wp2
      generalize hW9 : World.setCell (World.setCell (World.setCell (World.setCell (World.setCell wc _ _) _ _) _ _) _ _) _ _ = W9
      obtain ⟨h9, k9⟩ := ins_wrote HI2.out hW9
      have p0 := h9.cell 0
      have p1 := h9.cell 1
      have p2 := h9.cell 2
      have p3 := h9.cell 3
      have p4 := h9.cell 4
      clear hW9
      refine bodyPost_ret (v := .tuple #[.agg (insCells o d a q n), .int .i64 0]) (by simp [results, Tryz.results45, go_sem, p0, p1, p2, p3, p4]) rfl ⟨rfl, k9.below (((HB.out.trans (HB1.out.mono HB.out.size))).trans (HB2.out.mono (HB.out.trans (HB1.out.mono HB.out.size)).size)) ((((HB.out.trans (HB1.out.mono HB.out.size))).trans (HB2.out.mono (HB.out.trans (HB1.out.mono HB.out.size)).size)).size) fun j e => Nat.le_of_eq e.symm⟩
end
end Go.Proofs.YtcoicgkpikoibaaGreatDoor
