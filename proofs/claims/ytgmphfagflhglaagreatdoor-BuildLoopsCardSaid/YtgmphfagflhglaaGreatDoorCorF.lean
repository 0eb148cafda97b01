/- Package core: fetch and step. -/
import Derived.Test.YtgmphfagflhglaaGreatDoorCorE
namespace Go.Proofs.YtgmphfagflhglaaGreatDoor
open Go.RowKit

open Go.RowKit Go.IntWalk

abbrev insCells (o d a q n : Int) : Array Value := #[.int .i64 o, .int .i64 d, .int .i64 a, .int .i64 q, .int .i64 n]
theorem ins_wrote {g : Nat} {T : TypeId} {cs : Array Value} {W1 W9 : World} {o d a q n : Int} (h : BlkAt g T cs W1) (hW : (((((W1.setCell ⟨g, 0, none⟩ (.int .i64 o)).setCell ⟨g, 1, none⟩ (.int .i64 d)).setCell ⟨g, 2, none⟩ (.int .i64 a)).setCell ⟨g, 3, none⟩ (.int .i64 q)).setCell ⟨g, 4, none⟩ (.int .i64 n)) = W9) (hs : cs.size = 5 := by rfl) :
    BlkAt g T (insCells o d a q n) W9 ∧ Keeps (fun j => j = g) W1 W9 := by
  subst hW
  refine ⟨(((((h.set 0 (.int .i64 o)).set 1 (.int .i64 d)).set 2 (.int .i64 a)).set 3 (.int .i64 q)).set 4 (.int .i64 n)).eq ?_, ((((Keeps.set1 _ _ _ _).trans (Keeps.set1 _ _ _ _)).trans (Keeps.set1 _ _ _ _)).trans (Keeps.set1 _ _ _ _)).trans (Keeps.set1 _ _ _ _)⟩
  obtain ⟨l⟩ := cs
  match l, hs with
  | [c0, c1, c2, c3, c4], _ => rfl
section
variable {w : World} {base b rb : Nat} {F : Nat → Prop} {ca : Option Addr} {cn cc : Nat} {rv mv : Value} {cyc : Int} {code : List Int} {s : Cst}
set_option maxRecDepth 100000 in
set_option maxHeartbeats 8000000 in
theorem corFetch_no (h : CorW w base b rb F ca cn cc rv mv cyc code s) (hpw : w32 s.pc) (hp : ¬ (0 ≤ s.pc ∧ s.pc < code.length)) :
    Calls Tryz.prog 59 #[.pointer (some ⟨b, 0, none⟩)] w fun e w' => e = .returned (.tuple #[.agg (insCells 0 0 0 0 0), .int .i64 2]) ∧ Below w.heap.size w w' := by
  have HB := Lib.hid ((Below.refl w.heap.size w).alloc (Nat.le_refl _) (.cells (insCells 0 0 0 0 0) 29))
  have HR := Lib.hid (h.keep HB.out)
  obtain ⟨-, c1, c34, -⟩ := HR.out.cpc
  have hI := BlkAt.new w 29 (insCells 0 0 0 0 0)
  have HI := Lib.hid hI
  have hcn := h.code.len
  have hcap := h.code.cap
  have hbig := h.code.big
  unfold maxLen at hbig
  obtain ⟨pc, hpc⟩ : ∃ pc, s.pc = pc := ⟨_, rfl⟩
  rw [hpc] at c34 hpw hp
  rw [hcn] at hp
  obtain ⟨q0, q1⟩ := hpw
  clear h hcn hpc
  by_cases h0 : pc < 0
  · have e0 : decide (pc < 0) = true := by simpa using h0
    clear hp
    go_enter Tryz.func59, Tryz.ntmps59
    go_upto_region 1 with (fail)
    generalize hW : World.alloc w _ = W at *
    go_quiet (fail)
    generalize hW1 : World.drewN W _ = W1
    have hb1 : Below W.heap.size W W1 := hW1 ▸ below_drewN (Below.refl _ _) _
    have HB1 := Lib.hid hb1
    have HI1 := Lib.hid (HI.out.keep hb1)
    have r0 := HI1.out.cell 0
    have r1 := HI1.out.cell 1
    have r2 := HI1.out.cell 2
    have r3 := HI1.out.cell 3
    have r4 := HI1.out.cell 4
    have rf := BlkAt.free HI1.out
    clear hW1 hb1
    go_wp2
    generalize hW9 : World.setCell (World.setCell (World.setCell (World.setCell (World.setCell W1 _ _) _ _) _ _) _ _) _ _ = W9
    obtain ⟨h9, k9⟩ := ins_wrote HI1.out hW9
    have p0 := h9.cell 0
    have p1 := h9.cell 1
    have p2 := h9.cell 2
    have p3 := h9.cell 3
    have p4 := h9.cell 4
    clear hW9
    refine bodyPost_ret (v := .tuple #[.agg (insCells 0 0 0 0 0), .int .i64 2]) (by simp [results, Tryz.results59, go_sem, p0, p1, p2, p3, p4]) rfl ⟨rfl, k9.below (HB.out.trans (HB1.out.mono HB.out.size)) ((HB.out.trans (HB1.out.mono HB.out.size)).size) fun j e => Nat.le_of_eq e.symm⟩
  · have e0 : decide (pc < 0) = false := by simpa using h0
    have h1 : 0 ≤ pc := by omega
    have h2 : (cn : Int) ≤ pc := by omega
    clear hp h0
    go_enter Tryz.func59, Tryz.ntmps59
    go_upto_region 1 with (fail)
    generalize hW : World.alloc w _ = W at *
    go_quiet (fail)
    generalize hW1 : World.drewN W _ = W1
    have hb1 : Below W.heap.size W W1 := hW1 ▸ below_drewN (Below.refl _ _) _
    have HB1 := Lib.hid hb1
    have HI1 := Lib.hid (HI.out.keep hb1)
    have r0 := HI1.out.cell 0
    have r1 := HI1.out.cell 1
    have r2 := HI1.out.cell 2
    have r3 := HI1.out.cell 3
    have r4 := HI1.out.cell 4
    have rf := BlkAt.free HI1.out
    clear hW1 hb1
    go_wp2
    generalize hW9 : World.setCell (World.setCell (World.setCell (World.setCell (World.setCell W1 _ _) _ _) _ _) _ _) _ _ = W9
    obtain ⟨h9, k9⟩ := ins_wrote HI1.out hW9
    have p0 := h9.cell 0
    have p1 := h9.cell 1
    have p2 := h9.cell 2
    have p3 := h9.cell 3
    have p4 := h9.cell 4
    clear hW9
    refine bodyPost_ret (v := .tuple #[.agg (insCells 0 0 0 0 0), .int .i64 2]) (by simp [results, Tryz.results59, go_sem, p0, p1, p2, p3, p4]) rfl ⟨rfl, k9.below (HB.out.trans (HB1.out.mono HB.out.size)) ((HB.out.trans (HB1.out.mono HB.out.size)).size) fun j e => Nat.le_of_eq e.symm⟩
set_option maxRecDepth 100000 in
set_option maxHeartbeats 8000000 in
theorem corFetch_is {p : Nat} {v o d a q n : Int} {st : Int} (h : CorW w base b rb F ca cn cc rv mv cyc code s) (hp : s.pc = (p : Int)) (hpn : p < code.length) (hv : byAt code p = v) (ho : cO v = o) (hd : cG v 0 = d) (ha : cG v 1 = a) (hq : cG v 2 = q) (hn : cG v 3 = n)
    (hst : (o = 0 ∧ d = 0 ∧ a = 0 ∧ q = 0 ∧ n = 0 ∧ st = 3) ∨ (1 ≤ o ∧ st = 0)) :
    Calls Tryz.prog 59 #[.pointer (some ⟨b, 0, none⟩)] w fun e w' => e = .returned (.tuple #[.agg (insCells o d a q n), .int .i64 st]) ∧ Below w.heap.size w w' := by
  have HB := Lib.hid ((Below.refl w.heap.size w).alloc (Nat.le_refl _) (.cells (insCells 0 0 0 0 0) 29))
  have HR := Lib.hid (h.keep HB.out)
  obtain ⟨-, c1, c34, -⟩ := HR.out.cpc
  have hI := BlkAt.new w 29 (insCells 0 0 0 0 0)
  have HI := Lib.hid hI
  have hcn := h.code.len
  have hcap := h.code.cap
  have hbig := h.code.big
  unfold maxLen at hbig
  obtain ⟨g, rfl, hcell⟩ := HR.out.code.lie (by omega)
  have c0 := hcell p (by omega) 0 (by omega)
  have d1 := hcell p (by omega) 1 (by omega)
  have d2 := hcell p (by omega) 2 (by omega)
  have d3 := hcell p (by omega) 3 (by omega)
  have d4 := hcell p (by omega) 4 (by omega)
  unfold insF at c0 d1 d2 d3 d4
  rw [hv, if_pos rfl, ho] at c0
  rw [hv, if_neg (by decide), hd] at d1
  rw [hv, if_neg (by decide), ha] at d2
  rw [hv, if_neg (by decide), hq] at d3
  rw [hv, if_neg (by decide), hn] at d4
  rw [hp] at c34
  rw [Nat.add_zero] at c0
  have hpc : (p : Int) < cn := by omega
  have e0 : decide ((p : Int) < 0) = false := by simp
  have hge : ¬ (cn : Int) ≤ (p : Int) := by omega
  have HST := Lib.hid hst
  have HEQ := Lib.hid (fun w => eq_ins o d a q n 0 0 0 0 0 w)
  clear h hcn hp hpn hv ho hd ha hq hn hcell hst
  go_enter Tryz.func59, Tryz.ntmps59
  go_upto_region 1 with (fail)
  generalize hW : World.alloc w _ = W at *
  go_quiet (fail)
  go_upto_region 3 with (fail)
  generalize hW1 : World.drewN W _ = W1
  have hb1 : Below W.heap.size W W1 := hW1 ▸ below_drewN (Below.refl _ _) _
  have HB1 := Lib.hid hb1
  have HI1 := Lib.hid (HI.out.keep hb1)
  have HR1 := Lib.hid (HR.out.keep hb1)
  have m1 := HR1.out.cpc.2.1
  have m34 := (hb1.cell (p := ⟨b, 34, none⟩) (cell_lt c34)).trans c34
  have n0 := (hb1.cell (p := ⟨g, p * 5, none⟩) (cell_lt c0)).trans c0
  have n1 := (hb1.cell (p := ⟨g, p * 5 + 1, none⟩) (cell_lt d1)).trans d1
  have n2 := (hb1.cell (p := ⟨g, p * 5 + 2, none⟩) (cell_lt d2)).trans d2
  have n3 := (hb1.cell (p := ⟨g, p * 5 + 3, none⟩) (cell_lt d3)).trans d3
  have n4 := (hb1.cell (p := ⟨g, p * 5 + 4, none⟩) (cell_lt d4)).trans d4
  clear c0 c1 c34 d1 d2 d3 d4 hW1 hb1
  go_cut [4] (fun s4 wx => ∃ B, s4 = .pointer (some ⟨B, 0, none⟩) ∧ BlkAt B 29 (insCells o d a q n) wx ∧ Below W1.heap.size W1 wx)
  case first =>
    have HA := Lib.hid (fun o => (Below.refl W1.heap.size W1).alloc (Nat.le_refl _) o)
    have g1 := fun o => ((HA.out o).cell (p := ⟨b, 1, none⟩) (cell_lt m1)).trans m1
    have g34 := fun o => ((HA.out o).cell (p := ⟨b, 34, none⟩) (cell_lt m34)).trans m34
    have k0 := fun o => ((HA.out o).cell (p := ⟨g, p * 5, none⟩) (cell_lt n0)).trans n0
    have k1 := fun o => ((HA.out o).cell (p := ⟨g, p * 5 + 1, none⟩) (cell_lt n1)).trans n1
    have k2 := fun o => ((HA.out o).cell (p := ⟨g, p * 5 + 2, none⟩) (cell_lt n2)).trans n2
    have k3 := fun o => ((HA.out o).cell (p := ⟨g, p * 5 + 3, none⟩) (cell_lt n3)).trans n3
    have k4 := fun o => ((HA.out o).cell (p := ⟨g, p * 5 + 4, none⟩) (cell_lt n4)).trans n4
    go_region
    all_goals (go_wp2_with fail; go_meet)
    all_goals exact ⟨_, rfl, (BlkAt.new _ _ _).keep ((Below.refl _ _).drew), ((Below.refl _ _).alloc (Nat.le_refl _) _).drew⟩
  case rest =>
    obtain ⟨B, rfl, hB, hk⟩ := hcut
    have HB2 := Lib.hid hk
    have HI2 := Lib.hid (HI1.out.keep hk)
    have j0 := hB.cell 0
    have j1 := hB.cell 1
    have j2 := hB.cell 2
    have j3 := hB.cell 3
    have j4 := hB.cell 4
    have r0 := HI2.out.cell 0
    have r1 := HI2.out.cell 1
    have r2 := HI2.out.cell 2
    have r3 := HI2.out.cell 3
    have r4 := HI2.out.cell 4
    have rf := BlkAt.free HI2.out
    clear hB hk m1 m34 n0 n1 n2 n3 n4
    have hE := HEQ.out
    rcases HST.out with ⟨rfl, rfl, rfl, rfl, rfl, rfl⟩ | ⟨h1, rfl⟩
    · go_wp2
      generalize hW9 : World.setCell (World.setCell (World.setCell (World.setCell (World.setCell wc _ _) _ _) _ _) _ _) _ _ = W9
      obtain ⟨h9, k9⟩ := ins_wrote HI2.out hW9
      have p0 := h9.cell 0
      have p1 := h9.cell 1
      have p2 := h9.cell 2
      have p3 := h9.cell 3
      have p4 := h9.cell 4
      clear hW9
      refine bodyPost_ret (v := .tuple #[.agg (insCells 0 0 0 0 0), .int .i64 3]) (by simp [results, Tryz.results59, go_sem, p0, p1, p2, p3, p4]) rfl ⟨rfl, k9.below (((HB.out.trans (HB1.out.mono HB.out.size))).trans (HB2.out.mono (HB.out.trans (HB1.out.mono HB.out.size)).size)) ((((HB.out.trans (HB1.out.mono HB.out.size))).trans (HB2.out.mono (HB.out.trans (HB1.out.mono HB.out.size)).size)).size) fun j e => Nat.le_of_eq e.symm⟩
    · have e9 : (o == 0) = false := by simpa using (show o ≠ 0 by omega)
      clear h1
      go_wp2
      generalize hW9 : World.setCell (World.setCell (World.setCell (World.setCell (World.setCell wc _ _) _ _) _ _) _ _) _ _ = W9
      obtain ⟨h9, k9⟩ := ins_wrote HI2.out hW9
      have p0 := h9.cell 0
      have p1 := h9.cell 1
      have p2 := h9.cell 2
      have p3 := h9.cell 3
      have p4 := h9.cell 4
      clear hW9
      refine bodyPost_ret (v := .tuple #[.agg (insCells o d a q n), .int .i64 0]) (by simp [results, Tryz.results59, go_sem, p0, p1, p2, p3, p4]) rfl ⟨rfl, k9.below (((HB.out.trans (HB1.out.mono HB.out.size))).trans (HB2.out.mono (HB.out.trans (HB1.out.mono HB.out.size)).size)) ((((HB.out.trans (HB1.out.mono HB.out.size))).trans (HB2.out.mono (HB.out.trans (HB1.out.mono HB.out.size)).size)).size) fun j e => Nat.le_of_eq e.symm⟩
end

open Go.RowKit Go.IntWalk

theorem infoMk' : (Tryz.prog.info? 138).map (fun i => (i.zero, i.size, i.bytes)) = some (some (.agg #[.int .i64 0, .int .i64 0, .int .i64 0]), 3, 24) := by kernel_rfl
/-- What comes of a step, held against the machine. -/
def StepD (s s1 t : Cst) (nx ad co st : Int) : Prop := s1.pc = s.pc ∧ s1.mks = s.mks ∧ (((st = 0 ∨ st = 1) ∧ t = (s1.mark nx ad co).stop st ∧ 1 ≤ co ∧ co ≤ 34) ∨ ((2 ≤ st ∧ st ≤ 5) ∧ t = s1.stop st))
theorem DoneS.step {s s1 t : Cst} {nx ad co st : Int} (h : DoneS s s1 t nx ad co st) : StepD s s1 t nx ad co st :=
  ⟨h.1, h.2.1, h.2.2.imp id fun h => ⟨by have := h.1; omega, h.2⟩⟩
section
variable {w : World} {base b rb : Nat} {F : Nat → Prop} {ca : Option Addr} {cn cc : Nat} {rv mv : Value} {cyc : Int} {code : List Int} {s : Cst}
/-- A mark more: what the append and the store leave. -/
theorem CorW.grow {w1 w2 : World} {g cap : Nat} (h : CorW w base b rb F ca cn cc rv mv cyc code s) (m : Mk)
    (hb : Below w.heap.size w w1) (ho : OwnMk w2 base 138 (.slice (some ⟨g, 0, none⟩) (s.mks.length + 1) cap) (s.mks ++ [m])) (hg : w1.grownBy w2 mv.ownBlock) (hx : mv.ownBlock = some g ∨ g = w1.heap.size) :
    BlkAt b 72 (fnArr 39 (corC b rb ca cn cc mv cyc s)) w2 ∧
    CorW (w2.setCell ⟨b, 37, none⟩ (.slice (some ⟨g, 0, none⟩) (s.mks.length + 1) cap)) base b rb (fun j => F j ∨ j = g) ca cn cc rv (.slice (some ⟨g, 0, none⟩) (s.mks.length + 1) cap) cyc code { s with mks := s.mks ++ [m] } ∧
    Grows F w (fun j => F j ∨ j = g) (w2.setCell ⟨b, 37, none⟩ (.slice (some ⟨g, 0, none⟩) (s.mks.length + 1) cap)) := by
  have hbb := (h.fF b h.fb)
  have hs1 := hb.size
  have k2 : Keeps (fun j => mv.ownBlock = some j) w w2 := (Keeps.of_below _ hb).next (Keeps.of_grown (F := fun j => mv.ownBlock = some j) hg fun j e => e) fun _ _ e => e
  have hnew : ∀ j, F j → mv.ownBlock ≠ some j → g ≠ j := by
    intro j f q e
    subst e
    rcases hx with y | y
    · exact q y
    · have := (h.fF g f).2; omega
  have hgb : g ≠ b := hnew b h.fb fun e => (h.fm b e).2.1 rfl
  have hB : BlkAt b 72 (fnArr 39 (corC b rb ca cn cc mv cyc s)) w2 := h.blk.kept k2 fun e => (h.fm b e).2.1 rfl
  have k3 := Keeps.set1 w2 b 37 (.slice (some ⟨g, 0, none⟩) (s.mks.length + 1) cap)
  have hgl := (ho.lt g rfl)
  have own : ∀ j, (Value.slice (some ⟨g, 0, none⟩) (s.mks.length + 1) cap).ownBlock = some j → g = j := fun j e => by simpa [Value.ownBlock] using e
  refine ⟨hB, ⟨hB.fset 37 _ fun i hi => ?_, ?_, ?_, ho.kept k3 fun j e => own j e ▸ hgb, ?_, .inl h.fb, ⟨.inl h.fr.1, h.fr.2⟩, fun j e => ⟨.inl (h.fv j e).1, (h.fv j e).2⟩, fun j e => ?_, fun j off e => ?_, fun j hj => ?_⟩, ?_, ?_⟩
  · unfold corC
    by_cases e : i = 37
    · subst e; rfl
    · simp only [if_neg e]
  · exact (h.code.kept k2 fun j off e q => (h.fc j off e).2.2.2.2 q).kept k3 fun j off e => (h.fc j off e).2.1
  · exact ram_kept (ram_kept h.ram k2 (fun e => (h.fm rb e).2.2.1 rfl) fun j e q => (h.fm j q).2.2.2 e) k3 h.fr.2 fun j e => (h.fv j e).2
  · exact (h.tabs.kept k2 fun j e => (h.fF j (h.fm j e).1).1).kept k3 fun j e => e ▸ hbb.1
  · obtain rfl := own j e
    exact ⟨.inr rfl, hgb, hnew rb h.fr.1 fun e => (h.fm rb e).2.2.1 rfl, fun q => hnew g (h.fv g q).1 (fun e => (h.fm g e).2.2.2 q) rfl⟩
  · have q := h.fc j off e
    exact ⟨.inl q.1, q.2.1, q.2.2.1, q.2.2.2.1, fun y => hnew j q.1 q.2.2.2.2 (own j y)⟩
  · have hsz : (w2.setCell ⟨b, 37, none⟩ (.slice (some ⟨g, 0, none⟩) (s.mks.length + 1) cap)).heap.size = w2.heap.size := by simp [World.setCell]
    rw [hsz]
    rcases hj with f | rfl
    · exact ⟨(h.fF j f).1, Nat.lt_of_lt_of_le (h.fF j f).2 k2.size⟩
    · exact hgl
  · refine (k2.mono (G := F) fun j _ q => (h.fm j q).1).next k3 fun j _ e => ?_
    subst e; exact h.fb
  · rintro j (f | rfl)
    · exact .inl f
    · rcases hx with y | y
      · exact .inl (h.fm j y).1
      · exact .inr (by omega)
/-- The program's core, whatever it holds. -/
def CorAt (w : World) (base b : Nat) (F : Nat → Prop) (code : List Int) (s : Cst) : Prop := ∃ rb ca cn cc rv mv, CorW w base b rb F ca cn cc rv mv (costS s.mks) code s
theorem CorW.at (h : CorW w base b rb F ca cn cc rv mv cyc code s) (e : costS s.mks = cyc) : CorAt w base b F code s := ⟨rb, ca, cn, cc, rv, mv, e ▸ h⟩
/-- It has turned to s. -/
def CorTo (w : World) (base b : Nat) (F : Nat → Prop) (code : List Int) (s : Cst) (w' : World) : Prop := ∃ F', CorAt w' base b F' code s ∧ Grows F w F' w'
theorem outcome_wrote {g : Nat} {T : TypeId} {cs : Array Value} {W1 W9 : World} {x0 x1 x2 x3 : Int} (h : BlkAt g T cs W1) (hW : ((((W1.setCell ⟨g, 0, none⟩ (.int .i64 x0)).setCell ⟨g, 1, none⟩ (.int .i64 x1)).setCell ⟨g, 2, none⟩ (.int .i64 x2)).setCell ⟨g, 3, none⟩ (.int .i64 x3)) = W9) (hs : cs.size = 4 := by rfl) :
    BlkAt g T (outCells x0 x1 x2 x3) W9 ∧ Keeps (fun j => j = g) W1 W9 := by
  subst hW
  refine ⟨((((h.set 0 (.int .i64 x0)).set 1 (.int .i64 x1)).set 2 (.int .i64 x2)).set 3 (.int .i64 x3)).eq ?_, (((Keeps.set1 _ _ _ _).trans (Keeps.set1 _ _ _ _)).trans (Keeps.set1 _ _ _ _)).trans (Keeps.set1 _ _ _ _)⟩
  obtain ⟨l⟩ := cs
  match l, hs with
  | [c0, c1, c2, c3], _ => rfl
set_option maxRecDepth 100000 in
set_option maxHeartbeats 16000000 in
theorem corStep_run {t : Cst} {o zst n : Int} {d a q : Nat} (h : CorW w base b rb F ca cn cc rv mv (costS s.mks) code s) (hst : s.st = 0) (hm : s.mks.length < 1048576) (hcost : 0 ≤ costS s.mks ∧ costS s.mks ≤ 34 * s.mks.length)
    (hFe : Calls Tryz.prog 59 #[.pointer (some ⟨b, 0, none⟩)] w fun e w' => e = .returned (.tuple #[.agg (insCells o d a q n), .int .i64 zst]) ∧ Below w.heap.size w w')
    (hz : (zst = 0 ∧ t = exeS s o d a q n ∧ (1 ≤ o ∧ o ≤ 43) ∧ -32768 ≤ n ∧ n ≤ 65535 ∧ 0 ≤ s.pc ∧ s.pc < 1048576) ∨ ((zst = 2 ∨ zst = 3) ∧ t = s.stop zst)) (hd : d < 32) (ha : a < 32) (hq : q < 32) (hw : ∀ k, w32 (s.reg k)) (hL : s.ram.length ≤ 1048576) :
    Calls Tryz.prog 47 #[.pointer (some ⟨b, 0, none⟩)] w fun e w' => e = .returned (.tuple #[]) ∧ CorTo w base b F code t w' := by
  have HFe := Lib.hid hFe
  have H0 := Lib.hid h
  have HST := Lib.hid hst
  have HM := Lib.hid hm
  have HCO := Lib.hid hcost
  have HZ := Lib.hid hz
  have HD := Lib.hid (And.intro hd (And.intro ha hq))
  have HW := Lib.hid hw
  have HLL := Lib.hid hL
  clear h hst hm hcost hz hd ha hq hw hL hFe
  go_enter Tryz.func47, Tryz.ntmps47
  go_upto_region 0 with (fail)
  go_cut [2, 3] (fun s2 s3 wx => ∃ B, s2 = .pointer (some ⟨B, 0, none⟩) ∧ s3 = .int .i64 zst ∧ BlkAt B 29 (insCells o d a q n) wx ∧ Below w.heap.size w wx)
  case first =>
    go_wp2_with (go_at_call 59; ((with_reducible refine (HFe.out).mono ?_); rintro e w3 ⟨rfl, hk⟩); have HK3 := Lib.hid hk; clear hk)
    go_meet
    exact ⟨_, rfl, rfl, BlkAt.new _ _ _, HK3.out.alloc HK3.out.size _⟩
  case rest =>
    obtain ⟨B, rfl, rfl, hB, hk⟩ := hcut
    have HK := Lib.hid hk
    have HB := Lib.hid hB
    have HR := Lib.hid (H0.out.keep hk)
    clear hB hk
    go_upto_if 13 with (fail)
    generalize hW1 : World.alloc wc _ = W1
    have hO1 : BlkAt wc.heap.size 135 (outCells 0 0 0 zst) W1 := hW1 ▸ BlkAt.new wc _ _
    have hb1 : Below wc.heap.size wc W1 := hW1 ▸ (Below.refl wc.heap.size wc).alloc (Nat.le_refl _) _
    have HO1 := Lib.hid hO1
    have HR1 := Lib.hid (HR.out.keep hb1)
    have HI1 := Lib.hid (HB.out.keep hb1)
    have HK1 := Lib.hid (show Below w.heap.size w W1 from HK.out.trans (hb1.mono HK.out.size))
    have HNO := Lib.hid (show ¬ F wc.heap.size ∧ base ≤ wc.heap.size from ⟨fun f => Nat.lt_irrefl _ (HR.out.fF _ f).2, Nat.le_trans (HR.out.fF b HR.out.fb).1 (Nat.le_of_lt (HR.out.fF b HR.out.fb).2)⟩)
    clear hW1 hO1 hb1
    go_cut [] from 14 to 16 (fun wx => ∃ s1 nx ad co st, CorW wx base b rb F ca cn cc rv mv (costS s.mks) code s1 ∧ BlkAt wc.heap.size 135 (outCells nx ad co st) wx ∧ StepD s s1 t nx ad co st ∧ Keeps F w wx)
    case first =>
      rcases HZ.out with ⟨rfl, he, ho, n0, n1, p0, p1⟩ | ⟨hz2, he⟩
      · have HE := Lib.hid he
        have HDo := Lib.hid (corDo_is o d a q n HR1.out HST.out ho HD.out.1 HD.out.2.1 HD.out.2.2 HW.out n0 n1 HLL.out ⟨p0, p1⟩)
        have j0 := HI1.out.cell 0
        have j1 := HI1.out.cell 1
        have j2 := HI1.out.cell 2
        have j3 := HI1.out.cell 3
        have j4 := HI1.out.cell 4
        clear he ho p0 p1
        go_wp2_with (go_at_call 60; ((with_reducible refine (HDo.out).mono ?_); rintro e w3 ⟨s1, nx, ad, co, st, rfl, hr, hd3, hk⟩); have HR3 := Lib.hid hr; have HD3 := Lib.hid hd3; have HK3 := Lib.hid hk; have HO3 := Lib.hid (HO1.out.kept hk HNO.out.1); have o0 := HO3.out.cell 0; have o1 := HO3.out.cell 1; have o2 := HO3.out.cell 2; have o3 := HO3.out.cell 3; have of := BlkAt.free HO3.out; clear hr hd3 hk)
        go_meet
        generalize hW9 : World.setCell (World.setCell (World.setCell (World.setCell w3 _ _) _ _) _ _) _ _ = W9
        obtain ⟨h9, k9⟩ := outcome_wrote HO3.out hW9
        refine ⟨s1, nx, ad, co, st, HR3.out.kept k9 (fun j e => e ▸ HNO.out.2) (fun j f e => HNO.out.1 (e ▸ f)), h9, HE.out ▸ HD3.out.step, ?_⟩
        exact ((Keeps.of_below F HK1.out).trans HK3.out).next k9 fun j hj e => by
          have := HK.out.size
          omega
      · have e1 : (zst == 0) = false := by simpa using (show zst ≠ 0 by omega)
        have HE := Lib.hid (And.intro hz2 he)
        clear hz2 he
        go_wp2_with fail
        go_meet
        exact ⟨s, 0, 0, 0, zst, HR1.out, HO1.out, ⟨rfl, rfl, .inr ⟨by have := HE.out.1; omega, HE.out.2⟩⟩, Keeps.of_below F HK1.out⟩
    case rest =>
      rename_i w2
      obtain ⟨s1, nx, ad, co, st, hR3, hO3, hD3, hK3⟩ := hcut
      have HR3 := Lib.hid hR3
      have HO3 := Lib.hid hO3
      have HD3 := Lib.hid hD3
      have HK3 := Lib.hid hK3
      have q0 := hO3.cell 0
      have q1 := hO3.cell 1
      have q2 := hO3.cell 2
      have q3 := hO3.cell 3
      have c35 := hR3.cpc.2.2.2.1
      have f35 := hR3.free 35
      clear hR3 hO3 hD3 hK3
      go_upto_region 5 with (fail)
      generalize hW4 : World.setCell wc _ _ = W4
      have hR4 : CorW W4 base b rb F ca cn cc rv mv (costS s.mks) code (s1.stop st) := hW4 ▸ HR3.out.to_st st
      have k4 : Keeps (fun j => j = b) wc W4 := hW4 ▸ Keeps.set1 _ _ _ _
      have HR4 := Lib.hid hR4
      have HK4 := Lib.hid (HK3.out.trans (k4.mono (G := F) fun j _ e => e ▸ HR3.out.fb))
      have HO4 := Lib.hid (HO3.out.kept k4 fun e => HNO.out.1 (e ▸ HR3.out.fb))
      have p0 := HO4.out.cell 0
      have p1 := HO4.out.cell 1
      have p2 := HO4.out.cell 2
      have p3 := HO4.out.cell 3
      clear hW4 q0 q1 q2 q3 c35 f35 hR4 k4
      obtain ⟨dp, dm, hd3⟩ := HD3.out
      have HDP := Lib.hid dp
      have HDM := Lib.hid dm
      have HMM := Lib.hid (show (s1.stop st).mks.length < 1048576 by show s1.mks.length < _; rw [dm]; exact HM.out)
      have HCM := Lib.hid (show costS s1.mks = costS s.mks by rw [dm])
      clear dp dm
      rcases hd3 with ⟨hs, he, hc1, hc2⟩ | ⟨hs, he⟩
      · have HE := Lib.hid he
        have HCB := Lib.hid (And.intro hc1 hc2)
        have h01 : ((st != 0) && (st != 1)) = false := by rcases hs with rfl | rfl <;> rfl
        obtain ⟨cy, hcy⟩ : ∃ cy, costS s.mks = cy := ⟨_, rfl⟩
        have HCY := Lib.hid hcy
        have hcb := HCO.out
        rw [hcy] at hcb
        have hml := HM.out
        have ew : IntKind.i64.wrap (cy + co) = cy + co := by simp [IntKind.wrap, IntKind.bits, IntKind.signed]; omega
        have HEW := Lib.hid ew
        have HR5 := Lib.hid (show CorW W4 base b rb F ca cn cc rv mv cy code (s1.stop st) from hcy ▸ HR4.out)
        have c37 := HR5.out.cpc.2.2.2.2.2.1
        have c34 := show W4.cell? ⟨b, 34, none⟩ = some (.int .i64 s1.pc) from HR5.out.cpc.2.2.1
        have HBS := Lib.hid (show base ≤ W4.heap.size from Nat.le_trans (HR4.out.fF b HR4.out.fb).1 (Nat.le_of_lt (HR4.out.fF b HR4.out.fb).2))
        clear he hc1 hc2 hcy hcb hml ew h01
        have HSS := Lib.hid hs
        clear hs
        go_cut [29] (fun s29 wx => s29 = .bool false ∧ wx = W4)
        case first =>
          rcases HSS.out with rfl | rfl
          all_goals (go_wp2_with fail; go_meet)
          all_goals exact ⟨rfl, rfl⟩
        case rest =>
          obtain ⟨rfl, rfl⟩ := hcut
          go_upto_region 6 with (fail)
          go_cut [] (fun wx => ∃ F' mv', CorW wx base b rb F' ca cn cc rv mv' cy code { (s1.stop st) with mks := s1.mks ++ [(s1.pc, ad, co)] } ∧ Grows F wc F' wx)
          case first =>
            obtain ⟨i0, hi, hz0, hz1, hz2⟩ := info_parts infoMk'
            have HA := Lib.hid (fun o => (Below.refl wc.heap.size wc).drew.alloc (Nat.le_refl _) o)
            have q37 : ∀ o, (wc.alloc o).cell? ⟨b, 37, none⟩ = some mv := fun o => ((HA.out o).cell (p := ⟨b, 37, none⟩) (cell_lt c37)).trans c37
            go_region_law (refine step_append_mk _ rfl (.tmp 34) (.tmp 44) 68 rfl base 138 i0 (.agg #[.int .i64 0, .int .i64 0, .int .i64 0]) Tryz.underlying68 hi hz0 hz1 hz2 rfl mv s1.mks (s1.pc, ad, co) wc.heap.size rfl rfl (HR5.out.marks.keep (HA.out _)) ⟨_, heap_atn _ _ _ rfl⟩ HMM.out (Nat.le_trans HBS.out (HA.out _).size) ?_; intro g cap w5 ho hg hx; have HT := Lib.hid (HR5.out.grow (s1.pc, ad, co) (HA.out _) ho hg hx); clear ho hg hx; have c6 := HT.out.1.fcell (k := 37) (by omega); have f6 := HT.out.1.free 37)
            all_goals (go_wp2_with fail; go_meet)
            all_goals exact ⟨_, _, HT.out.2.1, HT.out.2.2⟩
          case rest =>
            rename_i w4 _
            obtain ⟨F6, mv6, hR6, hG6⟩ := hcut
            have HR6 := Lib.hid hR6
            have HG6 := Lib.hid hG6
            have HO6 := Lib.hid (HO4.out.kept hG6.keeps HNO.out.1)
            have o0 := HO6.out.cell 0
            have o2 := HO6.out.cell 2
            have c36 := hR6.cpc.2.2.2.2.1
            have f36 := hR6.free 36
            clear hR6 hG6 p0 p1 p2 p3 c37 c34
            have ew := HEW.out
            go_upto_region 7 with (fail)
            go_cut [] (fun wx => CorW wx base b rb F6 ca cn cc rv mv6 (cy + co) code { (s1.stop st) with mks := s1.mks ++ [(s1.pc, ad, co)] } ∧ Keeps F6 wc wx)
            case first =>
              go_region
              all_goals (go_wp2_with fail; go_meet)
              all_goals exact ⟨(HR6.out.to_cyc _).keep ((Below.refl _ _).drew), (Keeps.set HR6.out.fb _ _ _).trans (Keeps.of_below F6 ((Below.refl _ _).drew))⟩
            case rest =>
              rename_i w6 _
              obtain ⟨hR7, hK7⟩ := hcut
              have HR7 := Lib.hid hR7
              have HK7 := Lib.hid hK7
              have HO7 := Lib.hid (HO6.out.kept hK7 fun f => (HG6.out.new _ f).elim HNO.out.1 fun e => by have := HO4.out.lt; omega)
              have q0 := HO7.out.cell 0
              have c34 := hR7.cpc.2.2.1
              have f34 := hR7.free 34
              clear hR7 hK7 o0 o2 c36 f36 ew
              go_wp2
              go_end0
              rw [HE.out]
              refine ⟨rfl, F6, show CorAt _ base b F6 code ((s1.mark nx ad co).stop st) from (HR7.out.to_pc nx).at ?_, (((Grows.mk HK4.out fun _ h => .inl h).trans HG6.out).trans ⟨HK7.out, fun _ h => .inl h⟩).trans (Grows.set HR7.out.fb _ _ _)⟩
              show costS (s1.mks ++ [(s1.pc, ad, co)]) = cy + co
              rw [costS_app, costS_one, HCM.out, HCY.out]
      · have e1 : (st != 0) = true := by simpa using (show st ≠ 0 by omega)
        have e2 : (st != 1) = true := by simpa using (show st ≠ 1 by omega)
        have HE := Lib.hid he
        clear he hs
        go_wp2
        refine bodyPost_ret (results_none rfl _ _ _) rfl ?_
        rw [HE.out]
        exact ⟨rfl, F, HR4.out.at HCM.out, ⟨HK4.out, fun _ h => .inl h⟩⟩
/-- A step. -/
theorem corStep_is {R : Nat} (h : CorAt w base b F code s) (hg : Good code.length R s) (hst : s.st = 0) (hN : code.length < 1048576) (hR : R ≤ 1048576) (hm : s.mks.length < 1048576) :
    Calls Tryz.prog 47 #[.pointer (some ⟨b, 0, none⟩)] w fun e w' => e = .returned (.tuple #[]) ∧ CorTo w base b F code (stepS code s) w' := by
  obtain ⟨rb, ca, cn, cc, rv, mv, h⟩ := h
  have hc := costS_bd (l := s.mks) fun k hk => ⟨(hg.mks k hk).2.2.2.2.1, (hg.mks k hk).2.2.2.2.2⟩
  have hL : s.ram.length ≤ 1048576 := by rw [hg.len]; exact hR
  by_cases hp : 0 ≤ s.pc ∧ s.pc < code.length
  · obtain ⟨p, hpp⟩ : ∃ p : Nat, s.pc = p := ⟨s.pc.toNat, by omega⟩
    have hpn : p < code.length := by omega
    by_cases he : cErr (byAt code p) = 0
    · obtain ⟨⟨o1, o2⟩, ⟨d0, d1⟩, ⟨a0, a1⟩, ⟨q0, q1⟩, ⟨n0, n1⟩, -⟩ := dec_bd he
      obtain ⟨d, hd⟩ : ∃ d : Nat, cG (byAt code p) 0 = d := ⟨(cG (byAt code p) 0).toNat, by omega⟩
      obtain ⟨a, ha⟩ : ∃ d : Nat, cG (byAt code p) 1 = d := ⟨(cG (byAt code p) 1).toNat, by omega⟩
      obtain ⟨q, hq⟩ : ∃ d : Nat, cG (byAt code p) 2 = d := ⟨(cG (byAt code p) 2).toNat, by omega⟩
      have e := step_do (s := s) hp (v := byAt code p) (by rw [hpp]; rfl) he rfl hd ha hq rfl
      exact corStep_run (t := stepS code s) h hst hm hc (corFetch_is h hpp hpn rfl rfl hd ha hq rfl (.inr ⟨o1, rfl⟩)) (.inl ⟨rfl, e, ⟨o1, o2⟩, n0, n1, hp.1, by omega⟩) (by omega) (by omega) (by omega) hg.reg hL
    · have z0 : cO (byAt code p) = 0 := by unfold cO; rw [if_neg he]
      have zg : ∀ k, cG (byAt code p) k = 0 := fun k => by unfold cG; rw [if_neg he]
      exact corStep_run (t := stepS code s) (d := 0) (a := 0) (q := 0) h hst hm hc (corFetch_is h hpp hpn rfl z0 (zg 0) (zg 1) (zg 2) (zg 3) (.inl ⟨rfl, rfl, rfl, rfl, rfl, rfl⟩)) (.inr ⟨.inr rfl, step_bad hp (by rw [hpp]; rfl) he⟩) (by omega) (by omega) (by omega) hg.reg hL
  · exact corStep_run (t := stepS code s) (d := 0) (a := 0) (q := 0) h hst hm hc (corFetch_no h hg.pc hp) (.inr ⟨.inl rfl, step_no hp⟩) (by omega) (by omega) (by omega) hg.reg hL
end

end Go.Proofs.YtgmphfagflhglaaGreatDoor
