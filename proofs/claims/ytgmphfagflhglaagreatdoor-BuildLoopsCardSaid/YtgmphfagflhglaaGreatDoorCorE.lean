/- What the program's core does of an instruction: do. Conditions: as decoded. -/
import Derived.Test.YtgmphfagflhglaaGreatDoorCorA
import Derived.Deep.CutBlock
namespace Go.Proofs.YtgmphfagflhglaaGreatDoor
open Go.RowKit Go.IntWalk

/-- Two blocks made one behind the other. -/
theorem two_new {w W : World} {c1 c2 : Array Value} {T1 T2 : TypeId} (h : (w.alloc (.cells c1 T1)).alloc (.cells c2 T2) = W) : BlkAt w.heap.size T1 c1 W ∧ BlkAt (w.heap.size + 1) T2 c2 W ∧ Below w.heap.size w W := by
  subst h
  refine ⟨(BlkAt.new w T1 c1).keep ((Below.refl _ _).alloc (Nat.le_refl _) _), ?_, ((Below.refl w.heap.size w).alloc (Nat.le_refl _) _).alloc (by rw [World.size_alloc]; omega) _⟩
  have := BlkAt.new (w.alloc (.cells c1 T1)) T2 c2
  rwa [World.size_alloc] at this
theorem stop_same {s : Cst} {k : Int} (h : s.st = k) : s.stop k = s := by
  cases s
  simp only at h
  subst h
  rfl
/-- What comes of an instruction, held against the machine. -/
def DoneS (s s1 t : Cst) (nx ad co st : Int) : Prop := s1.pc = s.pc ∧ s1.mks = s.mks ∧ (((st = 0 ∨ st = 1) ∧ t = (s1.mark nx ad co).stop st ∧ 1 ≤ co ∧ co ≤ 34) ∨ ((st = 4 ∨ st = 5) ∧ t = s1.stop st))
theorem DoneS.on {s s1 t : Cst} {nx ad co : Int} (hp : s1.pc = s.pc) (hm : s1.mks = s.mks) (h0 : s1.st = 0) (ht : t = s1.mark nx ad co) (hc : 1 ≤ co ∧ co ≤ 34) : DoneS s s1 t nx ad co 0 :=
  ⟨hp, hm, .inl ⟨.inl rfl, by rw [stop_same (show (s1.mark nx ad co).st = 0 from h0)]; exact ht, hc⟩⟩
section
variable {w : World} {base b rb : Nat} {F : Nat → Prop} {ca : Option Addr} {cn cc : Nat} {rv mv : Value} {cyc : Int} {code : List Int} {s : Cst}
/-- A block of what comes of an instruction, made by the call. -/
def OutNew (W : World) (s7 : Value) (x0 x1 x2 x3 : Int) (wx : World) : Prop := ∃ ob : Nat, s7 = .pointer (some ⟨ob, 0, none⟩) ∧ BlkAt ob 135 (outCells x0 x1 x2 x3) wx ∧ W.heap.size ≤ ob ∧ Below W.heap.size W wx
theorem OutNew.new {W w3 : World} (x0 x1 x2 x3 : Int) (h : Below W.heap.size W w3) : OutNew W (.pointer (some ⟨w3.heap.size, 0, none⟩)) x0 x1 x2 x3 (w3.alloc (.cells #[.int .i64 x0, .int .i64 x1, .int .i64 x2, .int .i64 x3] 135)) :=
  ⟨_, rfl, BlkAt.new _ _ _, h.size, h.alloc h.size _⟩
set_option maxRecDepth 100000 in
set_option maxHeartbeats 16000000 in
theorem corDo_is (o : Int) (d a q : Nat) (n : Int) (h : CorW w base b rb F ca cn cc rv mv cyc code s) (hst : s.st = 0) (ho : 1 ≤ o ∧ o ≤ 43) (hd : d < 32) (ha : a < 32) (hq : q < 32) (hw : ∀ k, w32 (s.reg k)) (n0 : -32768 ≤ n) (n1 : n ≤ 65535) (hL : s.ram.length ≤ 1048576) (hp : 0 ≤ s.pc ∧ s.pc < 1048576) :
    Calls Tryz.prog 60 #[.pointer (some ⟨b, 0, none⟩), .agg #[.int .i64 o, .int .i64 (d : Int), .int .i64 (a : Int), .int .i64 (q : Int), .int .i64 n]] w fun e w' => ∃ s1 nx ad co st, e = .returned (.agg (outCells nx ad co st)) ∧ CorW w' base b rb F ca cn cc rv mv cyc code s1 ∧ DoneS s s1 (exeS s o d a q n) nx ad co st ∧ Keeps F w w' := by
  have hd' : (d : Int) < 32 := by omega
  have ha' : (a : Int) < 32 := by omega
  have H0 := Lib.hid h
  have HD := Lib.hid (And.intro hd (And.intro ha hq))
  have HW := Lib.hid hw
  have HST := Lib.hid hst
  have HLL := Lib.hid hL
  have HP := Lib.hid hp
  obtain ⟨pc, hpc⟩ : ∃ pc, s.pc = pc := ⟨_, rfl⟩
  rw [hpc] at hp
  obtain ⟨x, hx⟩ : ∃ x, s.reg a = x := ⟨_, rfl⟩
  obtain ⟨z, hz⟩ : ∃ z, s.reg d = z := ⟨_, rfl⟩
  have hxw := hw a
  have hzw := hw d
  rw [hx] at hxw
  rw [hz] at hzw
  have hco := acost_C o x
  obtain ⟨cst, hc⟩ : ∃ c, wCostA o x = c := ⟨_, rfl⟩
  have HCo := Lib.hid (fun w (h : CostsLaid w) => hc ▸ acost_C o x w hxw.1 hxw.2 h)
  obtain ⟨x0, x1⟩ := hxw
  obtain ⟨z0, z1⟩ := hzw
  obtain ⟨p0, p1⟩ := hp
  obtain ⟨t, ht⟩ : ∃ t, exeS s o d a q n = t := ⟨_, rfl⟩
  rw [ht]
  have HPC := Lib.hid hpc
  have HX := Lib.hid hx
  have HZ := Lib.hid hz
  have HC := Lib.hid hc
  have HT := Lib.hid ht
  have HO := Lib.hid ho
  have HN := Lib.hid (And.intro n0 n1)
  have ep : IntKind.i64.wrap (pc + 1) = pc + 1 := by simp [IntKind.wrap, IntKind.bits, IntKind.signed]; omega
  have HNI := Lib.hid (show ¬ F w.heap.size ∧ ¬ F (w.heap.size + 1) from ⟨fun f => by have := (h.fF _ f).2; omega, fun f => by have := (h.fF _ f).2; omega⟩)
  clear h hst ho hd ha hq hw hL hpc hx hz hco hc ht
  go_enter Tryz.func60, Tryz.ntmps60
  go_upto_region 1 with (fail)
  generalize hW : World.alloc (World.alloc w _) _ = W
  obtain ⟨hI, hR, hB⟩ := two_new hW
  clear hW
  have HI := Lib.hid hI
  have HRB := Lib.hid hR
  have HB := Lib.hid hB
  have HR := Lib.hid (H0.out.keep hB)
  have i1 := hI.cell 1
  have i2 := hI.cell 2
  have ra := HX.out ▸ HR.out.creg HD.out.2.1
  have rd := HZ.out ▸ HR.out.creg HD.out.1
  clear hI hR hB
  go_quiet (fail)
  clear i1 i2 ra rd
  go_upto_region 2 with (fail)
  generalize hW1 : World.drewN W _ = W1
  have HB1 := Lib.hid (show Below W.heap.size W W1 from hW1 ▸ below_drewN (Below.refl _ _) _)
  clear hW1
  have HR1 := Lib.hid (HR.out.keep HB1.out)
  have HI1 := Lib.hid (HI.out.keep HB1.out)
  have i0 := HI1.out.cell 0
  have c34 := HPC.out ▸ HR1.out.cpc.2.2.1
  go_cut [7] (fun s7 wx => OutNew W1 s7 (pc + 1) (-1) cst 0 wx)
  case first =>
    have HA := Lib.hid (fun o => (Below.refl W1.heap.size W1).alloc (Nat.le_refl _) o)
    have g0 := fun o => ((HA.out o).cell (p := ⟨w.heap.size, 0, none⟩) (cell_lt i0)).trans i0
    have g34 := fun o => ((HA.out o).cell (p := ⟨b, 34, none⟩) (cell_lt c34)).trans c34
    have HC1 := Lib.hid (show CostsLaid W1.drew from (HR1.out.tabs.keep ((Below.refl _ _).drew)).costs)
    have HC2 := Lib.hid (fun o => show CostsLaid (W1.alloc o).drew from (HR1.out.tabs.keep ((HA.out o).drew)).costs)
    go_region_law (first
      | (go_simp; go_at_call 73; ((with_reducible refine (HCo.out _ HC1.out).mono ?_); rintro e w3 ⟨rfl, rfl⟩))
      | (go_simp; go_at_call 73; ((with_reducible refine (HCo.out _ (HC2.out _)).mono ?_); rintro e w3 ⟨rfl, rfl⟩)))
    all_goals (go_wp2_with fail; go_meet)
    all_goals exact ⟨_, rfl, (BlkAt.new _ _ _).keep ((Below.refl _ _).drew), Nat.le_refl _, ((Below.refl _ _).alloc (Nat.le_refl _) _).drew⟩
  case rest =>
    obtain ⟨ob, rfl, hob, hobW, hk⟩ := hcut
    clear ep
    have HO2 := Lib.hid hob
    have HK2 := Lib.hid hk
    have HR2 := Lib.hid (HR1.out.keep hk)
    have HI2 := Lib.hid (HI1.out.keep hk)
    have HRB2 := Lib.hid (HRB.out.keep (HB1.out.trans (hk.mono HB1.out.size)))
    have HFO := Lib.hid (show ¬ F ob ∧ base ≤ ob ∧ ob ≠ w.heap.size ∧ ob ≠ w.heap.size + 1 ∧ w.heap.size < ob from by
      have h1 := HI1.out.lt
      have h2 := (HRB.out.keep HB1.out).lt
      refine ⟨fun f => by have := (HR1.out.fF ob f).2; omega, Nat.le_trans (HR1.out.fF b HR1.out.fb).1 (Nat.le_trans (Nat.le_of_lt (HR1.out.fF b HR1.out.fb).2) hobW), by omega, by omega, by omega⟩)
    have k0 := HI2.out.cell 0
    have k1 := HI2.out.cell 1
    have k2 := HI2.out.cell 2
    have k3 := HI2.out.cell 3
    have k4 := HI2.out.cell 4
    have q0 := HO2.out.cell 0
    have q1 := HO2.out.cell 1
    have q2 := HO2.out.cell 2
    have q3 := HO2.out.cell 3
    have qf := BlkAt.free HO2.out
    have c34 := HPC.out ▸ HR2.out.cpc.2.2.1
    clear i0 hob hobW hk
    go_upto_block 0 with (fail)
    go_cut [] from 34 to 116 (fun wx => ∃ s1 nx ad co st, CorW wx base b rb F ca cn cc rv mv cyc code s1 ∧ BlkAt ob 135 (outCells nx ad co st) wx ∧ DoneS s s1 t nx ad co st ∧ Keeps (fun j => F j ∨ j = ob) wc wx)
    case first =>
      rcases (show o ≤ 30 ∨ o = 31 ∨ o = 32 ∨ o = 33 ∨ o = 34 ∨ o = 35 ∨ o = 36 ∨ o = 37 ∨ o = 38 ∨ o = 39 ∨ o = 40 ∨ o = 41 ∨ o = 42 ∨ o = 43 by have := HO.out; omega) with h30 | rfl | rfl | rfl | rfl | rfl | rfl | rfl | rfl | rfl | rfl | rfl | rfl | rfl
      · have HCB := Lib.hid (show 1 ≤ cst ∧ cst ≤ 34 from HC.out ▸ HX.out ▸ wCostA_bd HO.out.1 h30 (HW.out a))
        have e31 : (o == 31) = false := by simpa using (show o ≠ 31 by omega)
        have e32 : (o == 32) = false := by simpa using (show o ≠ 32 by omega)
        have e33 : (o == 33) = false := by simpa using (show o ≠ 33 by omega)
        have e34 : (o == 34) = false := by simpa using (show o ≠ 34 by omega)
        have e35 : (o == 35) = false := by simpa using (show o ≠ 35 by omega)
        have e36 : (o == 36) = false := by simpa using (show o ≠ 36 by omega)
        have e37 : (o == 37) = false := by simpa using (show o ≠ 37 by omega)
        have e38 : (o == 38) = false := by simpa using (show o ≠ 38 by omega)
        have e39 : (o == 39) = false := by simpa using (show o ≠ 39 by omega)
        have e40 : (o == 40) = false := by simpa using (show o ≠ 40 by omega)
        have e41 : (o == 41) = false := by simpa using (show o ≠ 41 by omega)
        have e42 : (o == 42) = false := by simpa using (show o ≠ 42 by omega)
        have e43 : (o == 43) = false := by simpa using (show o ≠ 43 by omega)
        go_wp2_with (go_at_call 77; ((with_reducible refine (corReckon_is o d a q n (pc + 1) cst ob HR2.out HO2.out HFO.out.1 HFO.out.2.1 HD.out.1 HD.out.2.1 HD.out.2.2 (HW.out a) (HW.out q)).mono ?_); rintro e w5 ⟨rfl, hr, ho, hk⟩); have HR5 := Lib.hid hr; have HK5 := Lib.hid hk; have HO5 := Lib.hid ho; clear hr hk ho)
        go_meet
        refine ⟨_, _, _, _, _, HR5.out, HO5.out, ?_, HK5.out⟩
        rw [← HT.out, exe_lo h30]
        by_cases hk : wDoes o (s.reg q) = true
        · rw [if_pos hk, if_pos hk]
          unfold rckS
          rw [if_pos hk]
          exact DoneS.on rfl rfl HST.out (by rw [HPC.out, HX.out, HC.out]) HCB.out
        · rw [if_neg hk, if_neg hk]
          unfold rckS
          rw [if_neg hk]
          exact ⟨rfl, rfl, .inr ⟨.inr rfl, rfl⟩⟩
      · have HCC := Lib.hid (show cst = 1 from HC.out.symm.trans (by simp [wCostA, wCost]))
        go_wp2_with (go_at_call 74; ((with_reducible refine (corPut_is d (wrap32 (x + n)) HR2.out HD.out.1).mono ?_); rintro e w5 ⟨rfl, hr, hk⟩); have HR5 := Lib.hid hr; have HK5 := Lib.hid (show Keeps F wc w5 from hk.mono fun j _ e => e ▸ HR2.out.fb); have HO5 := Lib.hid (HO2.out.kept hk fun e => HFO.out.1 (e ▸ HR2.out.fb)); clear hr hk)
        go_meet
        refine ⟨_, _, _, _, _, HR5.out, HO5.out, DoneS.on rfl rfl HST.out ?_ (by rw [HCC.out]; decide), HK5.out.mono fun j _ f => .inl f⟩
        rw [← HT.out, exe_31, HX.out, HPC.out, HCC.out]
      · have HCC := Lib.hid (show cst = 1 from HC.out.symm.trans (by simp [wCostA, wCost]))
        go_wp2_with (go_at_call 74; ((with_reducible refine (corPut_is d (bits BinOp.or IntKind.i32 x n) HR2.out HD.out.1).mono ?_); rintro e w5 ⟨rfl, hr, hk⟩); have HR5 := Lib.hid hr; have HK5 := Lib.hid (show Keeps F wc w5 from hk.mono fun j _ e => e ▸ HR2.out.fb); have HO5 := Lib.hid (HO2.out.kept hk fun e => HFO.out.1 (e ▸ HR2.out.fb)); clear hr hk)
        go_meet
        refine ⟨_, _, _, _, _, HR5.out, HO5.out, DoneS.on rfl rfl HST.out ?_ (by rw [HCC.out]; decide), HK5.out.mono fun j _ f => .inl f⟩
        rw [← HT.out, exe_32, bits_i32_or, HX.out, HPC.out, HCC.out]
        rfl
      · have HCC := Lib.hid (show cst = 1 from HC.out.symm.trans (by simp [wCostA, wCost]))
        go_wp2_with (go_at_call 74; ((with_reducible refine (corPut_is d (wrap32 (n * 65536)) HR2.out HD.out.1).mono ?_); rintro e w5 ⟨rfl, hr, hk⟩); have HR5 := Lib.hid hr; have HK5 := Lib.hid (show Keeps F wc w5 from hk.mono fun j _ e => e ▸ HR2.out.fb); have HO5 := Lib.hid (HO2.out.kept hk fun e => HFO.out.1 (e ▸ HR2.out.fb)); clear hr hk)
        go_meet
        refine ⟨_, _, _, _, _, HR5.out, HO5.out, DoneS.on rfl rfl HST.out ?_ (by rw [HCC.out]; decide), HK5.out.mono fun j _ f => .inl f⟩
        rw [← HT.out, exe_33, HPC.out, HCC.out]
      · have HCC := Lib.hid (show cst = 2 from HC.out.symm.trans (by simp [wCostA, wCost]))
        have HO3 := Lib.hid (show BlkAt ob 135 (outCells (pc + 1) (-1) 2 0) wc from HCC.out ▸ HO2.out)
        go_wp2_with (go_at_call 75; ((with_reducible refine (corAsk_is 34 d a q n (pc + 1) ob HR2.out HO3.out HFO.out.1 HFO.out.2.1 (by decide) HD.out.1 HD.out.2.1 (HW.out a) n0 n1 HLL.out).mono ?_); rintro e w5 ⟨rfl, hr, ho, hk⟩); have HR5 := Lib.hid hr; have HK5 := Lib.hid hk; have HO5 := Lib.hid ho; clear hr hk ho)
        go_meet
        refine ⟨_, _, _, _, _, HR5.out, HO5.out, ?_, HK5.out⟩
        rw [← HT.out, exe_34]
        by_cases hk : ldB s.ram (adrS s a n) = true
        · rw [if_pos hk, if_pos hk]
          unfold askS
          rw [if_pos hk, if_pos rfl]
          exact DoneS.on rfl rfl HST.out (by rw [HPC.out]) (bank_bd _)
        · rw [if_neg hk, if_neg hk]
          unfold askS
          rw [if_neg hk]
          exact ⟨rfl, rfl, .inr ⟨.inl rfl, rfl⟩⟩
      · have HCC := Lib.hid (show cst = 2 from HC.out.symm.trans (by simp [wCostA, wCost]))
        have HO3 := Lib.hid (show BlkAt ob 135 (outCells (pc + 1) (-1) 2 0) wc from HCC.out ▸ HO2.out)
        go_wp2_with (go_at_call 75; ((with_reducible refine (corAsk_is 35 d a q n (pc + 1) ob HR2.out HO3.out HFO.out.1 HFO.out.2.1 (by decide) HD.out.1 HD.out.2.1 (HW.out a) n0 n1 HLL.out).mono ?_); rintro e w5 ⟨rfl, hr, ho, hk⟩); have HR5 := Lib.hid hr; have HK5 := Lib.hid hk; have HO5 := Lib.hid ho; clear hr hk ho)
        go_meet
        refine ⟨_, _, _, _, _, HR5.out, HO5.out, ?_, HK5.out⟩
        rw [← HT.out, exe_35]
        by_cases hk : ldB s.ram (adrS s a n) = true
        · rw [if_pos hk, if_pos hk]
          unfold askS
          rw [if_pos hk, if_neg (by decide)]
          exact DoneS.on rfl rfl HST.out (by rw [HPC.out]) (bank_bd _)
        · rw [if_neg hk, if_neg hk]
          unfold askS
          rw [if_neg hk]
          exact ⟨rfl, rfl, .inr ⟨.inl rfl, rfl⟩⟩
      · have HCC := Lib.hid (show cst = 1 from HC.out.symm.trans (by simp [wCostA, wCost]))
        obtain ⟨k, hk⟩ : ∃ k, goS s 36 d a = k := ⟨_, rfl⟩
        have HE := Lib.hid (show t = if k = true then s.mark n (-1) 3 else s.mark (s.pc + 1) (-1) 1 from by rw [← HT.out, exe_br (by decide) (by decide), hk])
        unfold goS at hk
        rw [HZ.out, HX.out] at hk
        have HG := Lib.hid hk
        clear hk
        cases k with
        | false =>
          have HE2 := Lib.hid (HE.out.trans (if_neg (by decide)))
          clear HE
          go_wp2_with (go_at_call 76; ((with_reducible refine (corBranches_is (by decide) HG.out).mono ?_); rintro e w5 ⟨rfl, rfl⟩))
          go_meet
          exact ⟨_, _, _, _, _, HR2.out, HO2.out, DoneS.on rfl rfl HST.out (by rw [HE2.out, HPC.out, HCC.out]) (by rw [HCC.out]; decide), Keeps.refl _ _⟩
        | true =>
          have HE2 := Lib.hid (HE.out.trans (if_pos rfl))
          clear HE
          go_wp2_with (go_at_call 76; ((with_reducible refine (corBranches_is (by decide) HG.out).mono ?_); rintro e w5 ⟨rfl, rfl⟩))
          go_meet
          obtain ⟨h1, m1⟩ := out_set HO2.out 0 n (c := outCells n (-1) cst 0) rfl rfl
          obtain ⟨h2, m2⟩ := out_set h1 2 3 (c := outCells n (-1) 3 0) rfl rfl
          exact ⟨_, _, _, _, _, HR2.out.kept (m1.trans m2) (fun j e => e ▸ HFO.out.2.1) fun j f e => HFO.out.1 (e ▸ f), h2, DoneS.on rfl rfl HST.out HE2.out (by decide), (m1.trans m2).mono fun j _ e => .inr e⟩
      · have HCC := Lib.hid (show cst = 1 from HC.out.symm.trans (by simp [wCostA, wCost]))
        obtain ⟨k, hk⟩ : ∃ k, goS s 37 d a = k := ⟨_, rfl⟩
        have HE := Lib.hid (show t = if k = true then s.mark n (-1) 3 else s.mark (s.pc + 1) (-1) 1 from by rw [← HT.out, exe_br (by decide) (by decide), hk])
        unfold goS at hk
        rw [HZ.out, HX.out] at hk
        have HG := Lib.hid hk
        clear hk
        cases k with
        | false =>
          have HE2 := Lib.hid (HE.out.trans (if_neg (by decide)))
          clear HE
          go_wp2_with (go_at_call 76; ((with_reducible refine (corBranches_is (by decide) HG.out).mono ?_); rintro e w5 ⟨rfl, rfl⟩))
          go_meet
          exact ⟨_, _, _, _, _, HR2.out, HO2.out, DoneS.on rfl rfl HST.out (by rw [HE2.out, HPC.out, HCC.out]) (by rw [HCC.out]; decide), Keeps.refl _ _⟩
        | true =>
          have HE2 := Lib.hid (HE.out.trans (if_pos rfl))
          clear HE
          go_wp2_with (go_at_call 76; ((with_reducible refine (corBranches_is (by decide) HG.out).mono ?_); rintro e w5 ⟨rfl, rfl⟩))
          go_meet
          obtain ⟨h1, m1⟩ := out_set HO2.out 0 n (c := outCells n (-1) cst 0) rfl rfl
          obtain ⟨h2, m2⟩ := out_set h1 2 3 (c := outCells n (-1) 3 0) rfl rfl
          exact ⟨_, _, _, _, _, HR2.out.kept (m1.trans m2) (fun j e => e ▸ HFO.out.2.1) fun j f e => HFO.out.1 (e ▸ f), h2, DoneS.on rfl rfl HST.out HE2.out (by decide), (m1.trans m2).mono fun j _ e => .inr e⟩
      · have HCC := Lib.hid (show cst = 1 from HC.out.symm.trans (by simp [wCostA, wCost]))
        obtain ⟨k, hk⟩ : ∃ k, goS s 38 d a = k := ⟨_, rfl⟩
        have HE := Lib.hid (show t = if k = true then s.mark n (-1) 3 else s.mark (s.pc + 1) (-1) 1 from by rw [← HT.out, exe_br (by decide) (by decide), hk])
        unfold goS at hk
        rw [HZ.out, HX.out] at hk
        have HG := Lib.hid hk
        clear hk
        cases k with
        | false =>
          have HE2 := Lib.hid (HE.out.trans (if_neg (by decide)))
          clear HE
          go_wp2_with (go_at_call 76; ((with_reducible refine (corBranches_is (by decide) HG.out).mono ?_); rintro e w5 ⟨rfl, rfl⟩))
          go_meet
          exact ⟨_, _, _, _, _, HR2.out, HO2.out, DoneS.on rfl rfl HST.out (by rw [HE2.out, HPC.out, HCC.out]) (by rw [HCC.out]; decide), Keeps.refl _ _⟩
        | true =>
          have HE2 := Lib.hid (HE.out.trans (if_pos rfl))
          clear HE
          go_wp2_with (go_at_call 76; ((with_reducible refine (corBranches_is (by decide) HG.out).mono ?_); rintro e w5 ⟨rfl, rfl⟩))
          go_meet
          obtain ⟨h1, m1⟩ := out_set HO2.out 0 n (c := outCells n (-1) cst 0) rfl rfl
          obtain ⟨h2, m2⟩ := out_set h1 2 3 (c := outCells n (-1) 3 0) rfl rfl
          exact ⟨_, _, _, _, _, HR2.out.kept (m1.trans m2) (fun j e => e ▸ HFO.out.2.1) fun j f e => HFO.out.1 (e ▸ f), h2, DoneS.on rfl rfl HST.out HE2.out (by decide), (m1.trans m2).mono fun j _ e => .inr e⟩
      · have HCC := Lib.hid (show cst = 3 from HC.out.symm.trans (by simp [wCostA, wCost]))
        go_wp2_with fail
        go_meet
        obtain ⟨h1, m1⟩ := out_set HO2.out 0 n (c := outCells n (-1) cst 0) rfl rfl
        exact ⟨_, _, _, _, _, HR2.out.kept m1 (fun j e => e ▸ HFO.out.2.1) fun j f e => HFO.out.1 (e ▸ f), h1, DoneS.on rfl rfl HST.out (by rw [← HT.out, exe_39, HCC.out]) (by rw [HCC.out]; decide), m1.mono fun j _ e => .inr e⟩
      · have HCC := Lib.hid (show cst = 3 from HC.out.symm.trans (by simp [wCostA, wCost]))
        go_wp2_with (go_at_call 74; ((with_reducible refine (corPut_is d (pc + 1) HR2.out HD.out.1).mono ?_); rintro e w5 ⟨rfl, hr, hk⟩); have HR5 := Lib.hid hr; have HK5 := Lib.hid (show Keeps F wc w5 from hk.mono fun j _ e => e ▸ HR2.out.fb); have HO5 := Lib.hid (HO2.out.kept hk fun e => HFO.out.1 (e ▸ HR2.out.fb)); clear hr hk; have k4 := HK5.out.cell HNI.out.1 k4; have q0 := HO5.out.cell 0; have qf := BlkAt.free HO5.out)
        go_meet
        obtain ⟨h1, m1⟩ := out_set HO5.out 0 n (c := outCells n (-1) cst 0) rfl rfl
        exact ⟨_, _, _, _, _, HR5.out.kept m1 (fun j e => e ▸ HFO.out.2.1) fun j f e => HFO.out.1 (e ▸ f), h1, DoneS.on rfl rfl HST.out (by rw [← HT.out, exe_40, HPC.out, HCC.out, show wrap32 (pc + 1) = pc + 1 by unfold wrap32; omega]) (by rw [HCC.out]; decide), (HK5.out.mono fun j _ f => .inl f).trans (m1.mono fun j _ e => .inr e)⟩
      · have HCC := Lib.hid (show cst = 3 from HC.out.symm.trans (by simp [wCostA, wCost]))
        go_wp2_with fail
        go_meet
        obtain ⟨h1, m1⟩ := out_set HO2.out 0 x (c := outCells x (-1) cst 0) rfl rfl
        exact ⟨_, _, _, _, _, HR2.out.kept m1 (fun j e => e ▸ HFO.out.2.1) fun j f e => HFO.out.1 (e ▸ f), h1, DoneS.on rfl rfl HST.out (by rw [← HT.out, exe_41, HX.out, HCC.out]) (by rw [HCC.out]; decide), m1.mono fun j _ e => .inr e⟩
      · have HCC := Lib.hid (show cst = 1 from HC.out.symm.trans (by simp [wCostA, wCost]))
        go_wp2_with fail
        go_meet
        exact ⟨_, _, _, _, _, HR2.out, HO2.out, DoneS.on rfl rfl HST.out (by rw [← HT.out, exe_42, HPC.out, HCC.out]) (by rw [HCC.out]; decide), Keeps.refl _ _⟩
      · have HCC := Lib.hid (show cst = 1 from HC.out.symm.trans (by simp [wCostA, wCost]))
        go_wp2_with fail
        go_meet
        obtain ⟨h1, m1⟩ := out_set HO2.out 0 pc (c := outCells pc (-1) cst 0) rfl rfl
        obtain ⟨h2, m2⟩ := out_set h1 3 1 (c := outCells pc (-1) cst 1) rfl rfl
        exact ⟨_, _, _, _, _, HR2.out.kept (m1.trans m2) (fun j e => e ▸ HFO.out.2.1) fun j f e => HFO.out.1 (e ▸ f), h2, ⟨rfl, rfl, .inl ⟨.inr rfl, by rw [← HT.out, exe_43, HPC.out, HCC.out], by rw [HCC.out]; decide⟩⟩, (m1.trans m2).mono fun j _ e => .inr e⟩
    case rest =>
      obtain ⟨s1, nx, ad, co, st, hR3, hO3, hD3, hK3⟩ := hcut
      have HR3 := Lib.hid hR3
      have HD3 := Lib.hid hD3
      have HK3 := Lib.hid hK3
      have HRB3 := Lib.hid (HRB2.out.kept hK3 fun e => e.elim HNI.out.2 fun e => HFO.out.2.2.2.1 e.symm)
      have b0 := hO3.cell 0
      have b1 := hO3.cell 1
      have b2 := hO3.cell 2
      have b3 := hO3.cell 3
      have r0 := HRB3.out.cell 0
      have r1 := HRB3.out.cell 1
      have r2 := HRB3.out.cell 2
      have r3 := HRB3.out.cell 3
      have rf := BlkAt.free HRB3.out
      clear hR3 hO3 hD3 hK3 k0 k1 k2 k3 k4 q0 q1 q2 q3 qf c34
      go_wp2
      generalize hW9 : World.setCell (World.setCell (World.setCell (World.setCell wc _ _) _ _) _ _) _ _ = W9
      have k9 : Keeps (fun j => j = w.heap.size + 1) wc W9 := hW9 ▸ (((Keeps.set1 _ _ _ _).trans (Keeps.set1 _ _ _ _)).trans (Keeps.set1 _ _ _ _)).trans (Keeps.set1 _ _ _ _)
      have h9 : BlkAt (w.heap.size + 1) 135 (outCells nx ad co st) W9 := hW9 ▸ ((((HRB3.out.set 0 _).set 1 _).set 2 _).set 3 _).eq (by simp)
      have p0 := h9.cell 0
      have p1 := h9.cell 1
      have p2 := h9.cell 2
      have p3 := h9.cell 3
      clear hW9
      refine bodyPost_ret (v := .agg (outCells nx ad co st)) (by simp [results, Tryz.results60, go_sem, p0, p1, p2, p3]) rfl ⟨_, _, _, _, _, rfl, HR3.out.kept k9 (fun j e => ?_) (fun j f e => HNI.out.2 (e ▸ f)), HD3.out, ?_⟩
      · have h1 := (H0.out.fF b H0.out.fb)
        omega
      · have k3 : Keeps F w wc := (((Keeps.of_below _ HB.out).trans (Keeps.of_below _ HB1.out)).trans (Keeps.of_below _ HK2.out)).next HK3.out fun j hj e => e.elim id fun e => by
          have h1 := HFO.out.2.2.2.2
          omega
        exact k3.next k9 fun j hj e => by omega
end
end Go.Proofs.YtgmphfagflhglaaGreatDoor
