/- The machine in plain numbers: what a step makes of it, what a run is, what stays so. -/
import Derived.Test.YtgmphfagflhglaaGreatDoorMem
import Derived.Test.YtgmphfagflhglaaGreatDoorCodD
import Derived.Test.YtgmphfagflhglaaGreatDoorAluL
namespace Go.Proofs.YtgmphfagflhglaaGreatDoor
open Go.RowKit Go.IntWalk

/-- A machine: where it stands, its state, its registers, its memory, its marks. -/
structure Cst where
  pc : Int
  st : Int
  reg : Nat → Int
  ram : List Int
  mks : List Mk
def Cst.put (s : Cst) (d : Nat) (x : Int) : Cst := { s with reg := if d = 0 then s.reg else upd s.reg d x }
def Cst.mark (s : Cst) (next addr cost : Int) : Cst := { s with pc := next, mks := s.mks ++ [(s.pc, addr, cost)] }
def Cst.stop (s : Cst) (k : Int) : Cst := { s with st := k }
def Cst.hold (s : Cst) (l : List Int) : Cst := { s with ram := l }
/-- The place that a load or a store asks; what it costs there. -/
def adrS (s : Cst) (a : Nat) (n : Int) : Int := wrap32 (s.reg a + n)
def bankS (x : Int) : Int := if 1024 ≤ x then 3 else 2
/-- Does a branch go? -/
def goS (s : Cst) (o : Int) (d a : Nat) : Bool := (decide (o = 36) && decide (s.reg d = s.reg a)) || (decide (o = 37) && decide (s.reg d ≠ s.reg a)) || (decide (o = 38) && decide (s.reg d < s.reg a))
/-- What an instruction does. -/
def exeS (s : Cst) (o : Int) (d a b : Nat) (n : Int) : Cst :=
  if o ≤ 30 then (if wDoes o (s.reg b) = true then (s.put d (wDo o (s.reg a) (s.reg b))).mark (s.pc + 1) (-1) (wCostA o (s.reg a)) else s.stop 5)
  else if o = 31 then (s.put d (wrap32 (s.reg a + n))).mark (s.pc + 1) (-1) 1
  else if o = 32 then (s.put d (wOr (s.reg a) n)).mark (s.pc + 1) (-1) 1
  else if o = 33 then (s.put d (wrap32 (n * 65536))).mark (s.pc + 1) (-1) 1
  else if o = 34 then (if ldB s.ram (adrS s a n) = true then (s.put d (ldV s.ram (adrS s a n))).mark (s.pc + 1) (adrS s a n) (bankS (adrS s a n)) else s.stop 4)
  else if o = 35 then (if ldB s.ram (adrS s a n) = true then (s.hold (stL s.ram (adrS s a n) (s.reg d))).mark (s.pc + 1) (adrS s a n) (bankS (adrS s a n)) else s.stop 4)
  else if o ≤ 38 then (if goS s o d a = true then s.mark n (-1) 3 else s.mark (s.pc + 1) (-1) 1)
  else if o = 39 then s.mark n (-1) 3
  else if o = 40 then (s.put d (wrap32 (s.pc + 1))).mark n (-1) 3
  else if o = 41 then s.mark (s.reg a) (-1) 3
  else if o = 42 then s.mark (s.pc + 1) (-1) 1
  else (s.mark s.pc (-1) 1).stop 1
/-- What an instruction does, one by one. -/
theorem exe_lo {s : Cst} {o : Int} {d a b : Nat} {n : Int} (h : o ≤ 30) : exeS s o d a b n = if wDoes o (s.reg b) = true then (s.put d (wDo o (s.reg a) (s.reg b))).mark (s.pc + 1) (-1) (wCostA o (s.reg a)) else s.stop 5 := by
  unfold exeS; rw [if_pos h]
theorem exe_31 (s : Cst) (d a b : Nat) (n : Int) : exeS s 31 d a b n = (s.put d (wrap32 (s.reg a + n))).mark (s.pc + 1) (-1) 1 := by
  unfold exeS; rw [if_neg (by decide), if_pos rfl]
theorem exe_32 (s : Cst) (d a b : Nat) (n : Int) : exeS s 32 d a b n = (s.put d (wOr (s.reg a) n)).mark (s.pc + 1) (-1) 1 := by
  unfold exeS; rw [if_neg (by decide), if_neg (by decide), if_pos rfl]
theorem exe_33 (s : Cst) (d a b : Nat) (n : Int) : exeS s 33 d a b n = (s.put d (wrap32 (n * 65536))).mark (s.pc + 1) (-1) 1 := by
  unfold exeS; rw [if_neg (by decide), if_neg (by decide), if_neg (by decide), if_pos rfl]
theorem exe_34 (s : Cst) (d a b : Nat) (n : Int) : exeS s 34 d a b n = if ldB s.ram (adrS s a n) = true then (s.put d (ldV s.ram (adrS s a n))).mark (s.pc + 1) (adrS s a n) (bankS (adrS s a n)) else s.stop 4 := by
  unfold exeS; rw [if_neg (by decide), if_neg (by decide), if_neg (by decide), if_neg (by decide), if_pos rfl]
theorem exe_35 (s : Cst) (d a b : Nat) (n : Int) : exeS s 35 d a b n = if ldB s.ram (adrS s a n) = true then (s.hold (stL s.ram (adrS s a n) (s.reg d))).mark (s.pc + 1) (adrS s a n) (bankS (adrS s a n)) else s.stop 4 := by
  unfold exeS; rw [if_neg (by decide), if_neg (by decide), if_neg (by decide), if_neg (by decide), if_neg (by decide), if_pos rfl]
theorem exe_br {s : Cst} {o : Int} {d a b : Nat} {n : Int} (h1 : 36 ≤ o) (h2 : o ≤ 38) : exeS s o d a b n = if goS s o d a = true then s.mark n (-1) 3 else s.mark (s.pc + 1) (-1) 1 := by
  unfold exeS; rw [if_neg (by omega), if_neg (by omega), if_neg (by omega), if_neg (by omega), if_neg (by omega), if_neg (by omega), if_pos h2]
theorem exe_39 (s : Cst) (d a b : Nat) (n : Int) : exeS s 39 d a b n = s.mark n (-1) 3 := by
  unfold exeS; rw [if_neg (by decide), if_neg (by decide), if_neg (by decide), if_neg (by decide), if_neg (by decide), if_neg (by decide), if_neg (by decide), if_pos rfl]
theorem exe_40 (s : Cst) (d a b : Nat) (n : Int) : exeS s 40 d a b n = (s.put d (wrap32 (s.pc + 1))).mark n (-1) 3 := by
  unfold exeS; rw [if_neg (by decide), if_neg (by decide), if_neg (by decide), if_neg (by decide), if_neg (by decide), if_neg (by decide), if_neg (by decide), if_neg (by decide), if_pos rfl]
theorem exe_41 (s : Cst) (d a b : Nat) (n : Int) : exeS s 41 d a b n = s.mark (s.reg a) (-1) 3 := by
  unfold exeS; rw [if_neg (by decide), if_neg (by decide), if_neg (by decide), if_neg (by decide), if_neg (by decide), if_neg (by decide), if_neg (by decide), if_neg (by decide), if_neg (by decide), if_pos rfl]
theorem exe_42 (s : Cst) (d a b : Nat) (n : Int) : exeS s 42 d a b n = s.mark (s.pc + 1) (-1) 1 := by
  unfold exeS; rw [if_neg (by decide), if_neg (by decide), if_neg (by decide), if_neg (by decide), if_neg (by decide), if_neg (by decide), if_neg (by decide), if_neg (by decide), if_neg (by decide), if_neg (by decide), if_pos rfl]
theorem exe_43 (s : Cst) (d a b : Nat) (n : Int) : exeS s 43 d a b n = (s.mark s.pc (-1) 1).stop 1 := by
  unfold exeS; rw [if_neg (by decide), if_neg (by decide), if_neg (by decide), if_neg (by decide), if_neg (by decide), if_neg (by decide), if_neg (by decide), if_neg (by decide), if_neg (by decide), if_neg (by decide), if_neg (by decide)]
theorem go_36 (s : Cst) (d a : Nat) : goS s 36 d a = decide (s.reg d = s.reg a) := by simp [goS]
theorem go_37 (s : Cst) (d a : Nat) : goS s 37 d a = decide (s.reg d ≠ s.reg a) := by simp [goS]
theorem go_38 (s : Cst) (d a : Nat) : goS s 38 d a = decide (s.reg d < s.reg a) := by simp [goS]
/-- A step. -/
def stepS (code : List Int) (s : Cst) : Cst :=
  if 0 ≤ s.pc ∧ s.pc < code.length then
    (if cErr (byAt code s.pc.toNat) = 0 then exeS s (cO (byAt code s.pc.toNat)) (cG (byAt code s.pc.toNat) 0).toNat (cG (byAt code s.pc.toNat) 1).toNat (cG (byAt code s.pc.toNat) 2).toNat (cG (byAt code s.pc.toNat) 3) else s.stop 3)
  else s.stop 2
theorem step_no {code : List Int} {s : Cst} (h : ¬ (0 ≤ s.pc ∧ s.pc < code.length)) : stepS code s = s.stop 2 := by unfold stepS; rw [if_neg h]
theorem step_bad {code : List Int} {s : Cst} {v : Int} (h : 0 ≤ s.pc ∧ s.pc < code.length) (hv : byAt code s.pc.toNat = v) (e : cErr v ≠ 0) : stepS code s = s.stop 3 := by
  unfold stepS; rw [if_pos h, hv, if_neg e]
theorem step_do {code : List Int} {s : Cst} {v o n : Int} {d a b : Nat} (h : 0 ≤ s.pc ∧ s.pc < code.length) (hv : byAt code s.pc.toNat = v) (e : cErr v = 0) (ho : cO v = o) (hd : cG v 0 = d) (ha : cG v 1 = a) (hb : cG v 2 = b) (hn : cG v 3 = n) :
    stepS code s = exeS s o d a b n := by
  unfold stepS; rw [if_pos h, hv, if_pos e, ho, hd, ha, hb, hn]; rfl
/-- A step of what runs, and none of what does not; some steps; how many of them are done. -/
def stepT (code : List Int) (s : Cst) : Cst := if s.st = 0 then stepS code s else s
def runT (code : List Int) : Nat → Cst → Cst
  | 0, s => s
  | n + 1, s => runT code n (stepT code s)
def runN (code : List Int) : Nat → Cst → Nat
  | 0, _ => 0
  | n + 1, s => if s.st = 0 then runN code n (stepT code s) + 1 else 0
theorem stepT_on {code : List Int} {s : Cst} (h : s.st = 0) : stepT code s = stepS code s := by unfold stepT; rw [if_pos h]
theorem stepT_off {code : List Int} {s : Cst} (h : s.st ≠ 0) : stepT code s = s := by unfold stepT; rw [if_neg h]
theorem runT_off {code : List Int} {s : Cst} (h : s.st ≠ 0) : ∀ n, runT code n s = s
  | 0 => rfl
  | n + 1 => by unfold runT; rw [stepT_off h]; exact runT_off h n
theorem runN_off {code : List Int} {s : Cst} (h : s.st ≠ 0) : ∀ n, runN code n s = 0
  | 0 => rfl
  | n + 1 => by unfold runN; rw [if_neg h]
theorem runT_add (code : List Int) (m : Nat) : ∀ (n : Nat) (s : Cst), runT code (n + m) s = runT code m (runT code n s)
  | 0, s => by rw [Nat.zero_add]; rfl
  | n + 1, s => by
    rw [show n + 1 + m = (n + m) + 1 by omega]
    show runT code (n + m) (stepT code s) = runT code m (runT code n (stepT code s))
    exact runT_add code m n _
theorem runN_add (code : List Int) (m : Nat) : ∀ (n : Nat) (s : Cst), runN code (n + m) s = runN code n s + runN code m (runT code n s)
  | 0, s => by simp [runN, runT]
  | n + 1, s => by
    rw [show n + 1 + m = (n + m) + 1 by omega]
    show (if s.st = 0 then runN code (n + m) (stepT code s) + 1 else 0) = (if s.st = 0 then runN code n (stepT code s) + 1 else 0) + runN code m (runT code n (stepT code s))
    by_cases h : s.st = 0
    · rw [if_pos h, if_pos h, runN_add code m n]; omega
    · rw [if_neg h, if_neg h, stepT_off h, runT_off h, runN_off h]
theorem runT_next (code : List Int) (n : Nat) (s : Cst) : runT code (n + 1) s = stepT code (runT code n s) := by rw [runT_add]; rfl
theorem runN_next (code : List Int) (n : Nat) (s : Cst) : runN code (n + 1) s = runN code n s + (if (runT code n s).st = 0 then 1 else 0) := by
  rw [runN_add]; congr 1
theorem runN_le (code : List Int) : ∀ (n : Nat) (s : Cst), runN code n s ≤ n
  | 0, _ => Nat.le_refl _
  | n + 1, s => by
    show (if s.st = 0 then runN code n (stepT code s) + 1 else 0) ≤ n + 1
    split
    · have := runN_le code n (stepT code s); omega
    · omega
/-- What has not stopped was done step for step. -/
theorem runN_all {code : List Int} : ∀ {n : Nat} {s : Cst}, (runT code n s).st = 0 → runN code n s = n
  | 0, _, _ => rfl
  | n + 1, s, h => by
    have hs : s.st = 0 := by
      by_cases h0 : s.st = 0
      · exact h0
      · rw [runT_off h0] at h; exact absurd h h0
    show (if s.st = 0 then runN code n (stepT code s) + 1 else 0) = n + 1
    rw [if_pos hs, runN_all (n := n) (s := stepT code s) h]

/-- A word's bounds. -/
def w32 (x : Int) : Prop := -2147483648 ≤ x ∧ x ≤ 2147483647
theorem w32_wrap (x : Int) : w32 (wrap32 x) := wrap_bd x
theorem wTwo_bd {o a b : Int} (h1 : 1 ≤ o) (h2 : o ≤ 23) (ha : w32 a) (hb : w32 b) : w32 (wTwo o a b) := by
  have q : w32 (wRest a b) := by
    unfold wRest w32 at *
    have hx : (a.tmod b).natAbs ≤ a.natAbs := by rw [Int.natAbs_tmod]; exact Nat.mod_le _ _
    by_cases h0 : 0 ≤ a
    · have := Int.tmod_nonneg b h0; omega
    · have : a.tmod b ≤ 0 := by
        have h3 := Int.tmod_nonneg b (show 0 ≤ -a by omega)
        rw [Int.neg_tmod] at h3
        omega
      omega
  unfold w32 at *
  have e := wMulh_bd ha.1 ha.2 hb.1 hb.2
  rcases (show o = 1 ∨ o = 2 ∨ o = 3 ∨ o = 4 ∨ o = 5 ∨ o = 6 ∨ o = 7 ∨ o = 8 ∨ o = 9 ∨ o = 10 ∨ o = 11 ∨ o = 12 ∨ o = 13 ∨ o = 14 ∨ o = 15 ∨ o = 16 ∨ o = 17 ∨ o = 18 ∨ o = 19 ∨ o = 20 ∨ o = 21 ∨ o = 22 ∨ o = 23 by omega) with
    rfl | rfl | rfl | rfl | rfl | rfl | rfl | rfl | rfl | rfl | rfl | rfl | rfl | rfl | rfl | rfl | rfl | rfl | rfl | rfl | rfl | rfl | rfl
  · exact wrap_bd _
  · exact wrap_bd _
  · exact wCut_bd _
  · exact wCut_bd _
  · exact wAnd_bd _ _
  · exact wOr_bd _ _
  · exact wXor_bd _ _
  · exact wBic_bd _ _
  · exact wShl_bd _ _
  · exact wShr_bd _ _
  · exact wSar_bd _ _
  · exact wRol_bd _ _
  · have := wLess_bd a b; show _ ≤ wLess a b ∧ wLess a b ≤ _; omega
  · have := wUnder_bd a b; show _ ≤ wUnder a b ∧ wUnder a b ≤ _; omega
  · have := wSame_bd a b; show _ ≤ wSame a b ∧ wSame a b ≤ _; omega
  · show _ ≤ wMin a b ∧ wMin a b ≤ _; unfold wMin; split <;> omega
  · show _ ≤ wMax a b ∧ wMax a b ≤ _; unfold wMax; split <;> omega
  · exact wMull_bd _ _
  · exact e
  · exact wMulq_bd _ _
  · exact wMulr_bd _ _
  · exact wQuo_bd _ _
  · exact q
theorem wOne_bd {o a : Int} (h1 : 24 ≤ o) (h2 : o ≤ 30) (ha : w32 a) : w32 (wOne o a) := by
  unfold w32 at *
  rcases (show o = 24 ∨ o = 25 ∨ o = 26 ∨ o = 27 ∨ o = 28 ∨ o = 29 ∨ o = 30 by omega) with rfl | rfl | rfl | rfl | rfl | rfl | rfl
  · have := wClz_bd a; show _ ≤ wClz a ∧ wClz a ≤ _; omega
  · exact wCut_bd _
  · show _ ≤ wAbs a ∧ wAbs a ≤ _; have := wCut_bd (-a); unfold wAbs; split <;> omega
  · have := wMask_bd a; show _ ≤ wMask a ∧ wMask a ≤ _; omega
  · have := wSign_bd a; show _ ≤ wSign a ∧ wSign a ≤ _; omega
  · show _ ≤ wrap16 a ∧ wrap16 a ≤ _; unfold wrap16; omega
  · exact wSar_bd _ _
theorem wDo_bd {o a b : Int} (h1 : 1 ≤ o) (h2 : o ≤ 30) (ha : w32 a) (hb : w32 b) : w32 (wDo o a b) := by
  by_cases h : wDoes o b = true
  · by_cases h3 : o ≤ 23
    · rw [wDo_two h h3]; exact wTwo_bd h1 h3 ha hb
    · rw [wDo_one h (by omega)]; exact wOne_bd (by omega) h2 ha
  · rw [wDo_none (by simpa using h)]; unfold w32; omega
theorem wCostA_bd {o a : Int} (h1 : 1 ≤ o) (h2 : o ≤ 30) (ha : w32 a) : 1 ≤ wCostA o a ∧ wCostA o a ≤ 34 := by
  have hl := wLen_bd ha.1 ha.2
  unfold wCostA wCost
  rw [if_neg (by omega)]
  split
  · rename_i h; rw [if_neg (by omega)]; omega
  · split
    · split <;> omega
    · split <;> omega
theorem bank_bd (x : Int) : 1 ≤ bankS x ∧ bankS x ≤ 34 := by unfold bankS; split <;> decide

/-- What a machine is at each step: code of N words, memory of R. -/
structure Good (N R : Nat) (s : Cst) : Prop where
  pc : w32 s.pc
  st : 0 ≤ s.st ∧ s.st ≤ 5
  reg : ∀ k, w32 (s.reg k)
  r0 : s.reg 0 = 0
  len : s.ram.length = R
  ram : ∀ k, w32 (byAt s.ram k)
  mks : ∀ k, k < s.mks.length → 0 ≤ (mkAt s.mks k).1 ∧ (mkAt s.mks k).1 < N ∧ -1 ≤ (mkAt s.mks k).2.1 ∧ (mkAt s.mks k).2.1 < R ∧ 1 ≤ (mkAt s.mks k).2.2 ∧ (mkAt s.mks k).2.2 ≤ 34
theorem Good.put {N R : Nat} {s : Cst} (h : Good N R s) (d : Nat) {x : Int} (hx : w32 x) : Good N R (s.put d x) := by
  refine ⟨h.pc, h.st, fun k => ?_, ?_, h.len, h.ram, h.mks⟩
  · unfold Cst.put
    by_cases e : d = 0
    · simp only [if_pos e]; exact h.reg k
    · simp only [if_neg e]; unfold upd; split
      · exact hx
      · exact h.reg k
  · unfold Cst.put
    by_cases e : d = 0
    · simp only [if_pos e]; exact h.r0
    · simp only [if_neg e]; unfold upd; rw [if_neg (fun q => e q.symm)]; exact h.r0
theorem mkAt_old {l : List Mk} {m : Mk} {k : Nat} (h : k < l.length) : mkAt (l ++ [m]) k = mkAt l k := by simp [mkAt, List.getD, List.getElem?_append_left h]
theorem mkAt_new (l : List Mk) (m : Mk) : mkAt (l ++ [m]) l.length = m := by simp [mkAt, List.getD]
theorem Good.mark {N R : Nat} {s : Cst} (h : Good N R s) {next addr cost : Int} (hn : w32 next) (h0 : 0 ≤ s.pc) (h1 : s.pc < N) (ha : -1 ≤ addr) (hb : addr < R) (hc : 1 ≤ cost ∧ cost ≤ 34) : Good N R (s.mark next addr cost) := by
  refine ⟨hn, h.st, h.reg, h.r0, h.len, h.ram, fun k hk => ?_⟩
  have hl : (s.mark next addr cost).mks = s.mks ++ [(s.pc, addr, cost)] := rfl
  rw [hl] at hk ⊢
  by_cases hk' : k < s.mks.length
  · rw [mkAt_old hk']; exact h.mks k hk'
  · obtain rfl : k = s.mks.length := by rw [List.length_append, List.length_singleton] at hk; omega
    rw [mkAt_new]; exact ⟨h0, h1, ha, hb, hc⟩
theorem Good.stop {N R : Nat} {s : Cst} (h : Good N R s) {k : Int} (hk : 0 ≤ k ∧ k ≤ 5) : Good N R (s.stop k) := ⟨h.pc, hk, h.reg, h.r0, h.len, h.ram, h.mks⟩
theorem byAt_set (L : List Int) (i : Nat) (u : Int) (k : Nat) : byAt (L.set i u) k = if i = k ∧ k < L.length then u else byAt L k := by
  unfold byAt
  simp only [List.getD_eq_getElem?_getD, List.getElem?_set]
  by_cases e : i = k
  · subst e
    by_cases hk : i < L.length
    · simp [hk]
    · simp [hk]
  · simp [e]
theorem byAt_stL (L : List Int) (x u : Int) (k : Nat) : byAt (stL L x u) k = if x = k ∧ k < L.length then u else byAt L k := by
  unfold stL
  split
  · rename_i h
    rw [byAt_set]
    by_cases e : x = k
    · rw [if_pos ⟨by omega, by omega⟩, if_pos ⟨e, by omega⟩]
    · rw [if_neg (by omega), if_neg (by omega)]
  · rename_i h
    rw [if_neg (by omega)]
theorem Good.hold {N R : Nat} {s : Cst} (h : Good N R s) (x : Int) {u : Int} (hu : w32 u) : Good N R (s.hold (stL s.ram x u)) := by
  refine ⟨h.pc, h.st, h.reg, h.r0, ?_, fun k => ?_, h.mks⟩
  · show (stL s.ram x u).length = R
    rw [stL_len]; exact h.len
  · show w32 (byAt (stL s.ram x u) k)
    rw [byAt_stL]; split
    · exact hu
    · exact h.ram k
theorem ldB_bd {L : List Int} {x : Int} (h : ldB L x = true) : 0 ≤ x ∧ x < L.length := of_decide_eq_true h
theorem ldV_w32 {L : List Int} (h : ∀ k, w32 (byAt L k)) (x : Int) : w32 (ldV L x) := by
  unfold ldV; split
  · exact h _
  · unfold w32; omega
theorem Good.exe {N R : Nat} {s : Cst} (h : Good N R s) (hN : N ≤ 1048576) {o n : Int} (d a b : Nat) (h0 : 0 ≤ s.pc) (h1 : s.pc < N) (o1 : 1 ≤ o) (n0 : -32768 ≤ n) (n1 : n ≤ 65535) : Good N R (exeS s o d a b n) := by
  have hpc : w32 (s.pc + 1) := by unfold w32; omega
  have hn : w32 n := by unfold w32; omega
  have one : (1 : Int) ≤ 1 ∧ (1 : Int) ≤ 34 := by decide
  have three : (1 : Int) ≤ 3 ∧ (3 : Int) ≤ 34 := by decide
  have hR : (-1 : Int) < R := by omega
  unfold exeS
  by_cases c1 : o ≤ 30
  · rw [if_pos c1]
    by_cases c : wDoes o (s.reg b) = true
    · rw [if_pos c]; exact (h.put d (wDo_bd o1 c1 (h.reg a) (h.reg b))).mark hpc h0 h1 (Int.le_refl _) hR (wCostA_bd o1 c1 (h.reg a))
    · rw [if_neg c]; exact h.stop (by decide)
  rw [if_neg c1]
  by_cases c2 : o = 31
  · rw [if_pos c2]; exact (h.put d (w32_wrap _)).mark hpc h0 h1 (Int.le_refl _) hR one
  rw [if_neg c2]
  by_cases c3 : o = 32
  · rw [if_pos c3]; exact (h.put d (wOr_bd _ _)).mark hpc h0 h1 (Int.le_refl _) hR one
  rw [if_neg c3]
  by_cases c4 : o = 33
  · rw [if_pos c4]; exact (h.put d (w32_wrap _)).mark hpc h0 h1 (Int.le_refl _) hR one
  rw [if_neg c4]
  have hq : ldB s.ram (adrS s a n) = true → 0 ≤ adrS s a n ∧ adrS s a n < R := fun c => by
    have q := ldB_bd c
    rw [h.len] at q
    exact q
  by_cases c5 : o = 34
  · rw [if_pos c5]
    by_cases c : ldB s.ram (adrS s a n) = true
    · rw [if_pos c]; exact (h.put d (ldV_w32 h.ram _)).mark hpc h0 h1 (by have := (hq c).1; omega) (hq c).2 (bank_bd _)
    · rw [if_neg c]; exact h.stop (by decide)
  rw [if_neg c5]
  by_cases c6 : o = 35
  · rw [if_pos c6]
    by_cases c : ldB s.ram (adrS s a n) = true
    · rw [if_pos c]; exact (h.hold _ (h.reg d)).mark hpc h0 h1 (by have := (hq c).1; omega) (hq c).2 (bank_bd _)
    · rw [if_neg c]; exact h.stop (by decide)
  rw [if_neg c6]
  by_cases c7 : o ≤ 38
  · rw [if_pos c7]
    by_cases c : goS s o d a = true
    · rw [if_pos c]; exact h.mark hn h0 h1 (Int.le_refl _) hR three
    · rw [if_neg c]; exact h.mark hpc h0 h1 (Int.le_refl _) hR one
  rw [if_neg c7]
  by_cases c8 : o = 39
  · rw [if_pos c8]; exact h.mark hn h0 h1 (Int.le_refl _) hR three
  rw [if_neg c8]
  by_cases c9 : o = 40
  · rw [if_pos c9]; exact (h.put d (w32_wrap _)).mark hn h0 h1 (Int.le_refl _) hR three
  rw [if_neg c9]
  by_cases c10 : o = 41
  · rw [if_pos c10]; exact h.mark (h.reg a) h0 h1 (Int.le_refl _) hR three
  rw [if_neg c10]
  by_cases c11 : o = 42
  · rw [if_pos c11]; exact h.mark hpc h0 h1 (Int.le_refl _) hR one
  rw [if_neg c11]
  exact (h.mark h.pc h0 h1 (Int.le_refl _) hR one).stop (by decide)
/-- What is decoded: an operation, three registers, a number. -/
theorem dec_bd {v : Int} (h : cErr v = 0) : (1 ≤ cO v ∧ cO v ≤ 43) ∧ (0 ≤ cG v 0 ∧ cG v 0 ≤ 31) ∧ (0 ≤ cG v 1 ∧ cG v 1 ≤ 31) ∧ (0 ≤ cG v 2 ∧ cG v 2 ≤ 31) ∧ (-32768 ≤ cG v 3 ∧ cG v 3 ≤ 65535) ∧ cO v = v / 67108864 := by
  obtain ⟨hc, -⟩ := back_word h
  have ho : cO v = v / 67108864 := by unfold cO; rw [if_pos h]
  have hg : ∀ k, cG v k = cF v k := fun k => by unfold cG; rw [if_pos h]
  rw [ho, hg, hg, hg, hg]
  clear ho hg h
  have k := chk_op hc
  obtain ⟨e0, e1, e2, e3⟩ := chk_0 hc
  obtain ⟨_, _, _, _, _, _, _, _, _, hs⟩ := shaped k
  clear hc
  unfold isOp at k
  generalize v / 67108864 = o at *
  generalize shL o 0 = l0 at *
  generalize shL o 1 = l1 at *
  generalize shL o 2 = l2 at *
  generalize shL o 3 = l3 at *
  generalize cF v 0 = d at *
  generalize cF v 1 = a at *
  generalize cF v 2 = b at *
  generalize cF v 3 = n at *
  rcases hs with ⟨_, _, rfl, rfl, rfl, rfl⟩ | ⟨_, _, rfl, rfl, rfl, rfl⟩ | ⟨_, rfl, rfl, rfl, rfl⟩ | ⟨_, rfl, rfl, rfl, rfl⟩ | ⟨_, rfl, rfl, rfl, rfl⟩ | ⟨_, rfl, rfl, rfl, rfl⟩ | ⟨_, rfl, rfl, rfl, rfl⟩ | ⟨_, rfl, rfl, rfl, rfl⟩ <;>
    simp only [fE_r, fE_s, fE_u, fE_n, true_or, or_true, Int.reduceNeg] at e0 e1 e2 e3 <;> omega
theorem Good.step {R : Nat} {code : List Int} {s : Cst} (h : Good code.length R s) (hN : code.length ≤ 1048576) : Good code.length R (stepS code s) := by
  by_cases hp : 0 ≤ s.pc ∧ s.pc < code.length
  · by_cases e : cErr (byAt code s.pc.toNat) = 0
    · obtain ⟨⟨o1, -⟩, -, -, -, ⟨n0, n1⟩, -⟩ := dec_bd e
      unfold stepS
      rw [if_pos hp, if_pos e]
      exact h.exe hN _ _ _ hp.1 hp.2 o1 n0 n1
    · rw [step_bad hp rfl e]; exact h.stop (by decide)
  · rw [step_no hp]; exact h.stop (by decide)
theorem Good.stepT {R : Nat} {code : List Int} {s : Cst} (h : Good code.length R s) (hN : code.length ≤ 1048576) : Good code.length R (stepT code s) := by
  unfold Go.Proofs.YtgmphfagflhglaaGreatDoor.stepT; split
  · exact h.step hN
  · exact h
theorem Good.run {R : Nat} {code : List Int} (hN : code.length ≤ 1048576) : ∀ (n : Nat) {s : Cst}, Good code.length R s → Good code.length R (runT code n s)
  | 0, _, h => h
  | n + 1, _, h => Good.run hN n (h.stepT hN)
/-- As it begins. -/
def beginS (ram : List Int) : Cst := ⟨0, 0, fun _ => 0, ram, []⟩
theorem good_begin {N : Nat} {ram : List Int} (h : ∀ k, w32 (byAt ram k)) : Good N ram.length (beginS ram) :=
  ⟨show w32 0 by unfold w32; decide, show (0 : Int) ≤ 0 ∧ (0 : Int) ≤ 5 by decide, fun _ => show w32 0 by unfold w32; decide, rfl, rfl, h, fun k hk => absurd hk (Nat.not_lt_zero _)⟩
end Go.Proofs.YtgmphfagflhglaaGreatDoor
