/- The machine in plain numbers: how many marks a run leaves; memory changes just where a store asked. Nothing of any program. -/
import Derived.Test.YtcoicgkpikoibaaGreatDoorCorD
namespace Go.Proofs.YtcoicgkpikoibaaGreatDoor
open Go.RowKit Go.IntWalk

/-- One mark more, or a trap. -/
def Len (s t : Cst) : Prop := (t.st ≤ 1 ∧ t.mks.length = s.mks.length + 1) ∨ (1 < t.st ∧ t.mks.length = s.mks.length)
theorem Len.mark {s u : Cst} (h : s.st = 0) (hs : u.st = s.st) (hm : u.mks = s.mks) (nx ad co : Int) : Len s (u.mark nx ad co) := by
  refine .inl ⟨show u.st ≤ 1 by omega, ?_⟩
  show (u.mks ++ [(u.pc, ad, co)]).length = _
  rw [hm, List.length_append]
  rfl
theorem Len.halt {s : Cst} (nx ad co : Int) : Len s ((s.mark nx ad co).stop 1) := by
  refine .inl ⟨show (1 : Int) ≤ 1 by decide, ?_⟩
  show (s.mks ++ [(s.pc, ad, co)]).length = _
  rw [List.length_append]
  rfl
theorem Len.stop {s : Cst} {k : Int} (h : 1 < k) : Len s (s.stop k) := .inr ⟨h, rfl⟩
set_option maxHeartbeats 4000000 in
theorem exe_len {s : Cst} (h : s.st = 0) (o : Int) (d a q : Nat) (n : Int) : Len s (exeS s o d a q n) := by
  unfold exeS
  repeat' split
  all_goals first
    | (with_reducible refine Len.stop ?_; decide)
    | with_reducible exact Len.halt _ _ _
    | ((with_reducible refine Len.mark h ?_ ?_ _ _ _) <;> rfl)
theorem step_len {code : List Int} {s : Cst} (h : s.st = 0) :
    ((stepS code s).st ≤ 1 ∧ (stepS code s).mks.length = s.mks.length + 1) ∨ (1 < (stepS code s).st ∧ (stepS code s).mks.length = s.mks.length) := by
  unfold stepS
  split
  · split
    · exact exe_len h _ _ _ _ _
    · exact .inr ⟨show (1 : Int) < 3 by decide, rfl⟩
  · exact .inr ⟨show (1 : Int) < 2 by decide, rfl⟩
theorem run_len {code : List Int} : ∀ (n : Nat) {s : Cst}, s.st = 0 → 0 ≤ (runT code n s).st → (runT code n s).mks.length + (if 1 < (runT code n s).st then 1 else 0) = s.mks.length + runN code n s
  | 0, s, h, _ => by
    show s.mks.length + (if 1 < s.st then 1 else 0) = s.mks.length + 0
    rw [if_neg (by omega)]
  | n + 1, s, h, h0 => by
    show (runT code n (stepT code s)).mks.length + _ = s.mks.length + (if s.st = 0 then runN code n (stepT code s) + 1 else 0)
    rw [if_pos h]
    have e : runT code (n + 1) s = runT code n (stepT code s) := rfl
    rw [e] at h0 ⊢
    rw [stepT_on h] at h0 ⊢
    rcases step_len (code := code) h with ⟨h1, h2⟩ | ⟨h1, h2⟩
    · by_cases h3 : (stepS code s).st = 0
      · have := run_len n h3 h0
        omega
      · rw [runT_off h3] at h0 ⊢
        rw [runN_off h3, if_neg (by omega)]
        omega
    · have h3 : (stepS code s).st ≠ 0 := by omega
      rw [runT_off h3, runN_off h3, if_pos h1]
      omega
/-- Did a mark of a store ask the place i? Of the first k marks. -/
def stB (code : List Int) (l : List Mk) (i : Nat) : Nat → Bool
  | 0 => false
  | k + 1 => stB code l i k || (((mkAt l k).2.1 == (i : Int)) && (byAt code (mkAt l k).1.toNat / 67108864 == 35))
theorem stB_of {code : List Int} {l : List Mk} {i k : Nat} (h : (mkAt l k).2.1 = (i : Int)) (h2 : byAt code (mkAt l k).1.toNat / 67108864 = 35) : ∀ {n : Nat}, k < n → stB code l i n = true
  | 0, hn => absurd hn (Nat.not_lt_zero _)
  | n + 1, hn => by
    unfold stB
    by_cases e : k = n
    · subst e
      rw [h, h2]
      simp
    · rw [stB_of h h2 (by omega)]
      rfl
/-- What was not stored is as it was. -/
def Kept (code data : List Int) (s : Cst) : Prop := ∀ i, i < s.ram.length → (∃ k, k < s.mks.length ∧ (mkAt s.mks k).2.1 = (i : Int) ∧ byAt code (mkAt s.mks k).1.toNat / 67108864 = 35) ∨ byAt s.ram i = byAt data i
theorem Kept.put {code data : List Int} {s : Cst} (h : Kept code data s) (d : Nat) (x : Int) : Kept code data (s.put d x) := h
theorem Kept.stop {code data : List Int} {s : Cst} (h : Kept code data s) (k : Int) : Kept code data (s.stop k) := h
theorem Kept.mark {code data : List Int} {s : Cst} (h : Kept code data s) (nx ad co : Int) : Kept code data (s.mark nx ad co) := fun i hi => (h i hi).imp (fun ⟨k, hk, e1, e2⟩ => by
  have hl : (s.mark nx ad co).mks = s.mks ++ [(s.pc, ad, co)] := rfl
  refine ⟨k, by rw [hl, List.length_append]; omega, ?_, ?_⟩
  · rw [hl, mkAt_old hk]; exact e1
  · rw [hl, mkAt_old hk]; exact e2) id
theorem Kept.store {code data : List Int} {s : Cst} (h : Kept code data s) (x u nx co : Int) (h35 : byAt code s.pc.toNat / 67108864 = 35) : Kept code data ((s.hold (stL s.ram x u)).mark nx x co) := fun i hi => by
  have hl : ((s.hold (stL s.ram x u)).mark nx x co).mks = s.mks ++ [(s.pc, x, co)] := rfl
  have hr : ((s.hold (stL s.ram x u)).mark nx x co).ram = stL s.ram x u := rfl
  rw [hr, stL_len] at hi
  rw [hl, hr, byAt_stL]
  by_cases e : x = i
  · refine .inl ⟨s.mks.length, by simp, ?_, ?_⟩
    · rw [mkAt_new]; exact e
    · rw [mkAt_new]; exact h35
  · rw [if_neg (fun q => e q.1)]
    refine (h i hi).imp (fun ⟨k, hk, e1, e2⟩ => ⟨k, by rw [List.length_append]; omega, ?_, ?_⟩) id
    · rw [mkAt_old hk]; exact e1
    · rw [mkAt_old hk]; exact e2
set_option maxHeartbeats 4000000 in
theorem Kept.step {code data : List Int} {s : Cst} (h : Kept code data s) : Kept code data (stepT code s) := by
  unfold stepT stepS
  split
  · split
    · rename_i hp
      split
      · rename_i he
        have ho := (dec_bd he).2.2.2.2.2
        generalize (cG (byAt code s.pc.toNat) 0).toNat = d
        generalize (cG (byAt code s.pc.toNat) 1).toNat = a
        generalize (cG (byAt code s.pc.toNat) 2).toNat = q
        generalize cG (byAt code s.pc.toNat) 3 = n
        generalize cO (byAt code s.pc.toNat) = o at ho
        unfold exeS
        repeat' split
        all_goals first
          | with_reducible exact Kept.mark (Kept.put h _ _) _ _ _
          | with_reducible exact Kept.stop h _
          | with_reducible exact Kept.stop (Kept.mark h _ _ _) _
          | with_reducible exact Kept.mark h _ _ _
          | with_reducible exact Kept.store h _ _ _ _ (by omega)
      · exact h.stop _
    · exact h.stop _
  · exact h
theorem Kept.run {code data : List Int} : ∀ (n : Nat) {s : Cst}, Kept code data s → Kept code data (runT code n s)
  | 0, _, h => h
  | n + 1, _, h => Kept.run n h.step
theorem kept_begin (code data : List Int) : Kept code data (beginS data) := fun _ _ => .inr rfl
end Go.Proofs.YtcoicgkpikoibaaGreatDoor
