/- Runs along ways: where they come, what they have seen, that they end; a run's marks. Of no program. -/
import Derived.Test.YtggiaopdgijgnaaGreatDoorGrdD
import Derived.Test.YtggiaopdgijgnaaGreatDoorCorD
namespace Go.Proofs.YtggiaopdgijgnaaGreatDoor
open Go.RowKit

open Go.RowKit Go.IntWalk

/-- Places one after another, from the first on, along ways: n of them. -/
structure Along (l : List Int) (n : Nat) (f : Nat → Nat) : Prop where
  some : 0 < n → 0 < l.length
  first : 0 < n → f 0 = 0
  next : ∀ i, i + 1 < n → f (i + 1) ∈ nxN l (f i)
theorem Along.start {l : List Int} {n : Nat} {f : Nat → Nat} (h : Along l n f) (hn : 0 < n) : f 0 ∈ beginN l.length := by
  rw [h.first hn]
  unfold beginN
  rw [Nat.min_eq_right (h.some hn)]
  exact List.mem_singleton.2 rfl
theorem Along.reached {l : List Int} {n : Nat} {f : Nat → Nat} (h : Along l n f) : ∀ i, i < n → rchB l (f i) = true
  | 0, hi => cameB_iff.2 (.start (h.start hi) rfl)
  | i + 1, hi => cameB_iff.2 (.next (cameB_iff.1 (h.reached i (by omega))) (h.next i hi) rfl)
theorem Along.lt {l : List Int} {n : Nat} {f : Nat → Nat} (h : Along l n f) {i : Nat} (hi : i < n) : f i < l.length := came_lt (cameB_iff.1 (h.reached i hi))
/-- What has not been seen is not ahead. -/
theorem Along.past {l : List Int} {n : Nat} {f : Nat → Nat} (h : Along l n f) {p : Nat} (hp : ∀ i, i < n → f i ≠ p) : ∀ i, i < n → Gra.Came (nxN l) (mvW p) (beginN l.length) (f i)
  | 0, hi => .start (h.start hi) (decide_eq_true (by have := hp 0 hi; omega))
  | i + 1, hi => .next (h.past hp i (by omega)) (h.next i hi) (decide_eq_true (by have := hp (i + 1) hi; omega))
theorem Along.seen {l : List Int} {n : Nat} {f : Nat → Nat} (h : Along l n f) {p i : Nat} (hi : i < n) (ha : aheadB l p (f i) = true) : ∃ j, j < n ∧ f j = p := by
  refine Classical.byContradiction fun hc => ?_
  have hp : ∀ j, j < n → f j ≠ p := fun j hj e => hc ⟨j, hj, e⟩
  rw [ahead_far (h.lt hi) (h.reached i hi), Bool.not_eq_true', cameB_iff.2 (h.past hp i hi)] at ha
  exact absurd ha (by simp)
theorem Along.from {l : List Int} {n : Nat} {f : Nat → Nat} (h : Along l n f) {i : Nat} : ∀ d, i + 1 + d < n → Gra.Came (nxN l) (fun _ => true) [f (i + 1)] (f (i + 1 + d))
  | 0, _ => .start (List.mem_singleton.2 rfl) rfl
  | d + 1, hd => .next (h.from d (by omega)) (h.next (i + 1 + d) (by omega)) rfl
/-- Where there is no circle, no place is seen twice. -/
theorem Along.once {l : List Int} {n : Nat} {f : Nat → Nat} (h : Along l n f) (hc : cycB l = false) {i j : Nat} (hij : i < j) (hj : j < n) : f i ≠ f j := fun e => by
  have h1 := h.from (i := i) (j - i - 1) (by omega)
  rw [show i + 1 + (j - i - 1) = j by omega, ← e] at h1
  have : cycB l = true := cycB_iff.2 ⟨f i, cameB_iff.1 (h.reached i (by omega)), f (i + 1), h.next i (by omega), h1⟩
  rw [hc] at this
  exact absurd this (by simp)
/-- Numbers below m, no two the same, are no more than m. -/
theorem few_of {m : Nat} : ∀ (n : Nat) (f : Nat → Nat), (∀ i, i < n → f i < m) → (∀ i j, i < j → j < n → f i ≠ f j) → n ≤ m := by
  induction m with
  | zero =>
    intro n f h _
    rcases n with _ | n
    · exact Nat.le_refl _
    · have := h 0 (by omega); omega
  | succ m ih =>
    intro n f h hd
    by_cases hx : ∃ k, k < n ∧ f k = m
    · obtain ⟨k, hk, e⟩ := hx
      have := ih (n - 1) (fun i => if i < k then f i else f (i + 1)) (fun i hi => by
        have h1 : ∀ q, q < n → q ≠ k → f q < m := fun q hq hqk => by
          have h2 := h q hq
          have h3 : f q ≠ f k := by
            rcases Nat.lt_or_gt_of_ne hqk with g | g
            · exact hd q k g hk
            · exact fun e => hd k q g hq e.symm
          omega
        show (if i < k then f i else f (i + 1)) < m
        split
        · exact h1 i (by omega) (by omega)
        · exact h1 (i + 1) (by omega) (by omega)) (fun i j hij hj => by
        show (if i < k then f i else f (i + 1)) ≠ (if j < k then f j else f (j + 1))
        by_cases g1 : i < k
        · by_cases g2 : j < k
          · rw [if_pos g1, if_pos g2]; exact hd i j hij (by omega)
          · rw [if_pos g1, if_neg g2]; exact hd i (j + 1) (by omega) (by omega)
        · rw [if_neg g1, if_neg (by omega)]; exact hd (i + 1) (j + 1) (by omega) (by omega))
      omega
    · have := ih n f (fun i hi => by
        have h1 := h i hi
        have h2 : f i ≠ m := fun e => hx ⟨i, hi, e⟩
        omega) hd
      omega
theorem Along.few {l : List Int} {n : Nat} {f : Nat → Nat} (h : Along l n f) (hc : cycB l = false) : n ≤ l.length :=
  few_of n f (fun _ hi => h.lt hi) fun _ _ hij hj => h.once hc hij hj

open Go.RowKit Go.IntWalk

/-- No word of the code is a jr. -/
def NoJr (l : List Int) : Prop := ∀ p, p < l.length → cErr (byAt l p) = 0 → cO (byAt l p) ≠ 41
theorem gTwo_l (x y : Int) : x ∈ gTwo x y := by
  unfold gTwo
  split
  · simp
  · rcases (show min x y = x ∨ max x y = x by omega) with h | h <;> simp [h]
theorem gTwo_r (x y : Int) : y ∈ gTwo x y := by
  unfold gTwo
  split
  · next e => simp [e]
  · rcases (show min x y = y ∨ max x y = y by omega) with h | h <;> simp [h]
theorem nx_near {l : List Int} {p : Nat} {o : Int} (hp : p < l.length) (ho : cO (byAt l p) = o) (h : ¬ (o = 39 ∨ o = 40 ∨ o = 0 ∨ o = 41 ∨ o = 43)) {q : Int} (hq : q = (p : Int) + 1) (hl : q < l.length) : q.toNat ∈ nxN l p := by
  refine nxN_mem.2 ⟨hp, ?_⟩
  unfold nxl gNxt
  rw [ho, List.mem_filter]
  have e : gNear o p = q := by unfold gNear; rw [if_neg h, hq]
  rw [show ((q.toNat : Nat) : Int) = q by omega]
  refine ⟨?_, by unfold gIn; exact decide_eq_true ⟨by omega, hl⟩⟩
  rw [← e]
  exact gTwo_l _ _
theorem nx_far {l : List Int} {p : Nat} {o N : Int} (hp : p < l.length) (ho : cO (byAt l p) = o) (hN : cG (byAt l p) 3 = N) (h : o = 36 ∨ o = 37 ∨ o = 38 ∨ o = 39 ∨ o = 40) (h0 : 0 ≤ N) (hl : N < l.length) : N.toNat ∈ nxN l p := by
  refine nxN_mem.2 ⟨hp, ?_⟩
  unfold nxl gNxt
  rw [ho, hN, List.mem_filter]
  have e : gFar o N = N := by unfold gFar; rw [if_pos h]
  rw [show ((N.toNat : Nat) : Int) = N by omega]
  refine ⟨?_, by unfold gIn; exact decide_eq_true ⟨h0, hl⟩⟩
  have := gTwo_r (gNear o p) (gFar o N)
  rw [e] at this ⊢
  exact this
/-- A machine whose marks go along ways; where it stands, if it runs, it came along one. -/
structure RunW (l : List Int) (s : Cst) : Prop where
  along : Along l s.mks.length (fun i => (mkAt s.mks i).1.toNat)
  nat : ∀ i, i < s.mks.length → 0 ≤ (mkAt s.mks i).1
  start : s.mks = [] → s.pc = 0
  now : s.st = 0 → ∀ k, s.mks.length = k + 1 → 0 ≤ s.pc → s.pc < l.length → s.pc.toNat ∈ nxN l (mkAt s.mks k).1.toNat
theorem RunW.begin (l data : List Int) : RunW l (beginS data) where
  along := ⟨fun h => absurd h (Nat.lt_irrefl _), fun h => absurd h (Nat.lt_irrefl _), fun _ h => absurd h (Nat.not_lt_zero _)⟩
  nat _ h := absurd h (Nat.not_lt_zero _)
  start _ := rfl
  now _ k h := absurd h (Nat.succ_ne_zero k).symm
theorem RunW.off {l : List Int} {s u : Cst} (h : RunW l s) (h1 : u.pc = s.pc) (h2 : u.mks = s.mks) (h3 : u.st ≠ 0) : RunW l u where
  along := by rw [h2]; exact h.along
  nat := by rw [h2]; exact h.nat
  start := by rw [h1, h2]; exact h.start
  now e := absurd e h3
theorem RunW.mark {l : List Int} {s u : Cst} {ad co : Int} (h : RunW l s) (h0 : s.st = 0) (hp : 0 ≤ s.pc ∧ s.pc < l.length) (h1 : u.mks = s.mks ++ [(s.pc, ad, co)]) (h2 : u.st = 0 → 0 ≤ u.pc → u.pc < l.length → u.pc.toNat ∈ nxN l s.pc.toNat) : RunW l u := by
  have hlen : u.mks.length = s.mks.length + 1 := by rw [h1]; simp
  have hold : ∀ i, i < s.mks.length → mkAt u.mks i = mkAt s.mks i := fun i hi => by rw [h1]; exact mkAt_old hi
  have hnew : mkAt u.mks s.mks.length = (s.pc, ad, co) := by rw [h1]; exact mkAt_new _ _
  refine ⟨⟨fun _ => by omega, fun _ => ?_, fun i hi => ?_⟩, fun i hi => ?_, fun e => ?_, fun e k hk => ?_⟩
  · show (mkAt u.mks 0).1.toNat = 0
    by_cases hz : 0 < s.mks.length
    · rw [hold 0 hz]; exact h.along.first hz
    · have hz' : s.mks.length = 0 := by omega
      rw [hz'] at hnew
      rw [hnew, h.start (List.eq_nil_of_length_eq_zero hz')]
      rfl
  · show (mkAt u.mks (i + 1)).1.toNat ∈ nxN l (mkAt u.mks i).1.toNat
    rw [hold i (by omega)]
    by_cases hz : i + 1 < s.mks.length
    · rw [hold _ hz]; exact h.along.next i hz
    · have hz' : s.mks.length = i + 1 := by omega
      rw [hz'] at hnew
      rw [hnew]
      exact h.now h0 i hz' hp.1 hp.2
  · by_cases hz : i < s.mks.length
    · rw [hold i hz]; exact h.nat i hz
    · rw [show i = s.mks.length by omega, hnew]; exact hp.1
  · rw [h1] at e
    exact absurd e (by simp)
  · rw [show k = s.mks.length by omega, hnew]
    exact h2 e
theorem stop_ne (s : Cst) {k : Int} (h : k ≠ 0) : (s.stop k).st ≠ 0 := h
theorem RunW.step {l : List Int} {s : Cst} (hj : NoJr l) (h : RunW l s) : RunW l (stepT l s) := by
  by_cases h0 : s.st = 0
  case neg => rw [stepT_off h0]; exact h
  rw [stepT_on h0]
  by_cases hp : 0 ≤ s.pc ∧ s.pc < l.length
  case neg => rw [step_no hp]; exact h.off rfl rfl (stop_ne _ (by decide))
  obtain ⟨v, hv⟩ : ∃ v, byAt l s.pc.toNat = v := ⟨_, rfl⟩
  by_cases he : cErr v = 0
  case neg => rw [step_bad hp hv he]; exact h.off rfl rfl (stop_ne _ (by decide))
  have hpn : s.pc.toNat < l.length := by omega
  have hjr := hj s.pc.toNat hpn (by rw [hv]; exact he)
  rw [hv] at hjr
  have hb := dec_bd he
  obtain ⟨o, ho⟩ : ∃ o, cO v = o := ⟨_, rfl⟩
  obtain ⟨N, hN⟩ : ∃ N, cG v 3 = N := ⟨_, rfl⟩
  rw [step_do (d := (cG v 0).toNat) (a := (cG v 1).toNat) (b := (cG v 2).toNat) hp hv he ho (by have := hb.2.1; omega) (by have := hb.2.2.1; omega) (by have := hb.2.2.2.1; omega) hN]
  generalize (cG v 0).toNat = d
  generalize (cG v 1).toNat = a
  generalize (cG v 2).toNat = b
  have h1 := hb.1
  rw [ho] at h1 hjr
  have hoo : cO (byAt l s.pc.toNat) = o := by rw [hv]; exact ho
  have hNN : cG (byAt l s.pc.toNat) 3 = N := by rw [hv]; exact hN
  have near : ¬ (o = 39 ∨ o = 40 ∨ o = 0 ∨ o = 41 ∨ o = 43) → ∀ x : Int, x = s.pc + 1 → 0 ≤ x → x < l.length → x.toNat ∈ nxN l s.pc.toNat := fun hno x hx _ hxl => nx_near hpn hoo hno (by omega) hxl
  have far : (o = 36 ∨ o = 37 ∨ o = 38 ∨ o = 39 ∨ o = 40) → 0 ≤ N → N < l.length → N.toNat ∈ nxN l s.pc.toNat := fun hf => nx_far hpn hoo hNN hf
  clear hb hv ho hN he hoo hNN
  by_cases o30 : o ≤ 30
  · rw [exe_lo o30]
    split
    · exact h.mark h0 hp rfl fun _ => near (by omega) _ rfl
    · exact h.off rfl rfl (stop_ne _ (by decide))
  by_cases e : o = 31
  · subst e; rw [exe_31]; exact h.mark h0 hp rfl fun _ => near (by omega) _ rfl
  by_cases e : o = 32
  · subst e; rw [exe_32]; exact h.mark h0 hp rfl fun _ => near (by omega) _ rfl
  by_cases e : o = 33
  · subst e; rw [exe_33]; exact h.mark h0 hp rfl fun _ => near (by omega) _ rfl
  by_cases e : o = 34
  · subst e; rw [exe_34]
    split
    · exact h.mark h0 hp rfl fun _ => near (by omega) _ rfl
    · exact h.off rfl rfl (stop_ne _ (by decide))
  by_cases e : o = 35
  · subst e; rw [exe_35]
    split
    · exact h.mark h0 hp rfl fun _ => near (by omega) _ rfl
    · exact h.off rfl rfl (stop_ne _ (by decide))
  by_cases o38 : o ≤ 38
  · rw [exe_br (by omega) o38]
    split
    · exact h.mark h0 hp rfl fun _ => far (by omega)
    · exact h.mark h0 hp rfl fun _ => near (by omega) _ rfl
  by_cases e : o = 39
  · subst e; rw [exe_39]; exact h.mark h0 hp rfl fun _ => far (by omega)
  by_cases e : o = 40
  · subst e; rw [exe_40]; exact h.mark h0 hp rfl fun _ => far (by omega)
  by_cases e : o = 42
  · subst e; rw [exe_42]; exact h.mark h0 hp rfl fun _ => near (by omega) _ rfl
  obtain rfl : o = 43 := by omega
  rw [exe_43]
  exact h.mark h0 hp rfl fun e => absurd e (stop_ne _ (by decide))
theorem RunW.run {l : List Int} (hj : NoJr l) : ∀ (n : Nat) {s : Cst}, RunW l s → RunW l (runT l n s)
  | 0, _, h => h
  | n + 1, _, h => RunW.run hj n (h.step hj)

end Go.Proofs.YtggiaopdgijgnaaGreatDoor
