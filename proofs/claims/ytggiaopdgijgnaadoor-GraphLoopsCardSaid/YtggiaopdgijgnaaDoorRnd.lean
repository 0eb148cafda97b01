/- A region that draws its order within a round of a loop over an iterator, of which all but the last operations only read: walked once. Nothing of any program. -/
import Derived.Test.YtggiaopdgijgnaaDoorRng
import Derived.StillTailTactics
import Derived.OrdersIn
namespace Go.Proofs.YtggiaopdgijgnaaDoor
open Go.RowKit

variable {P : Program} {ops : Array Oper} {Q : Exit → Act → World → Prop} {md : Region.Mode}

/-- No operation is a defer statement. -/
def isDefer : Op → Bool
  | .defer _ => true
  | _ => false
def plainOps (l : List Oper) : Bool := l.all fun o => !isDefer o.op
theorem plainOps_at {l : List Oper} (h : plainOps l = true) {i : Nat} {o : Oper} (ho : l.toArray[i]? = some o) : ∀ c, o.op ≠ .defer c := by
  intro c hc
  have := List.all_eq_true.1 h o (List.mem_of_getElem? (by simpa using ho))
  rw [hc] at this
  cases this
/-- What reads at a function's own level reads in a round. -/
theorem read_round {n l2 i : Nat} {K : Act → Prop} {K' : Act → World → Prop} {a : Act} {w : World} (hd : ∀ (i : Nat) (o : Oper), ops[i]? = some o → ∀ c, o.op ≠ .defer c) (hK : ∀ a, K a → K' a w) (h : stOp P ops w i K a) :
    wpOpIn (Fence.wide.inRound l2) n P ops Q i K' a w := by
  unfold wpOpIn
  split
  · rename_i ho
    unfold stOp at h
    simp only [ho] at h
    exact hK _ h
  · rename_i o ho
    obtain ⟨v, hy, hv⟩ := yieldsAt_of_stOp ho h
    rcases hy with ⟨hw, hr | ⟨hr, rfl⟩ | ⟨f, args, hr, hc⟩⟩ | ⟨hw, rfl⟩
    · rw [if_pos hw]
      refine ⟨fun _ _ => trivial, ?_⟩
      rw [Fence.inRound_round, Oper.semAt_some l2 _ _ (hd i o ho), hr]
      exact hK _ hv
    · rw [if_pos hw]
      refine ⟨fun _ _ => trivial, ?_⟩
      rw [Fence.inRound_round, Oper.semAt_some l2 _ _ (hd i o ho), hr]
      exact hK _ hv
    · rw [if_pos hw]
      refine ⟨fun _ _ => trivial, ?_⟩
      rw [Fence.inRound_round, Oper.semAt_some l2 _ _ (hd i o ho), hr]
      refine ⟨fun h => (by cases h), CallsIn.inRound l2 (callsIn_wide.2 (hc.mono ?_))⟩
      rintro e w'' ⟨rfl, rfl⟩
      exact hK _ hv
    · rw [if_neg (by rw [hw]; simp)]
      exact ⟨fun _ _ => trivial, hK _ hv⟩
theorem head_round {n k g l2 : Nat} {w : World} {L : Array Bool → Act → Prop} (hd : ∀ (i : Nat) (o : Oper), ops[i]? = some o → ∀ c, o.op ≠ .defer c) (hL : ∀ listed a, L listed a → wpAnyIn (Fence.wide.inRound l2) n P md ops Q g listed a w) :
    ∀ (f : Nat) (listed : Array Bool) (a : Act), wpAnyL P md ops w k L f listed a → wpAnyIn (Fence.wide.inRound l2) n P md ops Q (f + g) listed a w
  | 0, listed, a, h => by rw [Nat.zero_add]; exact hL _ _ h
  | f + 1, listed, a, h => by
    rw [Nat.add_right_comm]
    exact ⟨fun e => absurd e h.1, fun i hi => read_round hd (fun a' h' => head_round hd hL f _ a' h') (h.2 i hi).2⟩
theorem seq_round {n l2 : Nat} : ∀ (l : List Oper) (k : Nat) (listed : Array Bool) (a : Act) (w : World), (∀ j, l[j]? = ops[k + j]?) → Region.seqB md ops l.length k listed = true → wpListIn (Fence.wide.inRound l2) n P ops Q l a w →
    wpAnyIn (Fence.wide.inRound l2) n P md ops Q l.length listed a w
  | [], _, _, _, _, _, hB, h => ⟨by simpa [Region.seqB] using hB, h⟩
  | o :: l, k, listed, a, w, hl, hB, h => by
    have h0 : ops[k]? = some o := by have := hl 0; simpa using this.symm
    simp only [List.length_cons, Region.seqB, Bool.and_eq_true, decide_eq_true_eq] at hB
    obtain ⟨hr, hB'⟩ := hB
    refine ⟨fun e => (by rw [hr] at e; cases e), fun i hi => ?_⟩
    rw [hr, List.mem_singleton] at hi
    subst hi
    have hw : wpOpIn (Fence.wide.inRound l2) n P ops Q i (wpListIn (Fence.wide.inRound l2) n P ops Q l) a w := by
      unfold wpOpIn
      simp only [h0]
      exact h
    exact wpOpIn_mono (fun a' w' h' => seq_round l (i + 1) _ a' w' (fun j => by have := hl (j + 1); rw [show i + 1 + j = i + (j + 1) by omega, ← this]; simp) hB' h') hw
/-- The first k operations read; the others follow one another. -/
theorem wpIn_round_tail {id n l2 : Nat} {a : Act} {w : World} {l : List Oper} (k : Nat) (hm : P.follows .mixedOrders = true) (hB : Region.lexTailB .any l.toArray k = true) (hp : plainOps l = true)
    (h : wpStill P l.toArray w.drew (fun a' => wpListIn (Fence.wide.inRound l2) n P l.toArray Q (l.drop k) a' w.drew) (l.take k) a) : (Code.region id l.toArray true).wpIn (Fence.wide.inRound l2) n P Q a w := by
  simp only [Region.lexTailB, Bool.and_eq_true, decide_eq_true_eq] at hB
  obtain ⟨⟨⟨⟨h1, h2⟩, h3⟩, h4⟩, h5⟩ := hB
  have hs : l.toArray.size = l.length := by simp
  have ht : (l.take k).length = k := by rw [List.length_take]; omega
  have hd : l.toArray.size - k = (l.drop k).length := by rw [List.length_drop]; omega
  have H := wpAnyL_lex (md := .any) h1 h3 h4 h2 (l.take k) 0 _ a (fun j hj => by rw [List.getElem?_take_of_lt (by omega)]; simp) (by omega)
    ⟨Array.size_replicate, fun j _ _ hl => (by rw [getD_replicate_false] at hl; cases hl), fun t _ hl => getD_in (by simpa using hl) (getD_replicate_false _ _)⟩ (by rw [ht]; exact h5) h
  have G := head_round (Q := Q) (n := n) (l2 := l2) (g := (l.drop k).length) (fun i o ho => plainOps_at hp ho)
    (fun listed a' hL => seq_round (md := .any) (l.drop k) k listed a' w.drew (fun j => by simp [List.getElem?_drop]) (by rw [← hd]; exact hL.1) hL.2) _ _ _ H
  rw [ht, show k + (l.drop k).length = l.toArray.size by omega] at G
  exact wpIn_region_any hm G
/-- What reads at a function's own level reads in its fence. -/
theorem read_wide {n i : Nat} {K : Act → Prop} {K' : Act → World → Prop} {a : Act} {w : World} (hd : ∀ (i : Nat) (o : Oper), ops[i]? = some o → ∀ c, o.op ≠ .defer c) (hK : ∀ a, K a → K' a w) (h : stOp P ops w i K a) :
    wpOpIn Fence.wide n P ops Q i K' a w := by
  unfold wpOpIn
  split
  · rename_i ho
    unfold stOp at h
    simp only [ho] at h
    exact hK _ h
  · rename_i o ho
    obtain ⟨v, hy, hv⟩ := yieldsAt_of_stOp ho h
    rcases hy with ⟨hw, hr | ⟨hr, rfl⟩ | ⟨f, args, hr, hc⟩⟩ | ⟨hw, rfl⟩
    · rw [if_pos hw]
      refine ⟨fun _ _ => trivial, ?_⟩
      rw [Oper.semAt_plain Fence.wide _ _ (hd i o ho), hr]
      exact hK _ hv
    · rw [if_pos hw]
      refine ⟨fun _ _ => trivial, ?_⟩
      rw [Oper.semAt_plain Fence.wide _ _ (hd i o ho), hr]
      exact hK _ hv
    · rw [if_pos hw]
      refine ⟨fun _ _ => trivial, ?_⟩
      rw [Oper.semAt_plain Fence.wide _ _ (hd i o ho), hr]
      refine ⟨fun h => (by cases h), callsIn_wide.2 (hc.mono ?_)⟩
      rintro e w'' ⟨rfl, rfl⟩
      exact hK _ hv
    · rw [if_neg (by rw [hw]; simp)]
      exact ⟨fun _ _ => trivial, hK _ hv⟩
theorem head_wide {n k g : Nat} {w : World} {L : Array Bool → Act → Prop} (hd : ∀ (i : Nat) (o : Oper), ops[i]? = some o → ∀ c, o.op ≠ .defer c) (hL : ∀ listed a, L listed a → wpAnyIn Fence.wide n P md ops Q g listed a w) :
    ∀ (f : Nat) (listed : Array Bool) (a : Act), wpAnyL P md ops w k L f listed a → wpAnyIn Fence.wide n P md ops Q (f + g) listed a w
  | 0, listed, a, h => by rw [Nat.zero_add]; exact hL _ _ h
  | f + 1, listed, a, h => by
    rw [Nat.add_right_comm]
    exact ⟨fun e => absurd e h.1, fun i hi => read_wide hd (fun a' h' => head_wide hd hL f _ a' h') (h.2 i hi).2⟩
theorem seq_wide {n : Nat} : ∀ (l : List Oper) (k : Nat) (listed : Array Bool) (a : Act) (w : World), (∀ j, l[j]? = ops[k + j]?) → Region.seqB md ops l.length k listed = true → wpListIn Fence.wide n P ops Q l a w →
    wpAnyIn Fence.wide n P md ops Q l.length listed a w
  | [], _, _, _, _, _, hB, h => ⟨by simpa [Region.seqB] using hB, h⟩
  | o :: l, k, listed, a, w, hl, hB, h => by
    have h0 : ops[k]? = some o := by have := hl 0; simpa using this.symm
    simp only [List.length_cons, Region.seqB, Bool.and_eq_true, decide_eq_true_eq] at hB
    obtain ⟨hr, hB'⟩ := hB
    refine ⟨fun e => (by rw [hr] at e; cases e), fun i hi => ?_⟩
    rw [hr, List.mem_singleton] at hi
    subst hi
    have hw : wpOpIn Fence.wide n P ops Q i (wpListIn Fence.wide n P ops Q l) a w := by
      unfold wpOpIn
      simp only [h0]
      exact h
    exact wpOpIn_mono (fun a' w' h' => seq_wide l (i + 1) _ a' w' (fun j => by have := hl (j + 1); rw [show i + 1 + j = i + (j + 1) by omega, ← this]; simp) hB' h') hw
/-- The first k operations read; the others follow one another. -/
theorem wpIn_wide_tail {id n : Nat} {a : Act} {w : World} {l : List Oper} (k : Nat) (hm : P.follows .mixedOrders = true) (hB : Region.lexTailB .any l.toArray k = true) (hp : plainOps l = true)
    (h : wpStill P l.toArray w.drew (fun a' => wpListIn Fence.wide n P l.toArray Q (l.drop k) a' w.drew) (l.take k) a) : (Code.region id l.toArray true).wpIn Fence.wide n P Q a w := by
  simp only [Region.lexTailB, Bool.and_eq_true, decide_eq_true_eq] at hB
  obtain ⟨⟨⟨⟨h1, h2⟩, h3⟩, h4⟩, h5⟩ := hB
  have hs : l.toArray.size = l.length := by simp
  have ht : (l.take k).length = k := by rw [List.length_take]; omega
  have hd : l.toArray.size - k = (l.drop k).length := by rw [List.length_drop]; omega
  have H := wpAnyL_lex (md := .any) h1 h3 h4 h2 (l.take k) 0 _ a (fun j hj => by rw [List.getElem?_take_of_lt (by omega)]; simp) (by omega)
    ⟨Array.size_replicate, fun j _ _ hl => (by rw [getD_replicate_false] at hl; cases hl), fun t _ hl => getD_in (by simpa using hl) (getD_replicate_false _ _)⟩ (by rw [ht]; exact h5) h
  have G := head_wide (Q := Q) (n := n) (g := (l.drop k).length) (fun i o ho => plainOps_at hp ho)
    (fun listed a' hL => seq_wide (md := .any) (l.drop k) k listed a' w.drew (fun j => by simp [List.getElem?_drop]) (by rw [← hd]; exact hL.1) hL.2) _ _ _ H
  rw [ht, show k + (l.drop k).length = l.toArray.size by omega] at G
  exact wpIn_region_any hm G
end Go.Proofs.YtggiaopdgijgnaaDoor
