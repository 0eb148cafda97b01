/- Iterators: contracts, the loop over one; rounds that hand several values on; drawn regions at a function's own fence. -/
import Derived.RangeFuncNested
import Derived.RangeFuncBound
import Derived.RangeFuncCalls
import Derived.RangeFuncLeaves
import Derived.RangeFuncFrom
import Derived.Shelf.Abstract
import Derived.Shelf.RegionOpen
import Derived.WalkKit
import Derived.OwnWalkIn
import Derived.TacticsInMore
import Derived.LoopNIn
import Derived.LoopIn
import Derived.Below
import Derived.StillTailTactics
import Derived.OrdersIn
namespace Go.Proofs.YtekhgidbnpfmnaaGreatDoor
open Go.RowKit

open Go.RowKit Go.Shelf

/-- From W to W': the blocks in K, and all from B on, lie as they lay, but for o, the one that may be written; what may be written next is the same, or one that is new. -/
structure Calm (K : Nat → Prop) (B : Nat) (o o' : Option Nat) (W W' : World) : Prop where
  size : W.heap.size ≤ W'.heap.size
  same : ∀ k, (K k ∨ B ≤ k) → k < W.heap.size → some k ≠ o → W'.heap[k]? = W.heap[k]?
  next : o' = o ∨ ∃ k, o' = some k ∧ W.heap.size ≤ k

theorem Calm.refl (K : Nat → Prop) (B : Nat) (o : Option Nat) (W : World) : Calm K B o o W W := ⟨Nat.le_refl _, fun _ _ _ _ => rfl, .inl rfl⟩
theorem Calm.off {K : Nat → Prop} {B k : Nat} {o o' : Option Nat} {W W' : World} (h : Calm K B o o' W W') (hk : k < W.heap.size) (ho : o ≠ some k) : o' ≠ some k := by
  rcases h.next with e | ⟨j, e, hj⟩
  · rw [e]; exact ho
  · rw [e]; intro e2; cases e2; omega
theorem Calm.trans {K : Nat → Prop} {B : Nat} {o o' o2 : Option Nat} {W W' W2 : World} (h : Calm K B o o' W W') (g : Calm K B o' o2 W' W2) : Calm K B o o2 W W2 := by
  refine ⟨Nat.le_trans h.size g.size, fun k hk hl ho => ?_, ?_⟩
  · rw [g.same k hk (Nat.lt_of_lt_of_le hl h.size) (fun e => h.off hl (fun e2 => ho e2.symm) e.symm), h.same k hk hl ho]
  · rcases g.next with e | ⟨j, e, hj⟩
    · rw [e]; exact h.next
    · exact .inr ⟨j, e, Nat.le_trans h.size hj⟩
theorem Calm.weak {K K' : Nat → Prop} {B B' : Nat} {o o' : Option Nat} {W W' : World} (h : Calm K B o o' W W') (hK : ∀ k, K' k → K k ∨ B ≤ k) (hB : B ≤ B') : Calm K' B' o o' W W' :=
  ⟨h.size, fun k hk => h.same k (hk.elim (hK k) (fun h2 => .inr (Nat.le_trans hB h2))), h.next⟩
theorem Calm.of_grown {K : Nat → Prop} {B : Nat} {o : Option Nat} {W W' : World} {row : Option Nat} (hg : W.grownBy W' row) (hr : ∀ k, row = some k → o ≠ some k → ¬ K k ∧ k < B) : Calm K B o o W W' :=
  ⟨hg.size, fun k hk hl ho => hg.block k hl (fun e => by
    have := hr k e.symm (fun e2 => ho e2.symm)
    rcases hk with hk | hk
    · exact this.1 hk
    · omega), .inl rfl⟩
theorem Calm.block {K : Nat → Prop} {B k : Nat} {o o' : Option Nat} {W W' : World} {ob : Obj} (h : Calm K B o o' W W') (hk : K k ∨ B ≤ k) (ho : o ≠ some k) (hb : W.heap[k]? = some ob) : W'.heap[k]? = some ob :=
  (h.same k hk (Array.getElem?_eq_some_iff.1 hb).1 (fun e => ho e.symm)).trans hb
theorem Calm.cell {K : Nat → Prop} {B b i : Nat} {s : Option Nat} {o o' : Option Nat} {W W' : World} {v : Value} (h : Calm K B o o' W W') (hk : K b ∨ B ≤ b) (ho : o ≠ some b) (hc : W.cell? ⟨b, i, s⟩ = some v) : W'.cell? ⟨b, i, s⟩ = some v := by
  have hl : b < W.heap.size := by
    rcases Nat.lt_or_ge b W.heap.size with h' | h'
    · exact h'
    · simp [World.cell?, show W.heap[b]? = none by simp [h']] at hc
  rw [World.cell?_of_block (a := ⟨b, i, s⟩) (h.same b hk hl (fun e => ho e.symm))]
  exact hc
theorem Calm.alloc {K : Nat → Prop} {B : Nat} {o o' : Option Nat} {W W' : World} (h : Calm K B o o' W W') (x : Obj) : Calm K B o o' W (W'.alloc x) :=
  h.trans (.of_grown (World.grownBy_alloc W' x none) (fun k e => by cases e))
/-- What is calm from one world on abides an iterator's own steps. -/
theorem ownFrom_calm {β : Type} {K : Nat → Prop} {B B' : Nat} {o o' : Option Nat} {w0 : World} (hB : w0.heap.size ≤ B') : OwnFrom B' (fun (_ : β) W => Calm K B o o' w0 W) :=
  fun _ X Y row hs hg hr => ⟨Nat.le_trans hs.size hg.size, fun k hk hl ho => by
    rw [hg.block k (Nat.lt_of_lt_of_le hl hs.size) (fun e => by have := (hr k e.symm).1; omega)]
    exact hs.same k hk hl ho, hs.next⟩
theorem OwnFrom.mono {β : Type} {B B' : Nat} {I : β → World → Prop} (h : OwnFrom B I) (hB : B ≤ B') : OwnFrom B' I :=
  fun s X Y row hs hg hr => h s X Y row hs hg (fun r e => ⟨Nat.le_trans hB (hr r e).1, (hr r e).2⟩)

/-- **The contract of an iterator.** K: the blocks that it reads between two rounds, beside its own; S xs: all have come; Sp pre: a part has, a round having said no; T xs: these may have come, up to a round. -/
def SeqR {α : Type} (F : Fence) (n : Nat) (P : Program) (g : Nat) (lb : Array Value) (enc : α → Value) (K : Nat → Prop) (S Sp T : List α → Prop) (w : World) : Prop :=
  ∀ (l : Nat) (J Jx : Option Nat → List α → World → Prop) (o : Option Nat) (W : World), Below w.heap.size w W → (∀ o, OwnFrom W.heap.size (J o)) → (∀ o, OwnFrom W.heap.size (Jx o)) →
    (∀ o xs W', J o xs W' → ∀ k, o = some k → k < W'.heap.size) → (∀ k, K k → o ≠ some k) →
    (∀ o pre x W1, J o pre W1 → T (pre ++ [x]) → YieldAt F (n - 1) P l #[enc x] W1 fun e W' => ∃ o', Calm K W.heap.size o o' W1 W' ∧
      ((e = .returned (.bool true) ∧ J o' (pre ++ [x]) W') ∨ (e = .returned (.bool false) ∧ Jx o' (pre ++ [x]) W'))) →
    J o [] W →
    CallsIn F n P g (#[.func (.yield l) #[] #[]] ++ lb) W fun e W' => (∃ v, e = .returned v) ∧ ∃ o', ((∃ xs, S xs ∧ J o' xs W') ∨ (∃ pre, Sp pre ∧ Jx o' pre W'))

/-- How the body of a round may be left. -/
def leftR {α : Type} (K : Nat → Prop) (B : Nat) (o : Option Nat) (I : Option Nat → List α → World → Prop) (Ix : Code → Option Nat → List α → World → Prop) (xs : List α) (W : World) : Exit → Act → World → Prop
  | .normal, _, W' => ∃ o', Calm K B o o' W W' ∧ I o' xs W'
  | .ret, _, W' => ∃ o', Calm K B o o' W W' ∧ Ix .ret o' xs W'
  | .exit i, _, W' => ∃ o', Calm K B o o' W W' ∧ Ix (.exit i) o' xs W'
  | .goto t, _, W' => ∃ o', Calm K B o o' W W' ∧ Ix (.goto t) o' xs W'
  | .panic _, _, _ => False
  | .outgrown, _, _ => False

/-- How a round ends where its loop's record lies at L, as r has it. -/
def endsR (L : Nat) (r : LoopState → Option Code → Loop) (R : Ending → World → Prop) : Exit → Act → World → Prop
  | .normal, _, W => W.heap[L]? = some (.loop (r .busy none)) ∧ R (.returned (.bool true)) (W.putObj L (.loop (r .ready none)))
  | .ret, _, W => W.heap[L]? = some (.loop (r .busy none)) ∧ R (.returned (.bool false)) (W.putObj L (.loop (r .done (some .ret))))
  | .exit i, _, W => W.heap[L]? = some (.loop (r .busy none)) ∧ R (.returned (.bool false)) (W.putObj L (.loop (r .done (some (.exit i)))))
  | .goto t, _, W => W.heap[L]? = some (.loop (r .busy none)) ∧ R (.returned (.bool false)) (W.putObj L (.loop (r .done (some (.goto t)))))
  | .panic _, _, _ => False
  | .outgrown, _, _ => False

variable {F : Fence} {n : Nat} {P : Program}

/-- The record of a loop. -/
def recR (fn : FuncId) (tmps : Array Value) (ps : Array Tmp) (assign body : Code) (D : Nat) (st : LoopState) (pe : Option Code) : Loop :=
  { state := st, pending := pe, fn, tmps, params := ps, assign, body, defers := D }

/-- One call of yield: the loop's round. -/
theorem yield_round {fn : FuncId} {tmps : Array Value} {ps : Array Tmp} {assign body : Code} {D L : Nat} {W : World} {v : Value} {R : Ending → World → Prop} (hfn : F.fn fn) (hps : ps.size = 1)
    (hl : W.heap[L]? = some (.loop (recR fn tmps ps assign body D .ready none))) (a1 : Act)
    (hassign : ∀ Kc : Act → World → Prop, Kc a1 W → assign.wpIn (F.inRound L) n P (Exit.then Kc (fun _ _ _ => False)) { tmps := (ps.zip #[v]).foldl (fun t (p, v) => t.setIfInBounds p v) tmps, defers := [] } W)
    (hbody : body.wpIn (F.inRound L) n P (endsR L (recR fn tmps ps assign body D) R) a1 (W.putObj L (.loop (recR fn tmps ps assign body D .busy none)))) :
    YieldAt F n P L #[v] W R := by
  have hy := run_yield (P := P) (args := #[v]) hl (by simp [recR, hps])
  refine ⟨fn, _, assign, body, hy, roundIn_of_wpIn hfn (hassign _ ?_)⟩
  refine ⟨_, run_beginRound hl rfl, wpIn_mono hbody ?_⟩
  rintro e a3 W3 hp
  cases e with
  | normal => exact ⟨_, _, run_endRound none hp.1, hp.2⟩
  | ret => exact ⟨_, _, run_endRound (some .ret) hp.1, hp.2⟩
  | exit i => exact ⟨_, _, run_endRound (some (.exit i)) hp.1, hp.2⟩
  | goto t => exact ⟨_, _, run_endRound (some (.goto t)) hp.1, hp.2⟩
  | panic ch => exact hp.elim
  | outgrown => exact hp.elim

/-- **The loop over such an iterator**, at a function's own level. -/
theorem wpIn_rangeR {α : Type} {g : Operand} {ps : Array Tmp} {assign body : Code} {Q : Exit → Act → World → Prop} {a : Act} {w : World}
    (hro : F.round = none) (h1 : 1 ≤ n) {gf : Nat} {lb : Array Value} (hg : a.eval g = .func (.func gf) #[] lb) (hFg : F.fn gf) (eg : ∀ args w, (callFunc gf args).run P w = .ok (.enter gf args) w)
    {enc : α → Value} {K : Nat → Prop} {S Sp T : List α → Prop} {w0 : World} (hseq : SeqR F (n - 1) P gf lb enc K S Sp T w0) (hb0 : Below w0.heap.size w0 w) (hK : ∀ k, K k → k < w.heap.size) (hps : ps.size = 1)
    (I : Option Nat → List α → World → Prop) (Ix : Code → Option Nat → List α → World → Prop) (hI : ∀ o, OwnFrom w.heap.size (I o)) (hIx : ∀ c o, OwnFrom w.heap.size (Ix c o))
    (hIo : ∀ o xs W, I o xs W → ∀ k, o = some k → k < W.heap.size) (o : Option Nat) (hoK : ∀ k, K k → o ≠ some k) (h0 : I o [] w) (a₁ : α → Act)
    (hassign : ∀ (l : Nat) (x : α) (W : World) (Kc : Act → World → Prop), Kc (a₁ x) W →
      assign.wpIn (F.inRound l) (n - 1 - 1) P (Exit.then Kc (fun _ _ _ => False)) { tmps := (ps.zip #[enc x]).foldl (fun t (p, v) => t.setIfInBounds p v) a.tmps, defers := [] } W)
    (hbody : ∀ (l : Nat) (o : Option Nat) (pre : List α) (x : α) (W : World), I o pre W → T (pre ++ [x]) → body.wpIn (F.inRound l) (n - 1 - 1) P (leftR K w.heap.size o I Ix (pre ++ [x]) W) (a₁ x) W)
    (hdone : ∀ (D : Nat) (o : Option Nat) (xs : List α) (W : World), w.heap.size ≤ D → S xs → I o xs W → W.heap[D]? = some (.deferred (some [])) → o ≠ some D → Q .normal { a with defers := { target := .collected D, args := #[] } :: a.defers } W)
    (hstop : ∀ (D : Nat) (c : Code) (o : Option Nat) (pre : List α) (W : World), w.heap.size ≤ D → Sp pre → Ix c o pre W → W.heap[D]? = some (.deferred (some [])) → o ≠ some D → c.wpIn F n P Q { a with defers := { target := .collected D, args := #[] } :: a.defers } W) :
    (Code.rangeFunc g ps assign body).wpIn F n P Q a w := by
  refine wpIn_rangeFunc fun fn hfn => ?_
  rw [hro]
  obtain ⟨r, hr⟩ : ∃ r, recR fn a.tmps ps assign body w.heap.size = r := ⟨_, rfl⟩
  obtain ⟨W1, hW1⟩ : ∃ W1, (w.alloc (.deferred (some []))).alloc (.loop (r .ready none)) = W1 := ⟨_, rfl⟩
  have hs1 : W1.heap.size = w.heap.size + 2 := by rw [← hW1]; simp
  have hL1 : W1.heap[w.heap.size + 1]? = some (.loop (r .ready none)) := by
    rw [← hW1]; have := World.alloc_heap_new (w.alloc (.deferred (some []))) (.loop (r .ready none)); rwa [World.size_alloc] at this
  have hD1 : W1.heap[w.heap.size]? = some (.deferred (some [])) := by
    rw [← hW1]; exact (Below.heap_alloc _ _ _ (by simp)).trans (World.alloc_heap_new w _)
  have hI1 : I o [] W1 := by rw [← hW1]; exact (hI o).alloc _ ((hI o).alloc _ h0)
  have hb1 : Below w0.heap.size w0 W1 := by
    rw [← hW1]; exact hb0.trans ((((Below.refl _ w).alloc (Nat.le_refl _) _).alloc (by simp) _).mono hb0.size)
  have ho0 := hIo o _ _ h0
  refine ⟨w.heap.size + 1, [{ target := .collected w.heap.size, args := #[] }], W1, { target := .fn (.func gf) lb, args := #[.func (.yield (w.heap.size + 1)) #[] #[]] }, W1, gf,
    #[.func (.yield (w.heap.size + 1)) #[] #[]] ++ lb, W1, ?_, ?_, ?_, ?_, fun _ => h1, ?_⟩
  · rw [← hW1, ← hr]; exact run_enterLoop_outer _ _ _ _ _
  · simp only [resolve, hg]
    simp [go_sem]
  · intro f' hf'; simp [Target.leads] at hf'; subst hf'; exact hFg
  · simp [invoke, go_sem, eg]
  · -- what stands beside the caller's own: the record, the block for deferred calls
    have far : ∀ {X Y : World} {row : Option Nat} {k : Nat} {ob : Obj}, k < W1.heap.size → X.heap[k]? = some ob → X.grownBy Y row → (∀ q, row = some q → W1.heap.size ≤ q ∧ ∃ o : Obj, X.heap[q]? = some o ∧ o.isCells = false) → Y.heap[k]? = some ob := by
      intro X Y row k ob hk hx hg hq
      exact (hg.block k (Array.getElem?_eq_some_iff.1 hx).1 (fun e => by have := (hq k e.symm).1; omega)).trans hx
    have near : ∀ {X : World} {row : Option Nat}, (∀ q, row = some q → W1.heap.size ≤ q ∧ ∃ o : Obj, X.heap[q]? = some o ∧ o.isCells = false) → (∀ q, row = some q → w.heap.size ≤ q ∧ ∃ o : Obj, X.heap[q]? = some o ∧ o.isCells = false) :=
      fun hq q e => ⟨by have := (hq q e).1; omega, (hq q e).2⟩
    refine (hseq (w.heap.size + 1)
      (fun o pre W => I o pre W ∧ W.heap[w.heap.size + 1]? = some (.loop (r .ready none)) ∧ W.heap[w.heap.size]? = some (.deferred (some [])) ∧ o ≠ some (w.heap.size + 1) ∧ o ≠ some w.heap.size)
      (fun o pre W => ∃ c, Ix c o pre W ∧ W.heap[w.heap.size + 1]? = some (.loop (r .done (some c))) ∧ W.heap[w.heap.size]? = some (.deferred (some [])) ∧ o ≠ some w.heap.size)
      o W1 hb1
      (fun o s A B row hs hg' hq => ⟨hI o s A B row hs.1 hg' (near hq), far (by omega) hs.2.1 hg' hq, far (by omega) hs.2.2.1 hg' hq, hs.2.2.2⟩)
      (fun o s A B row hs hg' hq => by
        obtain ⟨c, hc, hl, hd, h4⟩ := hs
        exact ⟨c, hIx c o s A B row hc hg' (near hq), far (by omega) hl hg' hq, far (by omega) hd hg' hq, h4⟩)
      (fun o xs W hs => hIo o xs W hs.1) hoK
      ?_ ⟨hI1, hL1, hD1, fun e => by have := ho0 _ e; omega, fun e => by have := ho0 _ e; omega⟩).mono ?_
    · -- one round
      rintro o pre x W ⟨hi, hl, hd, hoL, hoD⟩ hlen
      have hlt : w.heap.size + 1 < W.heap.size := (Array.getElem?_eq_some_iff.1 hl).1
      subst hr
      refine yield_round hfn hps hl (a₁ x) (fun Kc h => hassign _ x W Kc h) (wpIn_mono (hbody _ o pre x _ ((hI o).putObj _ hi (by omega) hl rfl) hlen) ?_)
      obtain ⟨r, hr⟩ : ∃ r, recR fn a.tmps ps assign body w.heap.size = r := ⟨_, rfl⟩
      rw [hr] at *
      -- what a round's end makes of the body's word
      have fin : ∀ {o' : Option Nat} {W3 : World} (st : LoopState) (pe : Option Code), Calm K w.heap.size o o' (W.putObj (w.heap.size + 1) (.loop (r .busy none))) W3 →
          W3.heap[w.heap.size + 1]? = some (.loop (r .busy none)) ∧ Calm K W1.heap.size o o' W (W3.putObj (w.heap.size + 1) (.loop (r st pe))) ∧
          (W3.putObj (w.heap.size + 1) (.loop (r st pe))).heap[w.heap.size + 1]? = some (.loop (r st pe)) ∧ (W3.putObj (w.heap.size + 1) (.loop (r st pe))).heap[w.heap.size]? = some (.deferred (some [])) ∧
          o' ≠ some (w.heap.size + 1) ∧ o' ≠ some w.heap.size := by
        intro o' W3 st pe hc
        have hsz : (W.putObj (w.heap.size + 1) (.loop (r .busy none))).heap.size = W.heap.size := by simp [World.putObj]
        have e1 := hc.block (.inr (by omega)) hoL (World.putObj_heap_same hlt)
        have e2 := hc.block (k := w.heap.size) (.inr (Nat.le_refl _)) hoD ((World.putObj_heap_other (by omega)).trans hd)
        refine ⟨e1, ⟨?_, fun k hk hl' ho => ?_, ?_⟩, World.putObj_heap_same (Array.getElem?_eq_some_iff.1 e1).1, (World.putObj_heap_other (by omega)).trans e2, hc.off (by omega) hoL, hc.off (by omega) hoD⟩
        · have := hc.size; rw [hsz] at this; simpa [World.putObj] using this
        · have hkL : k ≠ w.heap.size + 1 := by
            rcases hk with hk | hk
            · have := hK k hk; omega
            · omega
          rw [World.putObj_heap_other hkL]
          rw [hc.same k (hk.elim .inl fun h => .inr (by omega)) (by rw [hsz]; exact hl') ho, World.putObj_heap_other hkL]
        · have := hc.next; rwa [hsz] at this
      rintro e a3 W3 hp
      cases e with
      | normal =>
        obtain ⟨o', hc, hi3⟩ := hp
        obtain ⟨f1, f2, f3, f4, f5, f6⟩ := fin .ready none hc
        exact ⟨f1, o', f2, .inl ⟨rfl, (hI o').putObj _ hi3 (by omega) f1 rfl, f3, f4, f5, f6⟩⟩
      | ret =>
        obtain ⟨o', hc, hi3⟩ := hp
        obtain ⟨f1, f2, f3, f4, f5, f6⟩ := fin .done (some .ret) hc
        exact ⟨f1, o', f2, .inr ⟨rfl, _, (hIx _ o').putObj _ hi3 (by omega) f1 rfl, f3, f4, f6⟩⟩
      | exit i =>
        obtain ⟨o', hc, hi3⟩ := hp
        obtain ⟨f1, f2, f3, f4, f5, f6⟩ := fin .done (some (.exit i)) hc
        exact ⟨f1, o', f2, .inr ⟨rfl, _, (hIx _ o').putObj _ hi3 (by omega) f1 rfl, f3, f4, f6⟩⟩
      | goto t =>
        obtain ⟨o', hc, hi3⟩ := hp
        obtain ⟨f1, f2, f3, f4, f5, f6⟩ := fin .done (some (.goto t)) hc
        exact ⟨f1, o', f2, .inr ⟨rfl, _, (hIx _ o').putObj _ hi3 (by omega) f1 rfl, f3, f4, f6⟩⟩
      | panic ch => exact hp.elim
      | outgrown => exact hp.elim
    · -- behind the iterator
      have en : ∀ {W2 : World} (st : LoopState) (pe : Option Code), W2.heap[w.heap.size + 1]? = some (.loop (r st pe)) → st ≠ .busy → (Instr.endLoop (w.heap.size + 1)).run P W2 = .ok pe (W2.putObj (w.heap.size + 1) (.loop (r .exhausted pe))) := by
        intro W2 st pe hl hne
        subst hr
        exact run_endLoop hl hne
      rintro e W2 ⟨⟨v, rfl⟩, o', (⟨xs, hS, hi, hl, hd, _, h4⟩ | ⟨pre, hSp, c, hi, hl, hd, h4⟩)⟩
      · exact ⟨none, _, en _ _ hl (by simp), hdone _ o' xs _ (Nat.le_refl _) hS ((hI o').putObj _ hi (by omega) hl rfl) ((World.putObj_heap_other (by omega)).trans hd) h4⟩
      · exact ⟨some c, _, en _ _ hl (by simp), hstop _ c o' pre _ (Nat.le_refl _) hSp ((hIx c o').putObj _ hi (by omega) hl rfl) ((World.putObj_heap_other (by omega)).trans hd) h4⟩

/-- No depth is asked at the wide fence, and a round's fence asks no more. -/
theorem round_any {m m' l l2 : Nat} {f : FuncId} {tmps : Array Value} {assign body : Code} {w : World} {R : Ending → World → Prop} (h : RoundIn Fence.wide m P l f tmps assign body w R) : RoundIn (Fence.wide.inRound l2) m' P l f tmps assign body w R :=
  ⟨h.1, fun c cs _ => h.2 c cs (room_wide _)⟩
theorem round_wide {m m' l : Nat} {f : FuncId} {tmps : Array Value} {assign body : Code} {w : World} {R : Ending → World → Prop} (h : RoundIn Fence.wide m P l f tmps assign body w R) : RoundIn Fence.wide m' P l f tmps assign body w R :=
  ⟨h.1, fun c cs _ => h.2 c cs (room_wide _)⟩
/-- The marks of loops that have ended: blocks for deferred calls, all of them empty. -/
def markR (D : Nat) : Deferred := { target := .collected D, args := #[] }
def Marks (B : Nat) (o : Option Nat) (ds : List Deferred) (W : World) : Prop :=
  ds.Pairwise (fun d e => d ≠ e) ∧ ∀ d ∈ ds, ∃ D, d = markR D ∧ B ≤ D ∧ o ≠ some D ∧ W.heap[D]? = some (.deferred (some []))
theorem Marks.nil (B : Nat) (o : Option Nat) (W : World) : Marks B o [] W := ⟨List.Pairwise.nil, fun _ h => by cases h⟩
theorem Marks.calm {K : Nat → Prop} {B : Nat} {o o' : Option Nat} {ds : List Deferred} {W W' : World} (h : Marks B o ds W) (hc : Calm K B o o' W W') : Marks B o' ds W' :=
  ⟨h.1, fun d hd => by
    obtain ⟨D, e, hB, ho, hh⟩ := h.2 d hd
    exact ⟨D, e, hB, hc.off (Array.getElem?_eq_some_iff.1 hh).1 ho, hc.block (.inr hB) ho hh⟩⟩
theorem Marks.cons {K : Nat → Prop} {B D : Nat} {o o' : Option Nat} {ds : List Deferred} {W W' : World} (h : Marks B o ds W) (hc : Calm K B o o' W W') (hB : B ≤ W.heap.size) (hD : W.heap.size ≤ D) (hd : W'.heap[D]? = some (.deferred (some []))) (ho : o' ≠ some D) :
    Marks B o' (markR D :: ds) W' := by
  refine ⟨List.pairwise_cons.2 ⟨fun e he => ?_, h.1⟩, fun d hm => ?_⟩
  · obtain ⟨D2, e2, _, _, hh⟩ := h.2 e he
    have := (Array.getElem?_eq_some_iff.1 hh).1
    rw [e2]
    intro e3
    simp only [markR, Deferred.mk.injEq, Target.collected.injEq, and_true] at e3
    omega
  · rcases List.mem_cons.1 hm with rfl | hm
    · exact ⟨D, rfl, Nat.le_trans hB hD, ho, hd⟩
    · exact (h.calm hc).2 d hm
/-- A function that holds such loops leaves. -/
theorem leaves_marks {fn : Func} {tmps : Array Value} {R : Ending → World → Prop} {B : Nat} {o : Option Nat} {X : World → Prop}
    (hX : ∀ W D, X W → B ≤ D → W.heap[D]? = some (.deferred (some [])) → X (W.putObj D (.deferred none))) (hend : ∀ W, X W → LeavesInM F n P fn tmps R [] .returning W) :
    ∀ (ds : List Deferred) (W : World), X W → Marks B o ds W → LeavesInM F n P fn tmps R ds .returning W
  | [], W, h, _ => hend W h
  | d :: ds, W, h, hm => by
    obtain ⟨D, rfl, hB, _, hh⟩ := hm.2 d (by simp)
    refine ⟨by simp, .inl ⟨D, _, rfl, run_takeDeferred hh, leaves_marks (o := o) hX hend ds _ (hX W D h hB hh) ⟨(List.pairwise_cons.1 hm.1).2, fun e he => ?_⟩⟩⟩
    obtain ⟨D2, rfl, hB2, ho2, hh2⟩ := hm.2 e (by simp [he])
    refine ⟨D2, rfl, hB2, ho2, (World.putObj_heap_other ?_).trans hh2⟩
    rintro rfl
    exact (List.pairwise_cons.1 hm.1).1 _ he rfl

open Go.RowKit Go.Shelf

/-- **The contract of an iterator.** K: the blocks that it reads between two rounds, beside its own; S xs: all have come; Sp pre: a part has, a round having said no; T xs: these may have come, up to a round. -/
def SeqA {α : Type} (F : Fence) (n : Nat) (P : Program) (g : Nat) (lb : Array Value) (enc : α → Array Value) (K : Nat → Prop) (S Sp T : List α → Prop) (w : World) : Prop :=
  ∀ (l : Nat) (J Jx : Option Nat → List α → World → Prop) (o : Option Nat) (W : World), Below w.heap.size w W → (∀ o, OwnFrom W.heap.size (J o)) → (∀ o, OwnFrom W.heap.size (Jx o)) →
    (∀ o xs W', J o xs W' → ∀ k, o = some k → k < W'.heap.size) → (∀ k, K k → o ≠ some k) →
    (∀ o pre x W1, J o pre W1 → T (pre ++ [x]) → YieldAt F (n - 1) P l (enc x) W1 fun e W' => ∃ o', Calm K W.heap.size o o' W1 W' ∧
      ((e = .returned (.bool true) ∧ J o' (pre ++ [x]) W') ∨ (e = .returned (.bool false) ∧ Jx o' (pre ++ [x]) W'))) →
    J o [] W →
    CallsIn F n P g (#[.func (.yield l) #[] #[]] ++ lb) W fun e W' => (∃ v, e = .returned v) ∧ ∃ o', ((∃ xs, S xs ∧ J o' xs W') ∨ (∃ pre, Sp pre ∧ Jx o' pre W'))


variable {F : Fence} {n : Nat} {P : Program}

/-- One call of yield: the loop's round. -/
theorem yield_roundA {fn : FuncId} {tmps : Array Value} {ps : Array Tmp} {assign body : Code} {D L : Nat} {W : World} {vs : Array Value} {R : Ending → World → Prop} (hfn : F.fn fn) (hps : ps.size = vs.size)
    (hl : W.heap[L]? = some (.loop (recR fn tmps ps assign body D .ready none))) (a1 : Act) (V : World) (hlV : V.heap[L]? = some (.loop (recR fn tmps ps assign body D .ready none)))
    (hassign : ∀ Kc : Act → World → Prop, Kc a1 V → assign.wpIn (F.inRound L) n P (Exit.then Kc (fun _ _ _ => False)) { tmps := (ps.zip vs).foldl (fun t (p, v) => t.setIfInBounds p v) tmps, defers := [] } W)
    (hbody : body.wpIn (F.inRound L) n P (endsR L (recR fn tmps ps assign body D) R) a1 (V.putObj L (.loop (recR fn tmps ps assign body D .busy none)))) :
    YieldAt F n P L vs W R := by
  have hy := run_yield (P := P) (args := vs) hl (by simp [recR, hps])
  refine ⟨fn, _, assign, body, hy, roundIn_of_wpIn hfn (hassign _ ?_)⟩
  refine ⟨_, run_beginRound hlV rfl, wpIn_mono hbody ?_⟩
  rintro e a3 W3 hp
  cases e with
  | normal => exact ⟨_, _, run_endRound none hp.1, hp.2⟩
  | ret => exact ⟨_, _, run_endRound (some .ret) hp.1, hp.2⟩
  | exit i => exact ⟨_, _, run_endRound (some (.exit i)) hp.1, hp.2⟩
  | goto t => exact ⟨_, _, run_endRound (some (.goto t)) hp.1, hp.2⟩
  | panic ch => exact hp.elim
  | outgrown => exact hp.elim

/-- **The loop over such an iterator**, at a function's own level. -/
theorem wpIn_rangeA {α : Type} {g : Operand} {ps : Array Tmp} {assign body : Code} {Q : Exit → Act → World → Prop} {a : Act} {w : World}
    (hro : F.round = none) (h1 : 1 ≤ n) {gf : Nat} {lb : Array Value} (hg : a.eval g = .func (.func gf) #[] lb) (hFg : F.fn gf) (eg : ∀ args w, (callFunc gf args).run P w = .ok (.enter gf args) w)
    {enc : α → Array Value} {K : Nat → Prop} {S Sp T : List α → Prop} {w0 : World} (hseq : SeqA F (n - 1) P gf lb enc K S Sp T w0) (hb0 : Below w0.heap.size w0 w) (hK : ∀ k, K k → k < w.heap.size) (hps : ∀ x, ps.size = (enc x).size)
    (I : Option Nat → List α → World → Prop) (Ix : Code → Option Nat → List α → World → Prop) (hI : ∀ o, OwnFrom w.heap.size (I o)) (hIx : ∀ c o, OwnFrom w.heap.size (Ix c o))
    (hIo : ∀ o xs W, I o xs W → ∀ k, o = some k → k < W.heap.size) (o : Option Nat) (hoK : ∀ k, K k → o ≠ some k) (h0 : I o [] w) (a₁ : α → World → Act) (wa : α → World → World) (hwa : ∀ (x : α) (W : World), W.grownBy (wa x W) none)
    (hassign : ∀ (l : Nat) (x : α) (W : World) (Kc : Act → World → Prop), Kc (a₁ x W) (wa x W) →
      assign.wpIn (F.inRound l) (n - 1 - 1) P (Exit.then Kc (fun _ _ _ => False)) { tmps := (ps.zip (enc x)).foldl (fun t (p, v) => t.setIfInBounds p v) a.tmps, defers := [] } W)
    (hbody : ∀ (l : Nat) (o : Option Nat) (pre : List α) (x : α) (W X : World), I o pre X → T (pre ++ [x]) → W.heap.size ≤ (wa x W).heap.size → w.heap.size ≤ W.heap.size → X.heap.size = (wa x W).heap.size → (∀ k, W.heap.size ≤ k → X.heap[k]? = (wa x W).heap[k]?) → body.wpIn (F.inRound l) (n - 1 - 1) P (leftR K w.heap.size o I Ix (pre ++ [x]) X) (a₁ x W) X)
    (hdone : ∀ (D : Nat) (o : Option Nat) (xs : List α) (W : World), w.heap.size ≤ D → S xs → I o xs W → W.heap[D]? = some (.deferred (some [])) → o ≠ some D → Q .normal { a with defers := { target := .collected D, args := #[] } :: a.defers } W)
    (hstop : ∀ (D : Nat) (c : Code) (o : Option Nat) (pre : List α) (W : World), w.heap.size ≤ D → Sp pre → Ix c o pre W → W.heap[D]? = some (.deferred (some [])) → o ≠ some D → c.wpIn F n P Q { a with defers := { target := .collected D, args := #[] } :: a.defers } W) :
    (Code.rangeFunc g ps assign body).wpIn F n P Q a w := by
  refine wpIn_rangeFunc fun fn hfn => ?_
  rw [hro]
  obtain ⟨r, hr⟩ : ∃ r, recR fn a.tmps ps assign body w.heap.size = r := ⟨_, rfl⟩
  obtain ⟨W1, hW1⟩ : ∃ W1, (w.alloc (.deferred (some []))).alloc (.loop (r .ready none)) = W1 := ⟨_, rfl⟩
  have hs1 : W1.heap.size = w.heap.size + 2 := by rw [← hW1]; simp
  have hL1 : W1.heap[w.heap.size + 1]? = some (.loop (r .ready none)) := by
    rw [← hW1]; have := World.alloc_heap_new (w.alloc (.deferred (some []))) (.loop (r .ready none)); rwa [World.size_alloc] at this
  have hD1 : W1.heap[w.heap.size]? = some (.deferred (some [])) := by
    rw [← hW1]; exact (Below.heap_alloc _ _ _ (by simp)).trans (World.alloc_heap_new w _)
  have hI1 : I o [] W1 := by rw [← hW1]; exact (hI o).alloc _ ((hI o).alloc _ h0)
  have hb1 : Below w0.heap.size w0 W1 := by
    rw [← hW1]; exact hb0.trans ((((Below.refl _ w).alloc (Nat.le_refl _) _).alloc (by simp) _).mono hb0.size)
  have ho0 := hIo o _ _ h0
  refine ⟨w.heap.size + 1, [{ target := .collected w.heap.size, args := #[] }], W1, { target := .fn (.func gf) lb, args := #[.func (.yield (w.heap.size + 1)) #[] #[]] }, W1, gf,
    #[.func (.yield (w.heap.size + 1)) #[] #[]] ++ lb, W1, ?_, ?_, ?_, ?_, fun _ => h1, ?_⟩
  · rw [← hW1, ← hr]; exact run_enterLoop_outer _ _ _ _ _
  · simp only [resolve, hg]
    simp [go_sem]
  · intro f' hf'; simp [Target.leads] at hf'; subst hf'; exact hFg
  · simp [invoke, go_sem, eg]
  · -- what stands beside the caller's own: the record, the block for deferred calls
    have far : ∀ {X Y : World} {row : Option Nat} {k : Nat} {ob : Obj}, k < W1.heap.size → X.heap[k]? = some ob → X.grownBy Y row → (∀ q, row = some q → W1.heap.size ≤ q ∧ ∃ o : Obj, X.heap[q]? = some o ∧ o.isCells = false) → Y.heap[k]? = some ob := by
      intro X Y row k ob hk hx hg hq
      exact (hg.block k (Array.getElem?_eq_some_iff.1 hx).1 (fun e => by have := (hq k e.symm).1; omega)).trans hx
    have near : ∀ {X : World} {row : Option Nat}, (∀ q, row = some q → W1.heap.size ≤ q ∧ ∃ o : Obj, X.heap[q]? = some o ∧ o.isCells = false) → (∀ q, row = some q → w.heap.size ≤ q ∧ ∃ o : Obj, X.heap[q]? = some o ∧ o.isCells = false) :=
      fun hq q e => ⟨by have := (hq q e).1; omega, (hq q e).2⟩
    refine (hseq (w.heap.size + 1)
      (fun o pre W => I o pre W ∧ W.heap[w.heap.size + 1]? = some (.loop (r .ready none)) ∧ W.heap[w.heap.size]? = some (.deferred (some [])) ∧ o ≠ some (w.heap.size + 1) ∧ o ≠ some w.heap.size)
      (fun o pre W => ∃ c, Ix c o pre W ∧ W.heap[w.heap.size + 1]? = some (.loop (r .done (some c))) ∧ W.heap[w.heap.size]? = some (.deferred (some [])) ∧ o ≠ some w.heap.size)
      o W1 hb1
      (fun o s A B row hs hg' hq => ⟨hI o s A B row hs.1 hg' (near hq), far (by omega) hs.2.1 hg' hq, far (by omega) hs.2.2.1 hg' hq, hs.2.2.2⟩)
      (fun o s A B row hs hg' hq => by
        obtain ⟨c, hc, hl, hd, h4⟩ := hs
        exact ⟨c, hIx c o s A B row hc hg' (near hq), far (by omega) hl hg' hq, far (by omega) hd hg' hq, h4⟩)
      (fun o xs W hs => hIo o xs W hs.1) hoK
      ?_ ⟨hI1, hL1, hD1, fun e => by have := ho0 _ e; omega, fun e => by have := ho0 _ e; omega⟩).mono ?_
    · -- one round
      rintro o pre x W ⟨hi, hl, hd, hoL, hoD⟩ hlen
      have hltW : w.heap.size + 1 < W.heap.size := (Array.getElem?_eq_some_iff.1 hl).1
      have hgV := hwa x W
      obtain ⟨V, hV⟩ : ∃ V, wa x W = V := ⟨_, rfl⟩
      rw [hV] at hgV
      have hlV := (hgV.block _ hltW (by simp)).trans hl
      have hdV := (hgV.block _ (by omega) (by simp)).trans hd
      have hiV := hI o _ _ _ none hi hgV (fun _ e => by cases e)
      have hlt : w.heap.size + 1 < V.heap.size := Nat.lt_of_lt_of_le hltW hgV.size
      have hcV : Calm K W1.heap.size o o W V := Calm.of_grown hgV (fun _ e => by cases e)
      subst hr
      refine yield_roundA hfn (hps x) hl (a₁ x W) V hlV (fun Kc h => hassign _ x W Kc (by rw [hV]; exact h)) (wpIn_mono (hbody _ o pre x W (V.putObj (w.heap.size + 1) (.loop (recR fn a.tmps ps assign body w.heap.size .busy none))) ((hI o).putObj _ hiV (by omega) hlV rfl) hlen (by rw [hV]; exact hgV.size) (by omega) (by rw [hV]; simp [World.putObj]) (fun k hk => by rw [hV]; exact World.putObj_heap_other (by omega))) ?_)
      obtain ⟨r, hr⟩ : ∃ r, recR fn a.tmps ps assign body w.heap.size = r := ⟨_, rfl⟩
      rw [hr] at *
      -- what a round's end makes of the body's word
      have fin : ∀ {o' : Option Nat} {W3 : World} (st : LoopState) (pe : Option Code), Calm K w.heap.size o o' (V.putObj (w.heap.size + 1) (.loop (r .busy none))) W3 →
          W3.heap[w.heap.size + 1]? = some (.loop (r .busy none)) ∧ Calm K W1.heap.size o o' V (W3.putObj (w.heap.size + 1) (.loop (r st pe))) ∧
          (W3.putObj (w.heap.size + 1) (.loop (r st pe))).heap[w.heap.size + 1]? = some (.loop (r st pe)) ∧ (W3.putObj (w.heap.size + 1) (.loop (r st pe))).heap[w.heap.size]? = some (.deferred (some [])) ∧
          o' ≠ some (w.heap.size + 1) ∧ o' ≠ some w.heap.size := by
        intro o' W3 st pe hc
        have hsz : (V.putObj (w.heap.size + 1) (.loop (r .busy none))).heap.size = V.heap.size := by simp [World.putObj]
        have e1 := hc.block (.inr (by omega)) hoL (World.putObj_heap_same hlt)
        have e2 := hc.block (k := w.heap.size) (.inr (Nat.le_refl _)) hoD ((World.putObj_heap_other (by omega)).trans hdV)
        refine ⟨e1, ⟨?_, fun k hk hl' ho => ?_, ?_⟩, World.putObj_heap_same (Array.getElem?_eq_some_iff.1 e1).1, (World.putObj_heap_other (by omega)).trans e2, hc.off (by omega) hoL, hc.off (by omega) hoD⟩
        · have := hc.size; rw [hsz] at this; simpa [World.putObj] using this
        · have hkL : k ≠ w.heap.size + 1 := by
            rcases hk with hk | hk
            · have := hK k hk; omega
            · omega
          rw [World.putObj_heap_other hkL]
          rw [hc.same k (hk.elim .inl fun h => .inr (by omega)) (by rw [hsz]; exact hl') ho, World.putObj_heap_other hkL]
        · have := hc.next; rwa [hsz] at this
      rintro e a3 W3 hp
      cases e with
      | normal =>
        obtain ⟨o', hc, hi3⟩ := hp
        obtain ⟨f1, f2, f3, f4, f5, f6⟩ := fin .ready none hc
        exact ⟨f1, o', hcV.trans f2, .inl ⟨rfl, (hI o').putObj _ hi3 (by omega) f1 rfl, f3, f4, f5, f6⟩⟩
      | ret =>
        obtain ⟨o', hc, hi3⟩ := hp
        obtain ⟨f1, f2, f3, f4, f5, f6⟩ := fin .done (some .ret) hc
        exact ⟨f1, o', hcV.trans f2, .inr ⟨rfl, _, (hIx _ o').putObj _ hi3 (by omega) f1 rfl, f3, f4, f6⟩⟩
      | exit i =>
        obtain ⟨o', hc, hi3⟩ := hp
        obtain ⟨f1, f2, f3, f4, f5, f6⟩ := fin .done (some (.exit i)) hc
        exact ⟨f1, o', hcV.trans f2, .inr ⟨rfl, _, (hIx _ o').putObj _ hi3 (by omega) f1 rfl, f3, f4, f6⟩⟩
      | goto t =>
        obtain ⟨o', hc, hi3⟩ := hp
        obtain ⟨f1, f2, f3, f4, f5, f6⟩ := fin .done (some (.goto t)) hc
        exact ⟨f1, o', hcV.trans f2, .inr ⟨rfl, _, (hIx _ o').putObj _ hi3 (by omega) f1 rfl, f3, f4, f6⟩⟩
      | panic ch => exact hp.elim
      | outgrown => exact hp.elim
    · -- behind the iterator
      have en : ∀ {W2 : World} (st : LoopState) (pe : Option Code), W2.heap[w.heap.size + 1]? = some (.loop (r st pe)) → st ≠ .busy → (Instr.endLoop (w.heap.size + 1)).run P W2 = .ok pe (W2.putObj (w.heap.size + 1) (.loop (r .exhausted pe))) := by
        intro W2 st pe hl hne
        subst hr
        exact run_endLoop hl hne
      rintro e W2 ⟨⟨v, rfl⟩, o', (⟨xs, hS, hi, hl, hd, _, h4⟩ | ⟨pre, hSp, c, hi, hl, hd, h4⟩)⟩
      · exact ⟨none, _, en _ _ hl (by simp), hdone _ o' xs _ (Nat.le_refl _) hS ((hI o').putObj _ hi (by omega) hl rfl) ((World.putObj_heap_other (by omega)).trans hd) h4⟩
      · exact ⟨some c, _, en _ _ hl (by simp), hstop _ c o' pre _ (Nat.le_refl _) hSp ((hIx c o').putObj _ hi (by omega) hl rfl) ((World.putObj_heap_other (by omega)).trans hd) h4⟩

variable {P : Program} {ops : Array Oper} {Q : Exit → Act → World → Prop} {md : Region.Mode}

/-- No operation is a defer statement. -/
def isDefer : Op → Bool
  | .defer _ => true
  | _ => false
def plainOps (l : List Oper) : Bool := l.all fun o => !isDefer o.op
theorem plainOps_at {l : List Oper} (h : plainOps l = true) {i : Nat} {o : Oper} (ho : l.toArray[i]? = some o) : ∀ c, o.op ≠ .defer c := by
  intro c hc
  have := List.all_eq_true.1 h o (List.mem_of_getElem? (by simpa using ho))
  rw [hc] at this
  cases this
/-- What reads at a function's own level reads in a round. -/
theorem read_round {n l2 i : Nat} {K : Act → Prop} {K' : Act → World → Prop} {a : Act} {w : World} (hd : ∀ (i : Nat) (o : Oper), ops[i]? = some o → ∀ c, o.op ≠ .defer c) (hK : ∀ a, K a → K' a w) (h : stOp P ops w i K a) :
    wpOpIn (Fence.wide.inRound l2) n P ops Q i K' a w := by
  unfold wpOpIn
  split
  · rename_i ho
    unfold stOp at h
    simp only [ho] at h
    exact hK _ h
  · rename_i o ho
    obtain ⟨v, hy, hv⟩ := yieldsAt_of_stOp ho h
    rcases hy with ⟨hw, hr | ⟨hr, rfl⟩ | ⟨f, args, hr, hc⟩⟩ | ⟨hw, rfl⟩
    · rw [if_pos hw]
      refine ⟨fun _ _ => trivial, ?_⟩
      rw [Fence.inRound_round, Oper.semAt_some l2 _ _ (hd i o ho), hr]
      exact hK _ hv
    · rw [if_pos hw]
      refine ⟨fun _ _ => trivial, ?_⟩
      rw [Fence.inRound_round, Oper.semAt_some l2 _ _ (hd i o ho), hr]
      exact hK _ hv
    · rw [if_pos hw]
      refine ⟨fun _ _ => trivial, ?_⟩
      rw [Fence.inRound_round, Oper.semAt_some l2 _ _ (hd i o ho), hr]
      refine ⟨fun h => (by cases h), CallsIn.inRound l2 (callsIn_wide.2 (hc.mono ?_))⟩
      rintro e w'' ⟨rfl, rfl⟩
      exact hK _ hv
    · rw [if_neg (by rw [hw]; simp)]
      exact ⟨fun _ _ => trivial, hK _ hv⟩
theorem head_round {n k g l2 : Nat} {w : World} {L : Array Bool → Act → Prop} (hd : ∀ (i : Nat) (o : Oper), ops[i]? = some o → ∀ c, o.op ≠ .defer c) (hL : ∀ listed a, L listed a → wpAnyIn (Fence.wide.inRound l2) n P md ops Q g listed a w) :
    ∀ (f : Nat) (listed : Array Bool) (a : Act), wpAnyL P md ops w k L f listed a → wpAnyIn (Fence.wide.inRound l2) n P md ops Q (f + g) listed a w
  | 0, listed, a, h => by rw [Nat.zero_add]; exact hL _ _ h
  | f + 1, listed, a, h => by
    rw [Nat.add_right_comm]
    exact ⟨fun e => absurd e h.1, fun i hi => read_round hd (fun a' h' => head_round hd hL f _ a' h') (h.2 i hi).2⟩
theorem seq_round {n l2 : Nat} : ∀ (l : List Oper) (k : Nat) (listed : Array Bool) (a : Act) (w : World), (∀ j, l[j]? = ops[k + j]?) → Region.seqB md ops l.length k listed = true → wpListIn (Fence.wide.inRound l2) n P ops Q l a w →
    wpAnyIn (Fence.wide.inRound l2) n P md ops Q l.length listed a w
  | [], _, _, _, _, _, hB, h => ⟨by simpa [Region.seqB] using hB, h⟩
  | o :: l, k, listed, a, w, hl, hB, h => by
    have h0 : ops[k]? = some o := by have := hl 0; simpa using this.symm
    simp only [List.length_cons, Region.seqB, Bool.and_eq_true, decide_eq_true_eq] at hB
    obtain ⟨hr, hB'⟩ := hB
    refine ⟨fun e => (by rw [hr] at e; cases e), fun i hi => ?_⟩
    rw [hr, List.mem_singleton] at hi
    subst hi
    have hw : wpOpIn (Fence.wide.inRound l2) n P ops Q i (wpListIn (Fence.wide.inRound l2) n P ops Q l) a w := by
      unfold wpOpIn
      simp only [h0]
      exact h
    exact wpOpIn_mono (fun a' w' h' => seq_round l (i + 1) _ a' w' (fun j => by have := hl (j + 1); rw [show i + 1 + j = i + (j + 1) by omega, ← this]; simp) hB' h') hw
/-- The first k operations read; the others follow one another. -/
theorem wpIn_round_tail {id n l2 : Nat} {a : Act} {w : World} {l : List Oper} (k : Nat) (hm : P.follows .mixedOrders = true) (hB : Region.lexTailB .any l.toArray k = true) (hp : plainOps l = true)
    (h : wpStill P l.toArray w.drew (fun a' => wpListIn (Fence.wide.inRound l2) n P l.toArray Q (l.drop k) a' w.drew) (l.take k) a) : (Code.region id l.toArray true).wpIn (Fence.wide.inRound l2) n P Q a w := by
  simp only [Region.lexTailB, Bool.and_eq_true, decide_eq_true_eq] at hB
  obtain ⟨⟨⟨⟨h1, h2⟩, h3⟩, h4⟩, h5⟩ := hB
  have hs : l.toArray.size = l.length := by simp
  have ht : (l.take k).length = k := by rw [List.length_take]; omega
  have hd : l.toArray.size - k = (l.drop k).length := by rw [List.length_drop]; omega
  have H := wpAnyL_lex (md := .any) h1 h3 h4 h2 (l.take k) 0 _ a (fun j hj => by rw [List.getElem?_take_of_lt (by omega)]; simp) (by omega)
    ⟨Array.size_replicate, fun j _ _ hl => (by rw [getD_replicate_false] at hl; cases hl), fun t _ hl => getD_in (by simpa using hl) (getD_replicate_false _ _)⟩ (by rw [ht]; exact h5) h
  have G := head_round (Q := Q) (n := n) (l2 := l2) (g := (l.drop k).length) (fun i o ho => plainOps_at hp ho)
    (fun listed a' hL => seq_round (md := .any) (l.drop k) k listed a' w.drew (fun j => by simp [List.getElem?_drop]) (by rw [← hd]; exact hL.1) hL.2) _ _ _ H
  rw [ht, show k + (l.drop k).length = l.toArray.size by omega] at G
  exact wpIn_region_any hm G
/-- What reads at a function's own level reads in its fence. -/
theorem read_wide {n i : Nat} {K : Act → Prop} {K' : Act → World → Prop} {a : Act} {w : World} (hd : ∀ (i : Nat) (o : Oper), ops[i]? = some o → ∀ c, o.op ≠ .defer c) (hK : ∀ a, K a → K' a w) (h : stOp P ops w i K a) :
    wpOpIn Fence.wide n P ops Q i K' a w := by
  unfold wpOpIn
  split
  · rename_i ho
    unfold stOp at h
    simp only [ho] at h
    exact hK _ h
  · rename_i o ho
    obtain ⟨v, hy, hv⟩ := yieldsAt_of_stOp ho h
    rcases hy with ⟨hw, hr | ⟨hr, rfl⟩ | ⟨f, args, hr, hc⟩⟩ | ⟨hw, rfl⟩
    · rw [if_pos hw]
      refine ⟨fun _ _ => trivial, ?_⟩
      rw [Oper.semAt_plain Fence.wide _ _ (hd i o ho), hr]
      exact hK _ hv
    · rw [if_pos hw]
      refine ⟨fun _ _ => trivial, ?_⟩
      rw [Oper.semAt_plain Fence.wide _ _ (hd i o ho), hr]
      exact hK _ hv
    · rw [if_pos hw]
      refine ⟨fun _ _ => trivial, ?_⟩
      rw [Oper.semAt_plain Fence.wide _ _ (hd i o ho), hr]
      refine ⟨fun h => (by cases h), callsIn_wide.2 (hc.mono ?_)⟩
      rintro e w'' ⟨rfl, rfl⟩
      exact hK _ hv
    · rw [if_neg (by rw [hw]; simp)]
      exact ⟨fun _ _ => trivial, hK _ hv⟩
theorem head_wide {n k g : Nat} {w : World} {L : Array Bool → Act → Prop} (hd : ∀ (i : Nat) (o : Oper), ops[i]? = some o → ∀ c, o.op ≠ .defer c) (hL : ∀ listed a, L listed a → wpAnyIn Fence.wide n P md ops Q g listed a w) :
    ∀ (f : Nat) (listed : Array Bool) (a : Act), wpAnyL P md ops w k L f listed a → wpAnyIn Fence.wide n P md ops Q (f + g) listed a w
  | 0, listed, a, h => by rw [Nat.zero_add]; exact hL _ _ h
  | f + 1, listed, a, h => by
    rw [Nat.add_right_comm]
    exact ⟨fun e => absurd e h.1, fun i hi => read_wide hd (fun a' h' => head_wide hd hL f _ a' h') (h.2 i hi).2⟩
theorem seq_wide {n : Nat} : ∀ (l : List Oper) (k : Nat) (listed : Array Bool) (a : Act) (w : World), (∀ j, l[j]? = ops[k + j]?) → Region.seqB md ops l.length k listed = true → wpListIn Fence.wide n P ops Q l a w →
    wpAnyIn Fence.wide n P md ops Q l.length listed a w
  | [], _, _, _, _, _, hB, h => ⟨by simpa [Region.seqB] using hB, h⟩
  | o :: l, k, listed, a, w, hl, hB, h => by
    have h0 : ops[k]? = some o := by have := hl 0; simpa using this.symm
    simp only [List.length_cons, Region.seqB, Bool.and_eq_true, decide_eq_true_eq] at hB
    obtain ⟨hr, hB'⟩ := hB
    refine ⟨fun e => (by rw [hr] at e; cases e), fun i hi => ?_⟩
    rw [hr, List.mem_singleton] at hi
    subst hi
    have hw : wpOpIn Fence.wide n P ops Q i (wpListIn Fence.wide n P ops Q l) a w := by
      unfold wpOpIn
      simp only [h0]
      exact h
    exact wpOpIn_mono (fun a' w' h' => seq_wide l (i + 1) _ a' w' (fun j => by have := hl (j + 1); rw [show i + 1 + j = i + (j + 1) by omega, ← this]; simp) hB' h') hw
/-- The first k operations read; the others follow one another. -/
theorem wpIn_wide_tail {id n : Nat} {a : Act} {w : World} {l : List Oper} (k : Nat) (hm : P.follows .mixedOrders = true) (hB : Region.lexTailB .any l.toArray k = true) (hp : plainOps l = true)
    (h : wpStill P l.toArray w.drew (fun a' => wpListIn Fence.wide n P l.toArray Q (l.drop k) a' w.drew) (l.take k) a) : (Code.region id l.toArray true).wpIn Fence.wide n P Q a w := by
  simp only [Region.lexTailB, Bool.and_eq_true, decide_eq_true_eq] at hB
  obtain ⟨⟨⟨⟨h1, h2⟩, h3⟩, h4⟩, h5⟩ := hB
  have hs : l.toArray.size = l.length := by simp
  have ht : (l.take k).length = k := by rw [List.length_take]; omega
  have hd : l.toArray.size - k = (l.drop k).length := by rw [List.length_drop]; omega
  have H := wpAnyL_lex (md := .any) h1 h3 h4 h2 (l.take k) 0 _ a (fun j hj => by rw [List.getElem?_take_of_lt (by omega)]; simp) (by omega)
    ⟨Array.size_replicate, fun j _ _ hl => (by rw [getD_replicate_false] at hl; cases hl), fun t _ hl => getD_in (by simpa using hl) (getD_replicate_false _ _)⟩ (by rw [ht]; exact h5) h
  have G := head_wide (Q := Q) (n := n) (g := (l.drop k).length) (fun i o ho => plainOps_at hp ho)
    (fun listed a' hL => seq_wide (md := .any) (l.drop k) k listed a' w.drew (fun j => by simp [List.getElem?_drop]) (by rw [← hd]; exact hL.1) hL.2) _ _ _ H
  rw [ht, show k + (l.drop k).length = l.toArray.size by omega] at G
  exact wpIn_region_any hm G

end Go.Proofs.YtekhgidbnpfmnaaGreatDoor
