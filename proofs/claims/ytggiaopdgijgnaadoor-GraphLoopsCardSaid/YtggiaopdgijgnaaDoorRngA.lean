/- A range over a function that hands on several values a round: the contract of such an iterator, and the law of the loop over it. Nothing of any program. -/
import Derived.Test.YtggiaopdgijgnaaDoorRng
namespace Go.Proofs.YtggiaopdgijgnaaDoor
open Go.RowKit Go.Shelf

/-- **The contract of an iterator.** K: the blocks that it reads between two rounds, beside its own; S xs: all have come; Sp pre: a part has, a round having said no; T xs: these may have come, up to a round. -/
def SeqA {α : Type} (F : Fence) (n : Nat) (P : Program) (g : Nat) (lb : Array Value) (enc : α → Array Value) (K : Nat → Prop) (S Sp T : List α → Prop) (w : World) : Prop :=
  ∀ (l : Nat) (J Jx : Option Nat → List α → World → Prop) (o : Option Nat) (W : World), Below w.heap.size w W → (∀ o, OwnFrom W.heap.size (J o)) → (∀ o, OwnFrom W.heap.size (Jx o)) →
    (∀ o xs W', J o xs W' → ∀ k, o = some k → k < W'.heap.size) → (∀ k, K k → o ≠ some k) →
    (∀ o pre x W1, J o pre W1 → T (pre ++ [x]) → YieldAt F (n - 1) P l (enc x) W1 fun e W' => ∃ o', Calm K W.heap.size o o' W1 W' ∧
      ((e = .returned (.bool true) ∧ J o' (pre ++ [x]) W') ∨ (e = .returned (.bool false) ∧ Jx o' (pre ++ [x]) W'))) →
    J o [] W →
    CallsIn F n P g (#[.func (.yield l) #[] #[]] ++ lb) W fun e W' => (∃ v, e = .returned v) ∧ ∃ o', ((∃ xs, S xs ∧ J o' xs W') ∨ (∃ pre, Sp pre ∧ Jx o' pre W'))


variable {F : Fence} {n : Nat} {P : Program}

/-- One call of yield: the loop's round. -/
theorem yield_roundA {fn : FuncId} {tmps : Array Value} {ps : Array Tmp} {assign body : Code} {D L : Nat} {W : World} {vs : Array Value} {R : Ending → World → Prop} (hfn : F.fn fn) (hps : ps.size = vs.size)
    (hl : W.heap[L]? = some (.loop (recR fn tmps ps assign body D .ready none))) (a1 : Act) (V : World) (hlV : V.heap[L]? = some (.loop (recR fn tmps ps assign body D .ready none)))
    (hassign : ∀ Kc : Act → World → Prop, Kc a1 V → assign.wpIn (F.inRound L) n P (Exit.then Kc (fun _ _ _ => False)) { tmps := (ps.zip vs).foldl (fun t (p, v) => t.setIfInBounds p v) tmps, defers := [] } W)
    (hbody : body.wpIn (F.inRound L) n P (endsR L (recR fn tmps ps assign body D) R) a1 (V.putObj L (.loop (recR fn tmps ps assign body D .busy none)))) :
    YieldAt F n P L vs W R := by
  have hy := run_yield (P := P) (args := vs) hl (by simp [recR, hps])
  refine ⟨fn, _, assign, body, hy, roundIn_of_wpIn hfn (hassign _ ?_)⟩
  refine ⟨_, run_beginRound hlV rfl, wpIn_mono hbody ?_⟩
  rintro e a3 W3 hp
  cases e with
  | normal => exact ⟨_, _, run_endRound none hp.1, hp.2⟩
  | ret => exact ⟨_, _, run_endRound (some .ret) hp.1, hp.2⟩
  | exit i => exact ⟨_, _, run_endRound (some (.exit i)) hp.1, hp.2⟩
  | goto t => exact ⟨_, _, run_endRound (some (.goto t)) hp.1, hp.2⟩
  | panic ch => exact hp.elim
  | outgrown => exact hp.elim

/-- **The loop over such an iterator**, at a function's own level. -/
theorem wpIn_rangeA {α : Type} {g : Operand} {ps : Array Tmp} {assign body : Code} {Q : Exit → Act → World → Prop} {a : Act} {w : World}
    (hro : F.round = none) (h1 : 1 ≤ n) {gf : Nat} {lb : Array Value} (hg : a.eval g = .func (.func gf) #[] lb) (hFg : F.fn gf) (eg : ∀ args w, (callFunc gf args).run P w = .ok (.enter gf args) w)
    {enc : α → Array Value} {K : Nat → Prop} {S Sp T : List α → Prop} {w0 : World} (hseq : SeqA F (n - 1) P gf lb enc K S Sp T w0) (hb0 : Below w0.heap.size w0 w) (hK : ∀ k, K k → k < w.heap.size) (hps : ∀ x, ps.size = (enc x).size)
    (I : Option Nat → List α → World → Prop) (Ix : Code → Option Nat → List α → World → Prop) (hI : ∀ o, OwnFrom w.heap.size (I o)) (hIx : ∀ c o, OwnFrom w.heap.size (Ix c o))
    (hIo : ∀ o xs W, I o xs W → ∀ k, o = some k → k < W.heap.size) (o : Option Nat) (hoK : ∀ k, K k → o ≠ some k) (h0 : I o [] w) (a₁ : α → World → Act) (wa : α → World → World) (hwa : ∀ (x : α) (W : World), W.grownBy (wa x W) none)
    (hassign : ∀ (l : Nat) (x : α) (W : World) (Kc : Act → World → Prop), Kc (a₁ x W) (wa x W) →
      assign.wpIn (F.inRound l) (n - 1 - 1) P (Exit.then Kc (fun _ _ _ => False)) { tmps := (ps.zip (enc x)).foldl (fun t (p, v) => t.setIfInBounds p v) a.tmps, defers := [] } W)
    (hbody : ∀ (l : Nat) (o : Option Nat) (pre : List α) (x : α) (W X : World), I o pre X → T (pre ++ [x]) → W.heap.size ≤ (wa x W).heap.size → w.heap.size ≤ W.heap.size → X.heap.size = (wa x W).heap.size → (∀ k, W.heap.size ≤ k → X.heap[k]? = (wa x W).heap[k]?) → body.wpIn (F.inRound l) (n - 1 - 1) P (leftR K w.heap.size o I Ix (pre ++ [x]) X) (a₁ x W) X)
    (hdone : ∀ (D : Nat) (o : Option Nat) (xs : List α) (W : World), w.heap.size ≤ D → S xs → I o xs W → W.heap[D]? = some (.deferred (some [])) → o ≠ some D → Q .normal { a with defers := { target := .collected D, args := #[] } :: a.defers } W)
    (hstop : ∀ (D : Nat) (c : Code) (o : Option Nat) (pre : List α) (W : World), w.heap.size ≤ D → Sp pre → Ix c o pre W → W.heap[D]? = some (.deferred (some [])) → o ≠ some D → c.wpIn F n P Q { a with defers := { target := .collected D, args := #[] } :: a.defers } W) :
    (Code.rangeFunc g ps assign body).wpIn F n P Q a w := by
  refine wpIn_rangeFunc fun fn hfn => ?_
  rw [hro]
  obtain ⟨r, hr⟩ : ∃ r, recR fn a.tmps ps assign body w.heap.size = r := ⟨_, rfl⟩
  obtain ⟨W1, hW1⟩ : ∃ W1, (w.alloc (.deferred (some []))).alloc (.loop (r .ready none)) = W1 := ⟨_, rfl⟩
  have hs1 : W1.heap.size = w.heap.size + 2 := by rw [← hW1]; simp
  have hL1 : W1.heap[w.heap.size + 1]? = some (.loop (r .ready none)) := by
    rw [← hW1]; have := World.alloc_heap_new (w.alloc (.deferred (some []))) (.loop (r .ready none)); rwa [World.size_alloc] at this
  have hD1 : W1.heap[w.heap.size]? = some (.deferred (some [])) := by
    rw [← hW1]; exact (Below.heap_alloc _ _ _ (by simp)).trans (World.alloc_heap_new w _)
  have hI1 : I o [] W1 := by rw [← hW1]; exact (hI o).alloc _ ((hI o).alloc _ h0)
  have hb1 : Below w0.heap.size w0 W1 := by
    rw [← hW1]; exact hb0.trans ((((Below.refl _ w).alloc (Nat.le_refl _) _).alloc (by simp) _).mono hb0.size)
  have ho0 := hIo o _ _ h0
  refine ⟨w.heap.size + 1, [{ target := .collected w.heap.size, args := #[] }], W1, { target := .fn (.func gf) lb, args := #[.func (.yield (w.heap.size + 1)) #[] #[]] }, W1, gf,
    #[.func (.yield (w.heap.size + 1)) #[] #[]] ++ lb, W1, ?_, ?_, ?_, ?_, fun _ => h1, ?_⟩
  · rw [← hW1, ← hr]; exact run_enterLoop_outer _ _ _ _ _
  · simp only [resolve, hg]
    simp [go_sem]
  · intro f' hf'; simp [Target.leads] at hf'; subst hf'; exact hFg
  · simp [invoke, go_sem, eg]
  · -- what stands beside the caller's own: the record, the block for deferred calls
    have far : ∀ {X Y : World} {row : Option Nat} {k : Nat} {ob : Obj}, k < W1.heap.size → X.heap[k]? = some ob → X.grownBy Y row → (∀ q, row = some q → W1.heap.size ≤ q ∧ ∃ o : Obj, X.heap[q]? = some o ∧ o.isCells = false) → Y.heap[k]? = some ob := by
      intro X Y row k ob hk hx hg hq
      exact (hg.block k (Array.getElem?_eq_some_iff.1 hx).1 (fun e => by have := (hq k e.symm).1; omega)).trans hx
    have near : ∀ {X : World} {row : Option Nat}, (∀ q, row = some q → W1.heap.size ≤ q ∧ ∃ o : Obj, X.heap[q]? = some o ∧ o.isCells = false) → (∀ q, row = some q → w.heap.size ≤ q ∧ ∃ o : Obj, X.heap[q]? = some o ∧ o.isCells = false) :=
      fun hq q e => ⟨by have := (hq q e).1; omega, (hq q e).2⟩
    refine (hseq (w.heap.size + 1)
      (fun o pre W => I o pre W ∧ W.heap[w.heap.size + 1]? = some (.loop (r .ready none)) ∧ W.heap[w.heap.size]? = some (.deferred (some [])) ∧ o ≠ some (w.heap.size + 1) ∧ o ≠ some w.heap.size)
      (fun o pre W => ∃ c, Ix c o pre W ∧ W.heap[w.heap.size + 1]? = some (.loop (r .done (some c))) ∧ W.heap[w.heap.size]? = some (.deferred (some [])) ∧ o ≠ some w.heap.size)
      o W1 hb1
      (fun o s A B row hs hg' hq => ⟨hI o s A B row hs.1 hg' (near hq), far (by omega) hs.2.1 hg' hq, far (by omega) hs.2.2.1 hg' hq, hs.2.2.2⟩)
      (fun o s A B row hs hg' hq => by
        obtain ⟨c, hc, hl, hd, h4⟩ := hs
        exact ⟨c, hIx c o s A B row hc hg' (near hq), far (by omega) hl hg' hq, far (by omega) hd hg' hq, h4⟩)
      (fun o xs W hs => hIo o xs W hs.1) hoK
      ?_ ⟨hI1, hL1, hD1, fun e => by have := ho0 _ e; omega, fun e => by have := ho0 _ e; omega⟩).mono ?_
    · -- one round
      rintro o pre x W ⟨hi, hl, hd, hoL, hoD⟩ hlen
      have hltW : w.heap.size + 1 < W.heap.size := (Array.getElem?_eq_some_iff.1 hl).1
      have hgV := hwa x W
      obtain ⟨V, hV⟩ : ∃ V, wa x W = V := ⟨_, rfl⟩
      rw [hV] at hgV
      have hlV := (hgV.block _ hltW (by simp)).trans hl
      have hdV := (hgV.block _ (by omega) (by simp)).trans hd
      have hiV := hI o _ _ _ none hi hgV (fun _ e => by cases e)
      have hlt : w.heap.size + 1 < V.heap.size := Nat.lt_of_lt_of_le hltW hgV.size
      have hcV : Calm K W1.heap.size o o W V := Calm.of_grown hgV (fun _ e => by cases e)
      subst hr
      refine yield_roundA hfn (hps x) hl (a₁ x W) V hlV (fun Kc h => hassign _ x W Kc (by rw [hV]; exact h)) (wpIn_mono (hbody _ o pre x W (V.putObj (w.heap.size + 1) (.loop (recR fn a.tmps ps assign body w.heap.size .busy none))) ((hI o).putObj _ hiV (by omega) hlV rfl) hlen (by rw [hV]; exact hgV.size) (by omega) (by rw [hV]; simp [World.putObj]) (fun k hk => by rw [hV]; exact World.putObj_heap_other (by omega))) ?_)
      obtain ⟨r, hr⟩ : ∃ r, recR fn a.tmps ps assign body w.heap.size = r := ⟨_, rfl⟩
      rw [hr] at *
      -- what a round's end makes of the body's word
      have fin : ∀ {o' : Option Nat} {W3 : World} (st : LoopState) (pe : Option Code), Calm K w.heap.size o o' (V.putObj (w.heap.size + 1) (.loop (r .busy none))) W3 →
          W3.heap[w.heap.size + 1]? = some (.loop (r .busy none)) ∧ Calm K W1.heap.size o o' V (W3.putObj (w.heap.size + 1) (.loop (r st pe))) ∧
          (W3.putObj (w.heap.size + 1) (.loop (r st pe))).heap[w.heap.size + 1]? = some (.loop (r st pe)) ∧ (W3.putObj (w.heap.size + 1) (.loop (r st pe))).heap[w.heap.size]? = some (.deferred (some [])) ∧
          o' ≠ some (w.heap.size + 1) ∧ o' ≠ some w.heap.size := by
        intro o' W3 st pe hc
        have hsz : (V.putObj (w.heap.size + 1) (.loop (r .busy none))).heap.size = V.heap.size := by simp [World.putObj]
        have e1 := hc.block (.inr (by omega)) hoL (World.putObj_heap_same hlt)
        have e2 := hc.block (k := w.heap.size) (.inr (Nat.le_refl _)) hoD ((World.putObj_heap_other (by omega)).trans hdV)
        refine ⟨e1, ⟨?_, fun k hk hl' ho => ?_, ?_⟩, World.putObj_heap_same (Array.getElem?_eq_some_iff.1 e1).1, (World.putObj_heap_other (by omega)).trans e2, hc.off (by omega) hoL, hc.off (by omega) hoD⟩
        · have := hc.size; rw [hsz] at this; simpa [World.putObj] using this
        · have hkL : k ≠ w.heap.size + 1 := by
            rcases hk with hk | hk
            · have := hK k hk; omega
            · omega
          rw [World.putObj_heap_other hkL]
          rw [hc.same k (hk.elim .inl fun h => .inr (by omega)) (by rw [hsz]; exact hl') ho, World.putObj_heap_other hkL]
        · have := hc.next; rwa [hsz] at this
      rintro e a3 W3 hp
      cases e with
      | normal =>
        obtain ⟨o', hc, hi3⟩ := hp
        obtain ⟨f1, f2, f3, f4, f5, f6⟩ := fin .ready none hc
        exact ⟨f1, o', hcV.trans f2, .inl ⟨rfl, (hI o').putObj _ hi3 (by omega) f1 rfl, f3, f4, f5, f6⟩⟩
      | ret =>
        obtain ⟨o', hc, hi3⟩ := hp
        obtain ⟨f1, f2, f3, f4, f5, f6⟩ := fin .done (some .ret) hc
        exact ⟨f1, o', hcV.trans f2, .inr ⟨rfl, _, (hIx _ o').putObj _ hi3 (by omega) f1 rfl, f3, f4, f6⟩⟩
      | exit i =>
        obtain ⟨o', hc, hi3⟩ := hp
        obtain ⟨f1, f2, f3, f4, f5, f6⟩ := fin .done (some (.exit i)) hc
        exact ⟨f1, o', hcV.trans f2, .inr ⟨rfl, _, (hIx _ o').putObj _ hi3 (by omega) f1 rfl, f3, f4, f6⟩⟩
      | goto t =>
        obtain ⟨o', hc, hi3⟩ := hp
        obtain ⟨f1, f2, f3, f4, f5, f6⟩ := fin .done (some (.goto t)) hc
        exact ⟨f1, o', hcV.trans f2, .inr ⟨rfl, _, (hIx _ o').putObj _ hi3 (by omega) f1 rfl, f3, f4, f6⟩⟩
      | panic ch => exact hp.elim
      | outgrown => exact hp.elim
    · -- behind the iterator
      have en : ∀ {W2 : World} (st : LoopState) (pe : Option Code), W2.heap[w.heap.size + 1]? = some (.loop (r st pe)) → st ≠ .busy → (Instr.endLoop (w.heap.size + 1)).run P W2 = .ok pe (W2.putObj (w.heap.size + 1) (.loop (r .exhausted pe))) := by
        intro W2 st pe hl hne
        subst hr
        exact run_endLoop hl hne
      rintro e W2 ⟨⟨v, rfl⟩, o', (⟨xs, hS, hi, hl, hd, _, h4⟩ | ⟨pre, hSp, c, hi, hl, hd, h4⟩)⟩
      · exact ⟨none, _, en _ _ hl (by simp), hdone _ o' xs _ (Nat.le_refl _) hS ((hI o').putObj _ hi (by omega) hl rfl) ((World.putObj_heap_other (by omega)).trans hd) h4⟩
      · exact ⟨some c, _, en _ _ hl (by simp), hstop _ c o' pre _ (Nat.le_refl _) hSp ((hIx c o').putObj _ hi (by omega) hl rfl) ((World.putObj_heap_other (by omega)).trans hd) h4⟩

end Go.Proofs.YtggiaopdgijgnaaDoor
