/- A walk from place to place by what waits: its steps, and how many there may be. Nothing of any program. -/
import Derived.Test.YtggiaopdgijgnaaDoorGraP
namespace Go.Proofs.YtggiaopdgijgnaaDoor
namespace Gra
/-- What a walk came to: which places, in which order, from which one to each; what waits (the last one on top). -/
structure Tr where
  came : Nat → Bool
  ord : List Nat
  fr : Nat → Int
  st : List (Int × Nat)
section
variable {σ : Type} (mv : σ → Nat → Bool) (ms : σ → Nat → σ)
/-- Places that one leads to wait, such as were not come to, and may be. -/
def waitS (came : Nat → Bool) (f : Int) : List Nat → σ → List (Int × Nat) → σ × List (Int × Nat)
  | [], s, st => (s, st)
  | x :: l, s, st => if came x then waitS came f l s st else waitS came f l (ms s x) (if mv s x then st ++ [(f, x)] else st)
def upB (f : Nat → Bool) (k : Nat) : Nat → Bool := fun i => if i = k then true else f i
def upI (f : Nat → Int) (k : Nat) (v : Int) : Nat → Int := fun i => if i = k then v else f i
/-- A place comes up. -/
def comeT (T : Tr) (f : Int) (x : Nat) : Tr := { came := upB T.came x, ord := T.ord ++ [x], fr := upI T.fr x f, st := T.st }
/-- The topmost one that waits goes. -/
def stepT (N : Nat → List Nat) (st0 : List (Int × Nat)) (f : Int) (x : Nat) (s : σ) (T : Tr) : σ × Tr :=
  if T.came x then (s, { T with st := st0 })
  else
    let r := waitS mv ms (upB T.came x) (x : Int) (N x) s st0
    (r.1, { comeT T f x with st := r.2 })
/-- One after another. -/
inductive GoT (N : Nat → List Nat) : σ × Tr → σ × Tr → Prop
  | refl (x : σ × Tr) : GoT N x x
  | next {a b : σ × Tr} {st0 : List (Int × Nat)} {f : Int} {x : Nat} : GoT N a b → b.2.st = st0 ++ [(f, x)] → GoT N a (stepT mv ms N st0 f x b.1 b.2)
end
/-- How many of the first n were not come to. -/
def uncame (n : Nat) (came : Nat → Bool) : Nat := ((List.range n).filter fun i => !came i).length
theorem uncame_up {n x : Nat} {came : Nat → Bool} (hx : x < n) (h : came x = false) : uncame n (upB came x) + 1 = uncame n came := by
  have left_one : ∀ {p : Nat → Bool} {j : Nat} (_ : p j = true), ∀ k, ((List.range k).filter fun i => p i && !(i == j)).length + (if j < k then 1 else 0) = ((List.range k).filter p).length := by
    intro p j hp k
    induction k with
    | zero => simp
    | succ k ih =>
      rw [List.range_succ, List.filter_append, List.filter_append, List.length_append, List.length_append]
      by_cases e : k = j
      · subst e
        rw [if_neg (by omega)] at ih
        rw [if_pos (by omega)]
        simp [hp] at *
        omega
      · have h1 : (List.filter (fun i => p i && !(i == j)) [k]).length = (List.filter p [k]).length := by
          have : (k == j) = false := by simpa using e
          simp [List.filter_cons, this]
        by_cases hk : j < k
        · rw [if_pos hk] at ih
          rw [if_pos (by omega)]
          omega
        · rw [if_neg hk] at ih
          rw [if_neg (by omega)]
          omega
  have h1 := left_one (p := fun i => !came i) (j := x) (by simp [h]) n
  rw [if_pos hx] at h1
  unfold uncame
  rw [← h1]
  congr 2
  apply List.filter_congr
  intro i _
  unfold upB
  by_cases e : i = x
  · subst e; simp
  · rw [if_neg e]
    have : (i == x) = false := by simpa using e
    simp [this]
/-- What holds of the numbers: as many as there are places, none of another one; no more wait than may. -/
structure SizeT (n D M : Nat) (T : Tr) : Prop where
  cnt : T.ord.length + uncame n T.came = n
  ins : ∀ y ∈ T.st, y.2 < n
  room : T.st.length + uncame n T.came * (D + 1) ≤ M
section
variable {σ : Type} {mv : σ → Nat → Bool} {ms : σ → Nat → σ}
theorem waitS_size {came : Nat → Bool} {f : Int} {n : Nat} : ∀ (l : List Nat) (s : σ) (st : List (Int × Nat)), (∀ x ∈ l, x < n) → (∀ y ∈ st, y.2 < n) →
    (waitS mv ms came f l s st).2.length ≤ st.length + l.length ∧ ∀ y ∈ (waitS mv ms came f l s st).2, y.2 < n
  | [], _, st, _, h => ⟨by simp [waitS], h⟩
  | x :: l, s, st, hl, h => by
    unfold waitS
    split
    · obtain ⟨h1, h2⟩ := waitS_size l s st (fun y hy => hl y (List.mem_cons_of_mem _ hy)) h
      exact ⟨by simp; omega, h2⟩
    · have h3 : ∀ y ∈ (if mv s x then st ++ [(f, x)] else st), y.2 < n := by
        split
        · intro y hy
          rcases List.mem_append.1 hy with hy | hy
          · exact h y hy
          · obtain rfl := List.mem_singleton.1 hy
            exact hl x (by simp)
        · exact h
      obtain ⟨h1, h2⟩ := waitS_size l (ms s x) _ (fun y hy => hl y (List.mem_cons_of_mem _ hy)) h3
      refine ⟨Nat.le_trans h1 ?_, h2⟩
      split <;> simp <;> omega
theorem waitS_len {came : Nat → Bool} {f : Int} : ∀ (l : List Nat) (s : σ) (st : List (Int × Nat)), (waitS mv ms came f l s st).2.length ≤ st.length + l.length
  | [], _, st => by simp [waitS]
  | x :: l, s, st => by
    unfold waitS
    split
    · have h1 := waitS_len (came := came) (f := f) l s st
      simp; omega
    · refine Nat.le_trans (waitS_len l (ms s x) _) ?_
      split <;> simp <;> omega
theorem waitS_snoc {came : Nat → Bool} {f : Int} : ∀ (l : List Nat) (x : Nat) (s : σ) (st : List (Int × Nat)), waitS mv ms came f (l ++ [x]) s st = if came x then waitS mv ms came f l s st else (ms (waitS mv ms came f l s st).1 x, if mv (waitS mv ms came f l s st).1 x then (waitS mv ms came f l s st).2 ++ [(f, x)] else (waitS mv ms came f l s st).2)
  | [], x, s, st => by
    simp only [List.nil_append, waitS]
    split <;> rfl
  | y :: l, x, s, st => by
    simp only [List.cons_append, waitS]
    split
    · exact waitS_snoc l x s st
    · exact waitS_snoc l x _ _
theorem SizeT.step {N : Nat → List Nat} {n D M : Nat} {s : σ} {T : Tr} {st0 : List (Int × Nat)} {f : Int} {x : Nat} (h : SizeT n D M T) (e : T.st = st0 ++ [(f, x)]) (hN : ∀ p q, q ∈ N p → q < n) (hD : ∀ p, (N p).length ≤ D) :
    SizeT n D M (stepT mv ms N st0 f x s T).2 ∧ (stepT mv ms N st0 f x s T).2.st.length + uncame n (stepT mv ms N st0 f x s T).2.came * (D + 1) < T.st.length + uncame n T.came * (D + 1) := by
  have hx : x < n := h.ins (f, x) (by rw [e]; simp)
  have hin : ∀ y ∈ st0, y.2 < n := fun y hy => h.ins y (by rw [e]; exact List.mem_append_left _ hy)
  have hlen : T.st.length = st0.length + 1 := by rw [e]; simp
  have hr := h.room
  unfold stepT
  split
  · exact ⟨⟨h.cnt, hin, by simp only; omega⟩, by simp only; omega⟩
  · rename_i hc
    have hc' : T.came x = false := by simpa using hc
    have hu := uncame_up hx hc'
    obtain ⟨h1, h2⟩ := waitS_size (mv := mv) (ms := ms) (came := upB T.came x) (f := (x : Int)) (N x) s st0 (hN x) hin
    have h3 := hD x
    have h4 : uncame n T.came * (D + 1) = uncame n (upB T.came x) * (D + 1) + (D + 1) := by rw [← hu, Nat.add_mul, Nat.one_mul]
    have h5 := h.cnt
    refine ⟨⟨?_, h2, ?_⟩, ?_⟩
    · show (T.ord ++ [x]).length + uncame n (upB T.came x) = n
      rw [List.length_append]; simp; omega
    · show (waitS mv ms (upB T.came x) (x : Int) (N x) s st0).2.length + uncame n (upB T.came x) * (D + 1) ≤ M
      omega
    · show (waitS mv ms (upB T.came x) (x : Int) (N x) s st0).2.length + uncame n (upB T.came x) * (D + 1) < _
      omega
theorem waitS_from {came : Nat → Bool} {f : Int} : ∀ (l : List Nat) (s : σ) (st : List (Int × Nat)), ∀ y ∈ (waitS mv ms came f l s st).2, y ∈ st ∨ y.1 = f
  | [], _, _, y, hy => .inl hy
  | x :: l, s, st, y, hy => by
    unfold waitS at hy
    split at hy
    · exact waitS_from l s st y hy
    · rcases waitS_from l _ _ y hy with h | h
      · split at h
        · rcases List.mem_append.1 h with h | h
          · exact .inl h
          · obtain rfl := List.mem_singleton.1 h
            exact .inr rfl
        · exact .inl h
      · exact .inr h
/-- What waits came from a place, or from none. -/
def FromT (n : Nat) (T : Tr) : Prop := ∀ y ∈ T.st, -1 ≤ y.1 ∧ y.1 ≤ (n : Int)
theorem FromT.step {N : Nat → List Nat} {n : Nat} {s : σ} {T : Tr} {st0 : List (Int × Nat)} {f : Int} {x : Nat} (h : FromT n T) (e : T.st = st0 ++ [(f, x)]) (hx : x < n) : FromT n (stepT mv ms N st0 f x s T).2 := by
  have h0 : ∀ y ∈ st0, -1 ≤ y.1 ∧ y.1 ≤ (n : Int) := fun y hy => h y (by rw [e]; exact List.mem_append_left _ hy)
  unfold stepT
  split
  · exact h0
  · intro y hy
    rcases waitS_from _ _ _ y hy with h1 | h1
    · exact h0 y h1
    · exact ⟨by omega, by omega⟩
theorem uncame_none (n : Nat) : uncame n (fun _ => false) = n := by
  have e : ((List.range n).filter fun i => !(fun _ => false : Nat → Bool) i) = List.range n := List.filter_eq_self.2 fun _ _ => rfl
  unfold uncame
  rw [e, List.length_range]
/-- How a walk begins. -/
def startT (st : List (Int × Nat)) : Tr := { came := fun _ => false, ord := [], fr := fun _ => 0, st := st }
theorem SizeT.start {n D : Nat} {st : List (Int × Nat)} (h : ∀ y ∈ st, y.2 < n) : SizeT n D (st.length + n * (D + 1)) (startT st) :=
  ⟨(Nat.zero_add _).trans (uncame_none n), h, by have e := uncame_none n; show st.length + uncame n (fun _ => false) * (D + 1) ≤ _; rw [e]; exact Nat.le_refl _⟩
end
end Gra
end Go.Proofs.YtggiaopdgijgnaaDoor
