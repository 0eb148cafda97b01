/- A walk's end: it came to what is reached, each once. Nothing of any program. -/
import Derived.Test.YtggiaopdgijgnaaDoorGraW
namespace Go.Proofs.YtggiaopdgijgnaaDoor
namespace Gra
/-- What ways lead to from some places on, by such alone as may be. -/
inductive Came (N : Nat → List Nat) (mv : Nat → Bool) (l : List Nat) : Nat → Prop
  | start {x : Nat} : x ∈ l → mv x = true → Came N mv l x
  | next {p q : Nat} : Came N mv l p → q ∈ N p → mv q = true → Came N mv l q
section
variable {mv : Nat → Bool} {N : Nat → List Nat} {l0 : List Nat}
abbrev waitP (mv : Nat → Bool) (came : Nat → Bool) (f : Int) (l : List Nat) (st : List (Int × Nat)) : List (Int × Nat) := (waitS (σ := Unit) (fun _ p => mv p) (fun _ _ => ()) came f l () st).2
theorem waitP_is (came : Nat → Bool) (f : Int) : ∀ (l : List Nat) (st : List (Int × Nat)), waitP mv came f l st = st ++ (l.filter fun x => !came x && mv x).map fun x => (f, x)
  | [], st => by simp [waitP, waitS]
  | x :: l, st => by
    show (waitS (σ := Unit) (fun _ p => mv p) (fun _ _ => ()) came f (x :: l) () st).2 = _
    unfold waitS
    by_cases hc : came x = true
    · rw [if_pos hc]
      have h := waitP_is came f l st
      rw [List.filter_cons_of_neg (by simp [hc])]
      exact h
    · rw [if_neg hc]
      have hc' : came x = false := by simpa using hc
      by_cases hm : mv x = true
      · simp only [hm, if_true]
        have h := waitP_is came f l (st ++ [(f, x)])
        rw [List.filter_cons_of_pos (by simp [hc', hm]), List.map_cons]
        show waitP mv came f l (st ++ [(f, x)]) = _
        rw [h, List.append_assoc]
        rfl
      · have hm' : mv x = false := by simpa using hm
        simp only [hm', if_false, Bool.false_eq_true]
        have h := waitP_is came f l st
        rw [List.filter_cons_of_neg (by simp [hm'])]
        exact h
theorem waitP_mem {came : Nat → Bool} {f : Int} {l : List Nat} {st : List (Int × Nat)} {y : Int × Nat} : y ∈ waitP mv came f l st ↔ y ∈ st ∨ (y.1 = f ∧ y.2 ∈ l ∧ came y.2 = false ∧ mv y.2 = true) := by
  rw [waitP_is, List.mem_append, List.mem_map]
  constructor
  · rintro (h | ⟨x, hx, rfl⟩)
    · exact .inl h
    · have := List.mem_filter.1 hx
      simp only [Bool.and_eq_true, Bool.not_eq_true'] at this
      exact .inr ⟨rfl, this.1, this.2⟩
  · rintro (h | ⟨h1, h2, h3, h4⟩)
    · exact .inl h
    · exact .inr ⟨y.2, List.mem_filter.2 ⟨h2, by simp [h3, h4]⟩, by rw [← h1]⟩
abbrev GoP (mv : Nat → Bool) (N : Nat → List Nat) (T T' : Tr) : Prop := GoT (σ := Unit) (fun _ p => mv p) (fun _ _ => ()) N ((), T) ((), T')
abbrev stepP (mv : Nat → Bool) (N : Nat → List Nat) (st0 : List (Int × Nat)) (f : Int) (x : Nat) (T : Tr) : Tr :=
  if T.came x then { T with st := st0 } else { comeT T f x with st := waitP mv (upB T.came x) x (N x) st0 }
theorem stepP_is (st0 : List (Int × Nat)) (f : Int) (x : Nat) (T : Tr) : (stepT (σ := Unit) (fun _ p => mv p) (fun _ _ => ()) N st0 f x () T).2 = stepP mv N st0 f x T := by
  unfold stepT stepP
  split <;> rfl
/-- A walk, step by step. -/
theorem GoP.ind {I : Tr → Prop} {T T' : Tr} (h : GoP mv N T T') (h0 : I T) (hs : ∀ T st0 f x, I T → T.st = st0 ++ [(f, x)] → I (stepP mv N st0 f x T)) : I T' := by
  have key : ∀ a b : Unit × Tr, GoT (σ := Unit) (fun _ p => mv p) (fun _ _ => ()) N a b → I a.2 → I b.2 := by
    intro a b h
    induction h with
    | refl => exact id
    | next _ e ih =>
      intro h0
      rw [stepP_is]
      exact hs _ _ _ _ (ih h0) e
  exact key _ _ h h0
def startP (mv : Nat → Bool) (l : List Nat) : Tr := startT (waitP mv (fun _ => false) (-1) l [])
/-- What holds of a walk under way: what it came to is reached, and what is reached from there waits. -/
structure CameI (mv : Nat → Bool) (N : Nat → List Nat) (l0 : List Nat) (T : Tr) : Prop where
  stc : ∀ y ∈ T.st, Came N mv l0 y.2
  cc : ∀ x, T.came x = true → Came N mv l0 x
  beg : ∀ x ∈ l0, mv x = true → T.came x = true ∨ ∃ f, (f, x) ∈ T.st
  nxt : ∀ p, T.came p = true → ∀ q ∈ N p, mv q = true → T.came q = true ∨ ∃ f, (f, q) ∈ T.st
  ordd : T.ord.Nodup
  orc : ∀ x, x ∈ T.ord ↔ T.came x = true
theorem CameI.start : CameI mv N l0 (startP mv l0) where
  stc y hy := by
    rcases waitP_mem.1 hy with h | ⟨_, h2, _, h4⟩
    · cases h
    · exact .start h2 h4
  cc x h := by cases h
  beg x hx hm := .inr ⟨-1, waitP_mem.2 (.inr ⟨rfl, hx, rfl, hm⟩)⟩
  nxt p h := by cases h
  ordd := List.nodup_nil
  orc x := ⟨(fun h => by cases h), (fun h => by cases h)⟩
theorem upB_same (f : Nat → Bool) (k : Nat) : upB f k k = true := by unfold upB; rw [if_pos rfl]
theorem upB_true {f : Nat → Bool} {k i : Nat} (h : f i = true) : upB f k i = true := by unfold upB; split <;> first | rfl | exact h
theorem upB_or {f : Nat → Bool} {k i : Nat} (h : upB f k i = true) : i = k ∨ f i = true := by
  unfold upB at h
  split at h
  · exact .inl ‹_›
  · exact .inr h
theorem CameI.step {T : Tr} {st0 : List (Int × Nat)} {f : Int} {x : Nat} (h : CameI mv N l0 T) (e : T.st = st0 ++ [(f, x)]) : CameI mv N l0 (stepP mv N st0 f x T) := by
  have hx : Came N mv l0 x := h.stc (f, x) (by rw [e]; simp)
  have h0 : ∀ y ∈ st0, y ∈ T.st := fun y hy => by rw [e]; exact List.mem_append_left _ hy
  have hm : ∀ {g : Int} {q : Nat}, (g, q) ∈ T.st → (g, q) ∈ st0 ∨ q = x := fun hq => by
    rw [e] at hq
    rcases List.mem_append.1 hq with hq | hq
    · exact .inl hq
    · have := List.mem_singleton.1 hq
      exact .inr (by injection this)
  unfold stepP
  split
  · rename_i hc
    refine ⟨fun y hy => h.stc y (h0 y hy), h.cc, fun y hy hmv => ?_, fun p hp q hq hmv => ?_, h.ordd, h.orc⟩
    · rcases h.beg y hy hmv with h1 | ⟨g, h1⟩
      · exact .inl h1
      · rcases hm h1 with h2 | rfl
        · exact .inr ⟨g, h2⟩
        · exact .inl hc
    · rcases h.nxt p hp q hq hmv with h1 | ⟨g, h1⟩
      · exact .inl h1
      · rcases hm h1 with h2 | rfl
        · exact .inr ⟨g, h2⟩
        · exact .inl hc
  · rename_i hc
    have hc' : T.came x = false := by simpa using hc
    refine ⟨fun y hy => ?_, fun y hy => ?_, fun y hy hmv => ?_, fun p hp q hq hmv => ?_, ?_, fun y => ?_⟩
    · rcases waitP_mem.1 hy with h1 | ⟨_, h2, _, h4⟩
      · exact h.stc y (h0 y h1)
      · exact .next hx h2 h4
    · rcases upB_or hy with rfl | hy
      · exact hx
      · exact h.cc y hy
    · rcases h.beg y hy hmv with h1 | ⟨g, h1⟩
      · exact .inl (upB_true h1)
      · rcases hm h1 with h2 | rfl
        · exact .inr ⟨g, waitP_mem.2 (.inl h2)⟩
        · exact .inl (upB_same _ _)
    · rcases upB_or hp with rfl | hp
      · by_cases hq' : upB T.came p q = true
        · exact .inl hq'
        · exact .inr ⟨_, waitP_mem.2 (.inr ⟨rfl, hq, by simpa using hq', hmv⟩)⟩
      · rcases h.nxt p hp q hq hmv with h1 | ⟨g, h1⟩
        · exact .inl (upB_true h1)
        · rcases hm h1 with h2 | rfl
          · exact .inr ⟨g, waitP_mem.2 (.inl h2)⟩
          · exact .inl (upB_same _ _)
    · show (T.ord ++ [x]).Nodup
      refine List.nodup_append.2 ⟨h.ordd, by simp, fun a ha b hb => ?_⟩
      obtain rfl := List.mem_singleton.1 hb
      rintro rfl
      have := (h.orc a).1 ha
      rw [hc'] at this
      cases this
    · show y ∈ T.ord ++ [x] ↔ upB T.came x y = true
      rw [List.mem_append, List.mem_singleton]
      constructor
      · rintro (h1 | rfl)
        · exact upB_true ((h.orc y).1 h1)
        · exact upB_same _ _
      · intro h1
        rcases upB_or h1 with rfl | h1
        · exact .inr rfl
        · exact .inl ((h.orc y).2 h1)
/-- A walk's end. -/
theorem GoP.came {T : Tr} (h : GoP mv N (startP mv l0) T) (he : T.st = []) : (∀ x, T.came x = true ↔ Came N mv l0 x) ∧ T.ord.Nodup ∧ ∀ x, x ∈ T.ord ↔ T.came x = true := by
  have hI : CameI mv N l0 T := h.ind CameI.start fun _ _ _ _ h e => h.step e
  refine ⟨fun x => ⟨hI.cc x, fun hx => ?_⟩, hI.ordd, hI.orc⟩
  induction hx with
  | start h1 h2 =>
    rcases hI.beg _ h1 h2 with h3 | ⟨f, h3⟩
    · exact h3
    · rw [he] at h3; cases h3
  | next _ h1 h2 ih =>
    rcases hI.nxt _ ih _ h1 h2 with h3 | ⟨f, h3⟩
    · exact h3
    · rw [he] at h3; cases h3
end
end Gra
end Go.Proofs.YtggiaopdgijgnaaDoor
