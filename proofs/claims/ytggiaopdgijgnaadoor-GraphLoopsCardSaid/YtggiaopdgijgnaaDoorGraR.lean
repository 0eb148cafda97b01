/- Who waits for all ways that lead to it: a walk that comes to all but those on circles, and behind. Nothing of any program. -/
import Derived.Test.YtggiaopdgijgnaaDoorGraX
import Derived.Test.YtggiaopdgijgnaaDoorMak
namespace Go.Proofs.YtggiaopdgijgnaaDoor
namespace Gra
theorem nodup_sub : ∀ {A B : List Nat}, A.Nodup → (∀ x ∈ A, x ∈ B) → A.length ≤ B.length
  | [], _, _, _ => Nat.zero_le _
  | a :: A, B, h, hs => by
    have h1 := List.nodup_cons.1 h
    have ha := hs a (by simp)
    have h2 := nodup_sub (A := A) (B := B.erase a) h1.2 fun x hx => (List.mem_erase_of_ne (fun e : x = a => h1.1 (by rw [← e]; exact hx))).2 (hs x (List.mem_cons_of_mem _ hx))
    rw [List.length_erase_of_mem ha] at h2
    have := List.length_pos_of_mem ha
    rw [List.length_cons]
    omega
theorem nodup_lt {A : List Nat} {n : Nat} (h : A.Nodup) (hb : ∀ x ∈ A, x < n) : A.length ≤ n := by
  simpa using nodup_sub h (B := List.range n) fun x hx => List.mem_range.2 (hb x hx)
/-- Where each one has one ahead of it there is a circle. -/
theorem cyc_of_preds {n : Nat} {S : Nat → Prop} {E : Nat → Nat → Prop} (hS : ∀ x, S x → x < n) (hp : ∀ x, S x → ∃ y, S y ∧ E y x) {x0 : Nat} (h0 : S x0) : ∃ x, S x ∧ ∃ y, E x y ∧ Fw E S y x := by
  obtain ⟨f, hf⟩ : ∃ f : Nat → Nat, ∀ x, S x → S (f x) ∧ E (f x) x :=
    by
      refine ⟨fun x => @dite _ (S x) (Classical.propDecidable _) (fun h => (hp x h).choose) fun _ => 0, fun x h => ?_⟩
      simp only [dif_pos h]
      exact (hp x h).choose_spec
  let g : Nat → Nat := fun i => Nat.rec x0 (fun _ y => f y) i
  have hg : ∀ i, S (g i) := fun i => by
    induction i with
    | zero => exact h0
    | succ i ih => exact (hf _ ih).1
  have hs : ∀ i, E (g (i + 1)) (g i) := fun i => (hf _ (hg i)).2
  have hway : ∀ d i, Fw E S (g (i + d)) (g i) := fun d i => by
    induction d with
    | zero => exact .nil (hg i)
    | succ d ih => exact .cons (hg (i + d + 1)) (hs (i + d)) ih
  apply Classical.byContradiction
  intro hno
  have hne : ∀ i j, i < j → g i ≠ g j := fun i j hij e => hno ⟨g j, hg j, g (j - 1), by
    have := hs (j - 1)
    rwa [show j - 1 + 1 = j by omega] at this, by
    have := hway (j - 1 - i) i
    rw [show i + (j - 1 - i) = j - 1 by omega, e] at this
    exact this⟩
  have hnd : ((List.range (n + 1)).map g).Nodup := by
    refine List.pairwise_iff_getElem.2 fun i j hi hj hij => ?_
    simp only [List.getElem_map, List.getElem_range]
    exact hne i j hij
  have := nodup_lt (n := n) hnd fun x hx => by
    obtain ⟨i, _, rfl⟩ := List.mem_map.1 hx
    exact hS _ (hg i)
  simp at this
  omega
def cycM (s : Nat → Int) (p : Nat) : Bool := decide (IntKind.i32.wrap (s p - 1) = 0)
def cycS (s : Nat → Int) (p : Nat) : Nat → Int := upn s p (IntKind.i32.wrap (s p - 1))
theorem wait_cyc {came : Nat → Bool} {f : Int} : ∀ (l : List Nat) (s : Nat → Int) (st : List (Int × Nat)), (∀ z ∈ l, came z = false) → (∀ z, (l.count z : Int) ≤ s z ∧ s z ≤ 100000) →
    (∀ q, (waitS cycM cycS came f l s st).1 q = s q - l.count q) ∧ ∀ y, y ∈ (waitS cycM cycS came f l s st).2 ↔ y ∈ st ∨ (y.1 = f ∧ y.2 ∈ l ∧ s y.2 - l.count y.2 = 0)
  | [], s, st, _, _ => ⟨fun q => by simp [waitS], fun y => by simp [waitS]⟩
  | x :: l, s, st, hc, hs => by
    unfold waitS
    rw [if_neg (by rw [hc x (by simp)]; simp)]
    have hx := hs x
    rw [List.count_cons_self] at hx
    have hw : IntKind.i32.wrap (s x - 1) = s x - 1 := IntWalk.i32_in _ (by omega)
    have hs1 : ∀ z, cycS s x z - l.count z = s z - (x :: l).count z := fun z => by
      unfold cycS
      by_cases e : z = x
      · subst e; rw [upn_at, hw, List.count_cons_self]; omega
      · rw [upn_off _ _ e, List.count_cons_of_ne (by simpa using fun q : x = z => e q.symm)]
    have hs2 : ∀ z, (l.count z : Int) ≤ cycS s x z ∧ cycS s x z ≤ 100000 := fun z => by
      have h1 := hs1 z
      have h2 := hs z
      have h3 : cycS s x z ≤ s z := by
        unfold cycS
        by_cases e : z = x
        · subst e; rw [upn_at, hw]; omega
        · rw [upn_off _ _ e]; omega
      exact ⟨by omega, by omega⟩
    obtain ⟨h1, h2⟩ := wait_cyc (came := came) (f := f) l (cycS s x) (if cycM s x then st ++ [(f, x)] else st) (fun z hz => hc z (List.mem_cons_of_mem _ hz)) hs2
    refine ⟨fun q => by rw [h1, hs1], fun y => ?_⟩
    rw [h2, hs1]
    have hm : cycM s x = true ↔ s x - 1 = 0 := by unfold cycM; rw [decide_eq_true_iff, hw]
    have hxc := hs1 x
    constructor
    · rintro (h | ⟨h3, h4, h5⟩)
      · by_cases e : cycM s x = true
        · rw [if_pos e] at h
          rcases List.mem_append.1 h with h | h
          · exact .inl h
          · obtain rfl := List.mem_singleton.1 h
            refine .inr ⟨rfl, by simp, ?_⟩
            have := hm.1 e
            have h9 := (hs x).1
            rw [List.count_cons_self] at h9 ⊢
            simp only
            omega
        · rw [if_neg e] at h
          exact .inl h
      · exact .inr ⟨h3, List.mem_cons_of_mem _ h4, h5⟩
    · rintro (h | ⟨h3, h4, h5⟩)
      · refine .inl ?_
        split
        · exact List.mem_append_left _ h
        · exact h
      · by_cases hl : y.2 ∈ l
        · exact .inr ⟨h3, hl, h5⟩
        · have e : y.2 = x := (List.mem_cons.1 h4).resolve_right hl
          rw [e] at h5 hl
          rw [List.count_cons_self, List.count_eq_zero.2 hl] at h5
          refine .inl ?_
          rw [if_pos (hm.2 (by omega))]
          exact List.mem_append_right _ (by rw [List.mem_singleton, ← h3, ← e])
/-- What waits for all is told of the ways from such as were not come to. -/
def leftN (N : Nat → List Nat) (O : List Nat) (came : Nat → Bool) (q : Nat) : Nat := ((O.filter fun x => !came x).flatMap N).count q
theorem leftN_off {N : Nat → List Nat} {came : Nat → Bool} {x : Nat} : ∀ {O : List Nat}, x ∉ O → ∀ q, leftN N O (upB came x) q = leftN N O came q := fun {O} h q => by
  unfold leftN
  congr 2
  refine List.filter_congr fun y hy => ?_
  unfold upB
  rw [if_neg (fun e : y = x => h (by rw [← e]; exact hy))]
theorem leftN_up {N : Nat → List Nat} {came : Nat → Bool} {x : Nat} (hx : came x = false) : ∀ {O : List Nat}, O.Nodup → x ∈ O → ∀ q, leftN N O (upB came x) q + (N x).count q = leftN N O came q
  | [], _, h, _ => by cases h
  | y :: O, hn, hm, q => by
    have h1 := List.nodup_cons.1 hn
    by_cases e : y = x
    · subst e
      have h2 := leftN_off (N := N) (came := came) h1.1 q
      unfold leftN at h2 ⊢
      rw [List.filter_cons_of_neg (by simp [upB]), List.filter_cons_of_pos (by simp [hx]), List.flatMap_cons, List.count_append, h2]
      omega
    · have h2 := leftN_up (N := N) hx h1.2 ((List.mem_cons.1 hm).resolve_left fun q => e q.symm) q
      have h3 : upB came x y = came y := by unfold upB; rw [if_neg e]
      unfold leftN at h2 ⊢
      by_cases hc : came y = true
      · rw [List.filter_cons_of_neg (by simp [h3, hc]), List.filter_cons_of_neg (by simp [hc])]
        exact h2
      · have hc' : came y = false := by simpa using hc
        rw [List.filter_cons_of_pos (by simp [h3, hc']), List.filter_cons_of_pos (by simp [hc']), List.flatMap_cons, List.flatMap_cons, List.count_append, List.count_append]
        omega
theorem leftN_pos {N : Nat → List Nat} {O : List Nat} {came : Nat → Bool} {q : Nat} : 0 < leftN N O came q ↔ ∃ x ∈ O, came x = false ∧ q ∈ N x := by
  unfold leftN
  rw [List.count_pos_iff, List.mem_flatMap]
  constructor
  · rintro ⟨x, h1, h2⟩
    have := List.mem_filter.1 h1
    exact ⟨x, this.1, by simpa using this.2, h2⟩
  · rintro ⟨x, h1, h2, h3⟩
    exact ⟨x, List.mem_filter.2 ⟨h1, by simp [h2]⟩, h3⟩
theorem leftN_sub {N : Nat → List Nat} {O : List Nat} {came : Nat → Bool} {x : Nat} (hx : came x = false) (ho : x ∈ O) (q : Nat) : (N x).count q ≤ leftN N O came q := by
  unfold leftN
  have h1 : x ∈ O.filter fun x => !came x := List.mem_filter.2 ⟨ho, by simp [hx]⟩
  generalize (O.filter fun x => !came x) = F at h1
  induction F with
  | nil => cases h1
  | cons y F ih =>
    rw [List.flatMap_cons, List.count_append]
    rcases List.mem_cons.1 h1 with e | h
    · subst e; omega
    · have := ih h; omega
structure KahnI (N : Nat → List Nat) (O : List Nat) (s : Nat → Int) (T : Tr) : Prop where
  val : ∀ q, s q = leftN N O T.came q
  bd : ∀ q, s q ≤ 100000
  cin : ∀ x, T.came x = true → x ∈ O
  cz : ∀ x, T.came x = true → s x = 0
  sin : ∀ y ∈ T.st, y.2 ∈ O ∧ s y.2 = 0
  full : ∀ q ∈ O, s q = 0 → T.came q = true ∨ ∃ f, (f, q) ∈ T.st
  nd : T.ord.Nodup
  orc : ∀ x, x ∈ T.ord ↔ T.came x = true
  rk : ∃ r : Nat → Nat, (∀ x, T.came x = true → r x < T.ord.length) ∧ ∀ x, T.came x = true → ∀ y ∈ O, x ∈ N y → T.came y = true ∧ r y < r x
theorem KahnI.step {N : Nat → List Nat} {O : List Nat} {s : Nat → Int} {T : Tr} {st0 : List (Int × Nat)} {f : Int} {x : Nat} (hO : O.Nodup) (hO2 : ∀ x ∈ O, ∀ q ∈ N x, q ∈ O) (h : KahnI N O s T) (e : T.st = st0 ++ [(f, x)]) :
    KahnI N O (stepT cycM cycS N st0 f x s T).1 (stepT cycM cycS N st0 f x s T).2 := by
  have hin : ∀ y ∈ st0, y ∈ T.st := fun y hy => by rw [e]; exact List.mem_append_left _ hy
  have hx := h.sin (f, x) (by rw [e]; simp)
  have hst : ∀ {g : Int} {q : Nat}, (g, q) ∈ T.st → q = x ∨ (g, q) ∈ st0 := fun {g q} hq => by
    rw [e] at hq
    rcases List.mem_append.1 hq with hq | hq
    · exact .inr hq
    · exact .inl (Prod.mk.inj (List.mem_singleton.1 hq)).2
  unfold stepT
  split
  · rename_i hc
    refine ⟨h.val, h.bd, h.cin, h.cz, fun y hy => h.sin y (hin y hy), fun q hq hs => ?_, h.nd, h.orc, h.rk⟩
    rcases h.full q hq hs with h1 | ⟨g, h1⟩
    · exact .inl h1
    · rcases hst h1 with rfl | h2
      · exact .inl hc
      · exact .inr ⟨g, h2⟩
  · rename_i hc
    have hc' : T.came x = false := by simpa using hc
    have hpre : ∀ y ∈ O, x ∈ N y → T.came y = true := fun y hy hxy => by
      apply Classical.byContradiction
      intro hn
      have := leftN_pos.2 ⟨y, hy, by simpa using hn, hxy⟩
      have h2 := h.val x
      rw [hx.2] at h2
      omega
    have hcl : ∀ z ∈ N x, upB T.came x z = false := fun z hz => by
      have hp := leftN_pos.2 ⟨x, hx.1, hc', hz⟩
      unfold upB
      by_cases q : z = x
      · subst q
        have h2 := h.val z
        rw [hx.2] at h2
        omega
      · rw [if_neg q]
        apply Classical.byContradiction
        intro hn
        have h2 := h.cz z (by simpa using hn)
        rw [h.val z] at h2
        omega
    obtain ⟨w1, w2⟩ := wait_cyc (came := upB T.came x) (f := (x : Int)) (N x) s st0 hcl fun z => ⟨by
      have := leftN_sub hc' hx.1 z (N := N)
      rw [h.val z]
      omega, h.bd z⟩
    have hval : ∀ q, s q - ((N x).count q : Int) = (leftN N O (upB T.came x) q : Int) := fun q => by
      have := leftN_up (N := N) hc' hO hx.1 q
      rw [h.val q]
      omega
    have hup : ∀ {q}, upB T.came x q = true → q = x ∨ T.came q = true := fun hq => by
      unfold upB at hq
      split at hq
      · rename_i q; exact .inl q
      · exact .inr hq
    have hz : ∀ q, s q = 0 → s q - ((N x).count q : Int) = 0 := fun q hq => by
      have := hval q
      omega
    refine ⟨fun q => by rw [w1]; exact hval q, fun q => by rw [w1]; have := h.bd q; omega, fun q hq => ?_, fun q hq => ?_, fun y hy => ?_, fun q hq hs => ?_, ?_, fun q => ?_, ?_⟩
    · rcases hup hq with rfl | h1
      · exact hx.1
      · exact h.cin q h1
    · rw [w1]
      rcases hup hq with rfl | h1
      · exact hz _ hx.2
      · exact hz q (h.cz q h1)
    · rcases (w2 y).1 hy with h1 | ⟨h1, h2, h3⟩
      · have h4 := h.sin y (hin y h1)
        exact ⟨h4.1, by rw [w1]; exact hz _ h4.2⟩
      · exact ⟨hO2 x hx.1 _ h2, by rw [w1]; exact h3⟩
    · rw [w1] at hs
      by_cases hq0 : s q = 0
      · rcases h.full q hq hq0 with h1 | ⟨g, h1⟩
        · exact .inl (by show upB T.came x q = true; unfold upB; split <;> first | rfl | exact h1)
        · rcases hst h1 with rfl | h2
          · exact .inl (by show upB T.came q q = true; unfold upB; rw [if_pos rfl])
          · exact .inr ⟨g, (w2 _).2 (.inl h2)⟩
      · refine .inr ⟨x, (w2 _).2 (.inr ⟨rfl, ?_, hs⟩)⟩
        apply Classical.byContradiction
        intro hn
        rw [List.count_eq_zero.2 hn] at hs
        omega
    · refine List.nodup_append.2 ⟨h.nd, by simp, fun a ha b hb => ?_⟩
      obtain rfl := List.mem_singleton.1 hb
      rintro rfl
      exact hc ((h.orc a).1 ha)
    · show q ∈ T.ord ++ [x] ↔ upB T.came x q = true
      rw [List.mem_append, List.mem_singleton, h.orc]
      unfold upB
      by_cases q' : q = x
      · simp [q']
      · simp [q']
    · obtain ⟨r, r1, r2⟩ := h.rk
      refine ⟨fun z => if z = x then T.ord.length else r z, fun z hz => ?_, fun z hz y hy hzy => ?_⟩
      · show (if z = x then T.ord.length else r z) < (T.ord ++ [x]).length
        rw [List.length_append, List.length_singleton]
        split
        · omega
        · rename_i q
          have := r1 z ((hup hz).resolve_left q)
          omega
      · have hzz : z = x ∨ T.came z = true := hup hz
        have key : T.came y = true ∧ (y ≠ x) := by
          by_cases q : z = x
          · subst q
            have := hpre y hy hzy
            exact ⟨this, fun e => by rw [e] at this; exact hc this⟩
          · have h1 := r2 z (hzz.resolve_left q) y hy hzy
            exact ⟨h1.1, fun e => by rw [e] at h1; exact hc h1.1⟩
        refine ⟨by show upB T.came x y = true; unfold upB; split <;> first | rfl | exact key.1, ?_⟩
        simp only [if_neg key.2]
        split
        · exact r1 y key.1
        · rename_i q
          exact (r2 z (hzz.resolve_left q) y hy hzy).2
theorem kahn_cyc {N : Nat → List Nat} {n : Nat} {O : List Nat} {s : Nat → Int} {T : Tr} (hO : O.Nodup) (hn : ∀ x ∈ O, x < n) (hO2 : ∀ x ∈ O, ∀ q ∈ N x, q ∈ O) (h : KahnI N O s T) (he : T.st = []) :
    T.ord.length < O.length ↔ ∃ p ∈ O, ∃ q ∈ N p, Fw (fun x z => z ∈ N x) (· ∈ O) q p := by
  constructor
  · intro hl
    obtain ⟨q0, h1, h2⟩ : ∃ q ∈ O, T.came q = false := by
      apply Classical.byContradiction
      intro hno
      have := nodup_sub hO (B := T.ord) fun x hx => (h.orc x).2 (by
        apply Classical.byContradiction
        intro hc
        exact hno ⟨x, hx, by simpa using hc⟩)
      omega
    obtain ⟨x, hx, y, hy, hw⟩ := cyc_of_preds (n := n) (S := fun x => x ∈ O ∧ T.came x = false) (E := fun x z => z ∈ N x) (fun x hx => hn x hx.1) (fun x hx => by
      have hs : s x ≠ 0 := fun hs => by
        rcases h.full x hx.1 hs with h1 | ⟨f, h1⟩
        · rw [hx.2] at h1; cases h1
        · rw [he] at h1; cases h1
      rw [h.val] at hs
      obtain ⟨y, y1, y2, y3⟩ := leftN_pos.1 (show 0 < leftN N O T.came x by omega)
      exact ⟨y, ⟨y1, y2⟩, y3⟩) (x0 := q0) ⟨h1, h2⟩
    exact ⟨x, hx.1, y, hy, hw.mono fun v hv => hv.1⟩
  · rintro ⟨p, hp, q, hq, hw⟩
    apply Classical.byContradiction
    intro hl
    have hall : ∀ x ∈ O, T.came x = true := fun x hx => by
      apply Classical.byContradiction
      intro hc
      have hxn : x ∉ T.ord := fun h' => hc ((h.orc x).1 h')
      have := nodup_sub (A := x :: T.ord) (B := O) (List.nodup_cons.2 ⟨hxn, h.nd⟩) fun y hy => by
        rcases List.mem_cons.1 hy with rfl | hy
        · exact hx
        · exact h.cin y ((h.orc y).1 hy)
      rw [List.length_cons] at this
      omega
    obtain ⟨r, -, r2⟩ := h.rk
    have hle : ∀ {a b : Nat}, Fw (fun x z => z ∈ N x) (· ∈ O) a b → r a ≤ r b := fun hw => by
      induction hw with
      | nil _ => exact Nat.le_refl _
      | cons hx he hw ih =>
        have := (r2 _ (hall _ hw.fst) _ hx he).2
        omega
    have h1 := hle hw
    have h2 := (r2 q (hall q (hO2 p hp q hq)) p hp hq).2
    omega
theorem kahn_start {N : Nat → List Nat} {O : List Nat} {f : Int} (hO0 : 0 ∈ O) (hO1 : ∀ q ∈ O, q ≠ 0 → ∃ x ∈ O, q ∈ N x) (hb : ∀ q, (O.flatMap N).count q ≤ 90000) {s0 : Nat → Int} (hs0 : ∀ q, s0 q = (([0] : List Nat).count q + (O.flatMap N).count q : Nat)) :
    KahnI N O (waitS cycM cycS (fun _ => false) f [0] s0 []).1 (startT (waitS cycM cycS (fun _ => false) f [0] s0 []).2) := by
  obtain ⟨w1, w2⟩ := wait_cyc (came := fun _ => false) (f := f) [0] s0 [] (fun _ _ => rfl) fun z => by
    rw [hs0]
    have h1 := hb z
    have h2 : ([0] : List Nat).count z ≤ 1 := List.count_le_length
    exact ⟨by omega, by omega⟩
  have hl : ∀ q, leftN N O (fun _ => false) q = (O.flatMap N).count q := fun q => by
    unfold leftN
    have e : (O.filter fun x => !(fun _ => false : Nat → Bool) x) = O := List.filter_eq_self.2 fun _ _ => rfl
    rw [e]
  have hv : ∀ q, (waitS cycM cycS (fun _ => false) f [0] s0 []).1 q = ((O.flatMap N).count q : Int) := fun q => by
    rw [w1, hs0]
    omega
  refine ⟨fun q => by rw [hv, ← hl]; rfl, fun q => by rw [hv]; have := hb q; omega, fun x h => (nomatch h), fun x h => (nomatch h), fun y hy => ?_, fun q hq hs => ?_, List.nodup_nil, fun x => by simp [startT], ⟨fun _ => 0, fun x h => (nomatch h), fun x h => (nomatch h)⟩⟩
  · rcases (w2 y).1 hy with h | ⟨h1, h2, h3⟩
    · cases h
    · rw [w1]
      exact ⟨by rw [List.mem_singleton.1 h2]; exact hO0, h3⟩
  · by_cases h0 : q = 0
    · subst h0
      exact .inr ⟨f, (w2 _).2 (.inr ⟨rfl, by simp, by rw [← w1]; exact hs⟩)⟩
    · obtain ⟨x, x1, x2⟩ := hO1 q hq h0
      rw [hv] at hs
      have : 0 < (O.flatMap N).count q := List.count_pos_iff.2 (List.mem_flatMap.2 ⟨x, x1, x2⟩)
      omega
/-- A walk, step by step, with a state. -/
theorem GoT.ind {σ : Type} {mv : σ → Nat → Bool} {ms : σ → Nat → σ} {N : Nat → List Nat} {I : σ → Tr → Prop} {a b : σ × Tr} (h : GoT mv ms N a b) (h0 : I a.1 a.2) (hs : ∀ s T st0 f x, I s T → T.st = st0 ++ [(f, x)] → I (stepT mv ms N st0 f x s T).1 (stepT mv ms N st0 f x s T).2) : I b.1 b.2 := by
  induction h with
  | refl => exact h0
  | next _ e ih => exact hs _ _ _ _ _ ih e
end Gra
end Go.Proofs.YtggiaopdgijgnaaDoor
