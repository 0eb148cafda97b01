/- A walk that goes deeper ahead of wider: its numbers make a tree such as Turn asks for. Nothing of any program. -/
import Derived.Test.YtggiaopdgijgnaaDoorGraX
import Derived.Test.YtggiaopdgijgnaaDoorElsM
namespace Go.Proofs.YtggiaopdgijgnaaDoor
namespace Gra
theorem Anc.congr {p p' : Nat → Nat} {a b : Nat} (h : Anc p a b) (lt : ∀ k, 0 < k → k ≤ b → p k < k) (e : ∀ k, 0 < k → k ≤ b → p' k = p k) : Anc p' a b := by
  induction h with
  | refl => exact .refl _
  | @up b h0 _ ih =>
    have h1 := lt b h0 (Nat.le_refl _)
    exact .up h0 (by
      rw [e b h0 (Nat.le_refl _)]
      exact ih (fun k hk hb => lt k hk (by omega)) fun k hk hb => e k hk (by omega))
theorem el_inj {l : List Nat} (h : l.Nodup) {i j : Nat} (hi : i < l.length) (hj : j < l.length) (e : el l i = el l j) : i = j := by
  rw [← el_eq hi, ← el_eq hj] at e
  have hp := List.pairwise_iff_getElem.1 h
  rcases Nat.lt_trichotomy i j with h1 | h1 | h1
  · exact absurd e (hp i j hi hj h1)
  · exact h1
  · exact absurd e.symm (hp j i hj hi h1)
/-- What holds of a walk under way that began at one place. -/
structure DfsI (N : Nat → List Nat) (T : Tr) (par : Nat → Nat) : Prop where
  nd : T.ord.Nodup
  orc : ∀ x, x ∈ T.ord ↔ T.came x = true
  pos : 0 < T.ord.length
  root : el T.ord 0 = 0
  lt : ∀ k, 0 < k → k < T.ord.length → par k < k
  fr : ∀ k, 0 < k → k < T.ord.length → T.fr (el T.ord k) = ((el T.ord (par k) : Nat) : Int)
  tree : ∀ k, 0 < k → k < T.ord.length → el T.ord k ∈ N (el T.ord (par k))
  src : ∀ y ∈ T.st, ∃ i, i < T.ord.length ∧ y.1 = ((el T.ord i : Nat) : Int) ∧ y.2 ∈ N (el T.ord i)
  srt : T.st.Pairwise fun (y z : Int × Nat) => ∀ i j, i < T.ord.length → j < T.ord.length → y.1 = ((el T.ord i : Nat) : Int) → z.1 = ((el T.ord j : Nat) : Int) → i ≤ j
  desc : ∀ y ∈ T.st, ∀ i, i < T.ord.length → y.1 = ((el T.ord i : Nat) : Int) → ∀ b, i ≤ b → b < T.ord.length → Anc par i b
  wait : ∀ i, i < T.ord.length → ∀ q ∈ N (el T.ord i), T.came q = true ∨ (((el T.ord i : Nat) : Int), q) ∈ T.st
  down : ∀ i j, i < j → j < T.ord.length → el T.ord j ∈ N (el T.ord i) → Anc par i j
  iv : ∀ a b c, c < T.ord.length → Anc par a c → a ≤ b → b ≤ c → Anc par a b
abbrev yes : Nat → Bool := fun _ => true
theorem DfsI.step {N : Nat → List Nat} {T : Tr} {par : Nat → Nat} {st0 : List (Int × Nat)} {f : Int} {x : Nat} (h : DfsI N T par) (e : T.st = st0 ++ [(f, x)]) : ∃ par', DfsI N (stepP yes N st0 f x T) par' := by
  have h0 : ∀ y ∈ st0, y ∈ T.st := fun y hy => by rw [e]; exact List.mem_append_left _ hy
  have hsr := h.srt
  rw [e] at hsr
  have hs0 := (List.pairwise_append.1 hsr).1
  have hs1 := fun y hy => (List.pairwise_append.1 hsr).2.2 y hy (f, x) (by simp)
  have hm : ∀ {y : Int × Nat}, y ∈ T.st → y ∈ st0 ∨ y = (f, x) := fun hq => by
    rw [e] at hq
    rcases List.mem_append.1 hq with hq | hq
    · exact .inl hq
    · exact .inr (List.mem_singleton.1 hq)
  unfold stepP
  split
  · rename_i hc
    refine ⟨par, h.nd, h.orc, h.pos, h.root, h.lt, h.fr, h.tree, fun y hy => h.src y (h0 y hy), hs0, fun y hy => h.desc y (h0 y hy), fun i hi q hq => ?_, h.down, h.iv⟩
    rcases h.wait i hi q hq with h1 | h1
    · exact .inl h1
    · rcases hm h1 with h2 | h2
      · exact .inr h2
      · injection h2 with _ h3
        subst h3
        exact .inl hc
  · rename_i hc
    have hc' : T.came x = false := by simpa using hc
    obtain ⟨s, hst, hsf, hsx⟩ := h.src (f, x) (by rw [e]; simp)
    simp only at hsf hsx
    obtain ⟨t, ht⟩ : ∃ t, T.ord.length = t := ⟨_, rfl⟩
    have hpos := h.pos
    rw [ht] at hst hpos
    have hxo : x ∉ T.ord := fun q => by rw [h.orc, hc'] at q; cases q
    have hlen : (T.ord ++ [x]).length = t + 1 := by simp [ht]
    have eo : ∀ {k}, k < t → el (T.ord ++ [x]) k = el T.ord k := fun hk => el_left (by omega)
    have et : el (T.ord ++ [x]) t = x := by rw [← ht]; exact el_last _ _
    have hnd : (T.ord ++ [x]).Nodup := List.nodup_append.2 ⟨h.nd, by simp, fun a ha b hb => by
      obtain rfl := List.mem_singleton.1 hb
      rintro rfl
      exact hxo ha⟩
    have hU : ∀ {i j}, i < t + 1 → j < t + 1 → el (T.ord ++ [x]) i = el (T.ord ++ [x]) j → i = j := fun hi hj q => el_inj hnd (by omega) (by omega) q
    have hA : ∀ {a b}, b < t → Anc par a b → Anc (fun k => if k = t then s else par k) a b := fun hb q => q.congr (fun k hk hb' => h.lt k hk (by omega)) fun k hk hb' => by rw [if_neg (by omega)]
    have hA' : ∀ {a b}, b < t → Anc (fun k => if k = t then s else par k) a b → Anc par a b := fun hb q => q.congr (fun k hk hb' => by
      rw [if_neg (by omega)]; exact h.lt k hk (by omega)) fun k hk hb' => by rw [if_neg (by omega)]
    have hT : ∀ {a}, Anc par a s → Anc (fun k => if k = t then s else par k) a t := fun q => .up hpos (by rw [if_pos rfl]; exact hA hst q)
    have hT' : ∀ {a}, Anc (fun k => if k = t then s else par k) a t → a = t ∨ Anc par a s := fun q => by
      cases q with
      | refl => exact .inl rfl
      | up _ q =>
        rw [if_pos rfl] at q
        exact .inr (hA' hst q)
    have hS : ∀ y ∈ st0, ∀ i, i < t + 1 → y.1 = ((el (T.ord ++ [x]) i : Nat) : Int) → i < t ∧ y.1 = ((el T.ord i : Nat) : Int) := fun y hy i hi q => by
      obtain ⟨i0, hi0, q0, _⟩ := h.src y (h0 y hy)
      rw [ht] at hi0
      have : i = i0 := hU hi (by omega) (by rw [eo hi0]; omega)
      subst this
      exact ⟨hi0, q0⟩
    have hN : ∀ y ∈ waitP yes (upB T.came x) x (N x) st0, y ∈ st0 ∨ (y.1 = (x : Int) ∧ y.2 ∈ N x ∧ upB T.came x y.2 = false) := fun y hy => by
      rcases waitP_mem.1 hy with q | ⟨q1, q2, q3, _⟩
      · exact .inl q
      · exact .inr ⟨q1, q2, q3⟩
    have hX : ∀ i, i < t + 1 → (x : Int) = ((el (T.ord ++ [x]) i : Nat) : Int) → i = t := fun i hi q => hU hi (by omega) (by rw [et]; omega)
    refine ⟨fun k => if k = t then s else par k, hnd, fun y => ?_, by rw [show (comeT T f x).ord = T.ord ++ [x] from rfl, hlen]; omega, by rw [show (comeT T f x).ord = T.ord ++ [x] from rfl, eo hpos]; exact h.root, ?_, ?_, ?_, ?_, ?_, ?_, ?_, ?_, ?_⟩
    · show y ∈ T.ord ++ [x] ↔ upB T.came x y = true
      rw [List.mem_append, List.mem_singleton]
      constructor
      · rintro (h1 | rfl)
        · exact upB_true ((h.orc y).1 h1)
        · exact upB_same _ _
      · intro h1
        rcases upB_or h1 with rfl | h1
        · exact .inr rfl
        · exact .inl ((h.orc y).2 h1)
    all_goals simp only [show (comeT T f x).ord = T.ord ++ [x] from rfl, hlen]
    · intro k hk hkt
      split
      · omega
      · exact h.lt k hk (by omega)
    · intro k hk hkt
      show upI T.fr x f _ = _
      unfold upI
      by_cases q : k = t
      · subst q
        rw [et, if_pos rfl, if_pos rfl, eo hst]
        exact hsf
      · have hk' : k < t := by omega
        rw [eo hk', if_neg q, eo (by have := h.lt k hk (by omega); omega), if_neg]
        · exact h.fr k hk (by omega)
        · rintro rfl
          exact hxo (by rw [← el_eq (show k < T.ord.length by omega)]; exact List.getElem_mem _)
    · intro k hk hkt
      by_cases q : k = t
      · subst q
        rw [et, if_pos rfl, eo hst]
        exact hsx
      · have hk' : k < t := by omega
        rw [eo hk', if_neg q, eo (by have := h.lt k hk (by omega); omega)]
        exact h.tree k hk (by omega)
    · intro y hy
      rcases hN y hy with q | ⟨q1, q2, _⟩
      · obtain ⟨i, hi, g1, g2⟩ := h.src y (h0 y q)
        exact ⟨i, by omega, by rw [eo (by omega)]; exact g1, by rw [eo (by omega)]; exact g2⟩
      · exact ⟨t, by omega, by rw [et]; exact q1, by rw [et]; exact q2⟩
    · show (waitP yes (upB T.came x) x (N x) st0).Pairwise _
      rw [waitP_is]
      refine List.pairwise_append.2 ⟨hs0.imp_of_mem fun {y z} hy hz q i j hi hj q1 q2 => ?_, ?_, fun y hy z hz i j hi hj q1 q2 => ?_⟩
      · have g1 := hS y hy i hi q1
        have g2 := hS z hz j hj q2
        exact q i j (by omega) (by omega) g1.2 g2.2
      · refine List.pairwise_map.2 (List.Pairwise.imp (R := fun _ _ => True) (fun _ i j hi hj q1 q2 => ?_) (List.pairwise_iff_getElem.2 fun _ _ _ _ _ => trivial))
        have g1 := hX i hi q1
        have g2 := hX j hj q2
        omega
      · have g1 := hS y hy i hi q1
        obtain ⟨z', _, rfl⟩ := List.mem_map.1 hz
        have g2 := hX j hj q2
        omega
    · intro y hy i hi q1 b hb hbt
      rcases hN y hy with q | ⟨q2, _, _⟩
      · obtain ⟨g1, g2⟩ := hS y q i hi q1
        by_cases hbb : b = t
        · subst hbb
          exact hT (h.desc y (h0 y q) i (by omega) g2 s (hs1 y q i s (by omega) (by omega) g2 hsf) (by omega))
        · exact hA (by omega) (h.desc y (h0 y q) i (by omega) g2 b hb (by omega))
      · have g1 := hX i hi (q2 ▸ q1)
        obtain rfl : i = b := by omega
        exact .refl _
    · intro i hi q hq
      by_cases g : i = t
      · subst g
        rw [et] at hq ⊢
        by_cases hq' : upB T.came x q = true
        · exact .inl hq'
        · exact .inr (waitP_mem.2 (.inr ⟨rfl, hq, by simpa using hq', rfl⟩))
      · rw [eo (by omega)] at hq ⊢
        rcases h.wait i (by omega) q hq with h1 | h1
        · exact .inl (upB_true h1)
        · rcases hm h1 with h2 | h2
          · exact .inr (waitP_mem.2 (.inl h2))
          · injection h2 with _ h3
            subst h3
            exact .inl (upB_same _ _)
    · intro i j hij hj hq
      by_cases g : j = t
      · subst g
        rw [et, eo hij] at hq
        rcases h.wait i (by omega) x hq with h1 | h1
        · rw [hc'] at h1; cases h1
        · refine hT (h.desc _ h1 i (by omega) rfl s ?_ (by omega))
          rcases hm h1 with h2 | h2
          · exact hs1 _ h2 i s (by omega) (by omega) rfl hsf
          · injection h2 with h3 _
            have : i = s := el_inj h.nd (by omega) (by omega) (by omega)
            omega
      · rw [eo (by omega), eo (by omega)] at hq
        exact hA (by omega) (h.down i j hij (by omega) hq)
    · intro a b c hc1 ha hab hbc
      by_cases g : c = t
      · subst g
        rcases hT' ha with rfl | q
        · obtain rfl : a = b := by omega
          exact .refl _
        · by_cases hb : b = c
          · subst hb; exact ha
          · rcases Nat.lt_or_ge s b with h1 | h1
            · exact hA (by omega) (q.trans (h.desc (f, x) (by rw [e]; simp) s (by omega) hsf b (by omega) (by omega)))
            · exact hA (by omega) (h.iv a b s (by omega) q hab h1)
      · exact hA (by omega) (h.iv a b c (by omega) (hA' (by omega) ha) hab hbc)
/-- Ways between numbers. -/
def NumE (N : Nat → List Nat) (T : Tr) (i j : Nat) : Prop := i < T.ord.length ∧ j < T.ord.length ∧ el T.ord j ∈ N (el T.ord i)
theorem DfsI.deep {N : Nat → List Nat} {T : Tr} {par : Nat → Nat} (h : DfsI N T par) : Deep T.ord.length (NumE N T) par where
  pos := h.pos
  lim _ _ q := ⟨q.1, q.2.1⟩
  lt := h.lt
  tree k h0 hk := ⟨by have := h.lt k h0 hk; omega, hk, h.tree k h0 hk⟩
  down x y q hxy := h.down x y hxy q.2.1 q.2.2
  iv := h.iv
/-- The first step. -/
theorem DfsI.first {N : Nat → List Nat} : DfsI N (stepP yes N [] (-1) 0 (startP yes [0])) (fun _ => 0) := by
  have e : stepP yes N [] (-1) 0 (startP yes [0]) = { came := upB (fun _ => false) 0, ord := [0], fr := upI (fun _ => 0) 0 (-1), st := waitP yes (upB (fun _ => false) 0) (0 : Nat) (N 0) [] } := rfl
  rw [e]
  have hi : ∀ {i}, i < [0].length → i = 0 := fun h => by simp at h; exact h
  have hw : ∀ y ∈ waitP yes (upB (fun _ => false) 0) (0 : Nat) (N 0) [], y.1 = 0 ∧ y.2 ∈ N 0 := fun y hy => by
    rcases waitP_mem.1 hy with q | ⟨q1, q2, _⟩
    · cases q
    · exact ⟨q1, q2⟩
  refine ⟨by simp, fun x => ?_, by simp, rfl, fun k h0 hk => ?_, fun k h0 hk => ?_, fun k h0 hk => ?_, fun y hy => ⟨0, by simp, (hw y hy).1, (hw y hy).2⟩, ?_, fun y hy i hi' _ b hb hbt => ?_, fun i hi' q hq => ?_, fun i j hij hj => ?_, fun a b c hc ha hab hbc => ?_⟩
  · simp only [List.mem_singleton]
    exact ⟨fun h => by subst h; exact upB_same _ _, fun h => by
      rcases upB_or h with h | h
      · exact h
      · cases h⟩
  · have := hi hk; omega
  · have := hi hk; omega
  · have := hi hk; omega
  · refine List.pairwise_iff_getElem.2 fun _ _ _ _ _ i j h1 h2 _ _ => ?_
    have := hi h1
    omega
  · have := hi hbt
    obtain rfl : i = b := by have := hi hi'; omega
    exact .refl _
  · obtain rfl := hi hi'
    by_cases hq' : upB (fun _ => false) 0 q = true
    · exact .inl hq'
    · exact .inr (waitP_mem.2 (.inr ⟨rfl, hq, by simpa using hq', rfl⟩))
  · have := hi hj; omega
  · have := hi hc
    obtain rfl : a = b := by omega
    exact .refl _
theorem dfs_end {N : Nat → List Nat} {T : Tr} (h : GoP yes N (startP yes [0]) T) (he : T.st = []) : ∃ par, DfsI N T par := by
  have key : T = startP yes [0] ∨ ∃ par, DfsI N T par := by
    refine GoP.ind (I := fun T => T = startP yes [0] ∨ ∃ par, DfsI N T par) h (.inl rfl) fun T st0 f x hI e => .inr ?_
    rcases hI with rfl | ⟨par, hI⟩
    · have e' : ([] : List (Int × Nat)) ++ [(-1, 0)] = st0 ++ [(f, x)] := e
      obtain ⟨e1, e2⟩ := List.append_inj' e' rfl
      subst e1
      injection e2 with e2
      injection e2 with e3 e4
      subst e3; subst e4
      exact ⟨_, DfsI.first⟩
    · exact hI.step e
  rcases key with rfl | h
  · cases he
  · exact h
end Gra
end Go.Proofs.YtggiaopdgijgnaaDoor
