/- What the document says of Top, in plain words: what costs most of the rows left, first of such, is taken out and put behind. Conditions: none. -/
import Derived.Test.YthmojdmdhabogaaTraL
import Derived.Test.YthmojdmdhabogaaTraQ
namespace Go.Proofs.Ythmojdmdhabogaa
open Go.RowKit Go.IntWalk

theorem most_next {l : List Mk} {S : List Ht} {t k : Nat} (hp : S.Perm ((tMost l).drop t)) (hs : S.Pairwise fun a b => hLt a b = true) (hk : k < S.length)
    (h1 : ∀ q, q < S.length → (el S q).2.2.2 ≤ (el S k).2.2.2) (h2 : ∀ q, q < k → (el S q).2.2.2 < (el S k).2.2.2) :
    t < (tMost l).length ∧ (tMost l).take (t + 1) = (tMost l).take t ++ [el S k] ∧ (S.take k ++ S.drop (k + 1)).Perm ((tMost l).drop (t + 1)) ∧ (S.take k ++ S.drop (k + 1)).Pairwise fun a b => hLt a b = true := by
  have hlen := hp.length_eq
  rw [List.length_drop] at hlen
  have ht : t < (tMost l).length := by omega
  have hd : (tMost l).drop t = el (tMost l) t :: (tMost l).drop (t + 1) := by rw [List.drop_eq_getElem_cons ht, el_eq]
  have hmem : ∀ y, y ∈ (tMost l).drop t → y ∈ tRows l := fun y hy => (List.mergeSort_perm _ _).subset (List.mem_of_mem_drop hy)
  have hkS : el S k ∈ S := by rw [← el_eq hk]; exact List.getElem_mem _
  have hkM := hp.subset hkS
  have hsort : ((tMost l).drop t).Pairwise fun a b => cLt b a = false := (most_sorted' _).sublist (List.drop_sublist _ _)
  rw [hd] at hsort
  have htM : el (tMost l) t ∈ (tMost l).drop t := by rw [hd]; simp
  have irr : ∀ x, cLt x x = false := fun x => by
    rw [cLt_not]
    rintro (q | ⟨_, q⟩)
    · omega
    · rw [kLt_tot.irr] at q; cases q
  have hx : el S k = el (tMost l) t := by
    refine cLt_part (l := l) _ _ (hmem _ hkM) (hmem _ htM) ?_ ?_
    · rw [hd] at hkM
      rcases List.mem_cons.1 hkM with e | e
      · rw [e]; exact irr _
      · exact (List.pairwise_cons.1 hsort).1 _ e
    · obtain ⟨q, hq, e⟩ := el_of_mem (hp.symm.subset htM)
      rw [← e, cLt_not]
      have hq1 := h1 q hq
      rintro (z | ⟨z1, z2⟩)
      · omega
      · rcases Nat.lt_trichotomy q k with c | c | c
        · have := h2 q c; omega
        · subst c; rw [kLt_tot.irr] at z2; cases z2
        · have := (List.pairwise_iff_getElem.1 hs) k q hk hq c
          rw [el_eq, el_eq] at this
          have := kLt_tot.asym (show kLt (hKy (el S k)) (hKy (el S q)) = true from this)
          rw [z2] at this; cases this
  have hS : S.Perm (el S k :: (S.take k ++ S.drop (k + 1))) := by
    have e : S = S.take k ++ el S k :: S.drop (k + 1) := by
      conv => lhs; rw [← List.take_append_drop k S, List.drop_eq_getElem_cons hk, el_eq hk]
    conv => lhs; rw [e]
    exact List.perm_middle
  refine ⟨ht, by rw [take_el ht, hx], ?_, ?_⟩
  · have := (hS.symm.trans hp)
    rw [hd, hx] at this
    exact List.Perm.cons_inv this
  · rw [← List.eraseIdx_eq_take_drop_succ]
    exact hs.sublist (List.eraseIdx_sublist _ _)
theorem most_first (l : List Mk) : (tRows l).Perm ((tMost l).drop 0) := (List.mergeSort_perm _ _).symm
/-- How long a slice is. -/
def lenOf : Value → Nat
  | .slice _ n _ => n
  | _ => 0
theorem kept_beside {w w' : World} {B : Nat} {e : TypeId} {v u : Value} {S : List Ht} (h : OwnHt w B e v S) (g : w.grownBy w' u.ownBlock) (hu : ∀ q, u.ownBlock = some q → q < B) : OwnHt w' B e v S :=
  OwnEl.kept (F := fun j => u.ownBlock = some j) h (Keeps.of_grown g fun _ e => e) fun j e1 e2 => by
    have := (OwnEl.lt h j e1).1
    have := hu j e2
    omega
end Go.Proofs.Ythmojdmdhabogaa
