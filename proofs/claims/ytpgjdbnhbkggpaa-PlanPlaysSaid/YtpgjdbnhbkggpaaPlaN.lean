/- The index of a plan's names: which is found by it, how it grows. Nothing of any program. -/
import Derived.Test.YtpgjdbnhbkggpaaPlaP
namespace Go.Proofs.Ytpgjdbnhbkggpaa
open Go.RowKit

theorem bel_drewN {B : Nat} {a w : World} (h : Below B a w) (m : Nat) : Below B a (w.drewN m) := ⟨h.os, h.tape, h.output, h.size, h.block⟩
/-- A struct stored, cell by cell. -/
theorem BlkAt.rg {b : Nat} {T : TypeId} {w : World} {x0 x1 x2 x3 y0 y1 y2 y3 : Value} (h : BlkAt b T #[x0, x1, x2, x3] w) : BlkAt b T #[y0, y1, y2, y3] ((((w.setCell ⟨b, 0, none⟩ y0).setCell ⟨b, 1, none⟩ y1).setCell ⟨b, 2, none⟩ y2).setCell ⟨b, 3, none⟩ y3) :=
  ((((h.set 0 y0).set 1 y1).set 2 y2).set 3 y3).eq rfl
/-- .. and what its cells are then. -/
def RgIn (b : Nat) (x0 x1 x2 x3 : Value) (B0 : Nat) (w W : World) : Prop := (W.cell? ⟨b, 0, none⟩ = some x0 ∧ W.cell? ⟨b, 1, none⟩ = some x1 ∧ W.cell? ⟨b, 2, none⟩ = some x2 ∧ W.cell? ⟨b, 3, none⟩ = some x3) ∧ Below B0 w W
theorem rg_put {b B0 : Nat} {T : TypeId} {w W : World} {x0 x1 x2 x3 : Value} (h : BlkAt b T #[x0, x1, x2, x3] W) (hb : Below B0 w W) (hB : B0 ≤ b) (y0 y1 y2 y3 : Value) : RgIn b y0 y1 y2 y3 B0 w ((((W.setCell ⟨b, 0, none⟩ y0).setCell ⟨b, 1, none⟩ y1).setCell ⟨b, 2, none⟩ y2).setCell ⟨b, 3, none⟩ y3) := by
  have k := h.rg (y0 := y0) (y1 := y1) (y2 := y2) (y3 := y3)
  exact ⟨⟨k.cell 0, k.cell 1, k.cell 2, k.cell 3⟩, (((hb.setCell hB _).setCell hB _).setCell hB _).setCell hB _⟩

/-! ### how two texts stand -/
def cmpB (a b : ByteArray) : Int := Lib.compareBytes a.data.toList b.data.toList
theorem cb_bd : ∀ a b : List UInt8, -1 ≤ Lib.compareBytes a b ∧ Lib.compareBytes a b ≤ 1
  | [], [] => by simp [Lib.compareBytes]
  | [], _ :: _ => by simp [Lib.compareBytes]
  | _ :: _, [] => by simp [Lib.compareBytes]
  | a :: xs, b :: ys => by
    have := cb_bd xs ys
    simp only [Lib.compareBytes]
    split
    · omega
    · split <;> omega
theorem cb_zero : ∀ a b : List UInt8, Lib.compareBytes a b = 0 → a = b
  | [], [], _ => rfl
  | [], _ :: _, h => by simp [Lib.compareBytes] at h
  | _ :: _, [], h => by simp [Lib.compareBytes] at h
  | a :: xs, b :: ys, h => by
    simp only [Lib.compareBytes] at h
    split at h
    · cases h
    · split at h
      · cases h
      · rename_i h1 h2
        have e : a = b := UInt8.toNat_inj.1 (by
          have h1' : ¬ a.toNat < b.toNat := h1
          have h2' : ¬ b.toNat < a.toNat := h2
          omega)
        rw [e, cb_zero xs ys h]
theorem cb_refl : ∀ a : List UInt8, Lib.compareBytes a a = 0
  | [] => rfl
  | a :: xs => by
    have h : ¬ a < a := fun q => Nat.lt_irrefl _ (show a.toNat < a.toNat from q)
    simp only [Lib.compareBytes, if_neg h]
    exact cb_refl xs
theorem cb_anti : ∀ a b : List UInt8, Lib.compareBytes b a = - Lib.compareBytes a b
  | [], [] => rfl
  | [], _ :: _ => rfl
  | _ :: _, [] => rfl
  | a :: xs, b :: ys => by
    have := cb_anti xs ys
    simp only [Lib.compareBytes]
    by_cases h : a < b
    · have h' : ¬ b < a := fun q => Nat.lt_asymm (show a.toNat < b.toNat from h) q
      rw [if_pos h, if_neg h', if_pos h]; rfl
    · by_cases h' : b < a
      · rw [if_pos h', if_neg h, if_pos h']
      · rw [if_neg h', if_neg h, if_neg h, if_neg h']; exact this
theorem cb_trans : ∀ a b c : List UInt8, Lib.compareBytes a b < 0 → Lib.compareBytes b c < 0 → Lib.compareBytes a c < 0
  | [], [], _, h, _ => by simp [Lib.compareBytes] at h
  | [], _ :: _, [], _, h => by simp [Lib.compareBytes] at h
  | [], _ :: _, _ :: _, _, _ => by simp [Lib.compareBytes]
  | _ :: _, [], _, h, _ => by simp [Lib.compareBytes] at h
  | _ :: _, _ :: _, [], _, h => by simp [Lib.compareBytes] at h
  | a :: xs, b :: ys, c :: zs, h, k => by
    have ih := cb_trans xs ys zs
    have lt : ∀ x y : UInt8, (x < y) = (x.toNat < y.toNat) := fun _ _ => rfl
    simp only [Lib.compareBytes, lt] at h k ⊢
    by_cases h1 : a.toNat < b.toNat
    · by_cases k1 : b.toNat < c.toNat
      · rw [if_pos (by omega)]; decide
      · rw [if_neg k1] at k
        by_cases k2 : c.toNat < b.toNat
        · rw [if_pos k2] at k; omega
        · rw [if_pos (by omega)]; decide
    · rw [if_neg h1] at h
      by_cases h2 : b.toNat < a.toNat
      · rw [if_pos h2] at h; omega
      · rw [if_neg h2] at h
        by_cases k1 : b.toNat < c.toNat
        · rw [if_pos (by omega)]; decide
        · rw [if_neg k1] at k
          by_cases k2 : c.toNat < b.toNat
          · rw [if_pos k2] at k; omega
          · rw [if_neg k2] at k
            rw [if_neg (by omega), if_neg (by omega)]
            exact ih h k
theorem cmp_bd (a b : ByteArray) : -1 ≤ cmpB a b ∧ cmpB a b ≤ 1 := cb_bd _ _
theorem cmp_zero {a b : ByteArray} (h : cmpB a b = 0) : a = b := str_ext (cb_zero _ _ h)
theorem cmp_refl (a : ByteArray) : cmpB a a = 0 := cb_refl _
theorem cmp_anti (a b : ByteArray) : cmpB b a = - cmpB a b := cb_anti _ _
theorem cmp_trans {a b c : ByteArray} (h : cmpB a b < 0) (k : cmpB b c < 0) : cmpB a c < 0 := cb_trans _ _ _ h k

/-! ### the index -/
def nmA (rs : Rgs) (k : Int) : ByteArray := (el rs k.toNat).1
structure NsOk (rs : Rgs) (ns : List Int) : Prop where
  len : ns.length = rs.length
  bd : ∀ j, j < ns.length → 0 ≤ el ns j ∧ el ns j < rs.length
  all : ∀ i, i < rs.length → ∃ j, j < ns.length ∧ el ns j = i
  up : ∀ i j, i < j → j < ns.length → cmpB (nmA rs (el ns i)) (nmA rs (el ns j)) < 0
theorem NsOk.nil : NsOk [] [] := ⟨rfl, fun _ h => absurd h (Nat.not_lt_zero _), fun _ h => absurd h (Nat.not_lt_zero _), fun _ _ _ h => absurd h (Nat.not_lt_zero _)⟩
section
variable {rs : Rgs} {ns : List Int} {s : ByteArray}
theorem NsOk.mono (h : NsOk rs ns) {i j : Nat} (hij : i ≤ j) (hj : j < ns.length) (k : cmpB (nmA rs (el ns j)) s < 0) : cmpB (nmA rs (el ns i)) s < 0 := by
  rcases Nat.lt_or_eq_of_le hij with q | rfl
  · exact cmp_trans (h.up i j q hj) k
  · exact k
theorem NsOk.one (h : NsOk rs ns) {i j : Nat} (hi : i < rs.length) (hj : j < rs.length) (e : (el rs i).1 = (el rs j).1) : i = j := by
  obtain ⟨a, ha, ea⟩ := h.all i hi
  obtain ⟨b, hb, eb⟩ := h.all j hj
  have na : nmA rs (el ns a) = (el rs i).1 := by unfold nmA; rw [ea]; rfl
  have nb : nmA rs (el ns b) = (el rs j).1 := by unfold nmA; rw [eb]; rfl
  rcases Nat.lt_trichotomy a b with q | q | q
  · have := h.up a b q hb
    rw [na, nb, e, cmp_refl] at this; omega
  · subst q; rw [ea] at eb; omega
  · have := h.up b a q ha
    rw [na, nb, e, cmp_refl] at this; omega
/-- It is found. -/
theorem NsOk.hit (h : NsOk rs ns) {p : Nat} (hp : p < ns.length) (e : cmpB (nmA rs (el ns p)) s = 0) : fB rs s = true ∧ fV rs s = el rs (el ns p).toNat ∧ 0 ≤ el ns p ∧ el ns p < rs.length := by
  obtain ⟨h0, h1⟩ := h.bd p hp
  have e' : (el rs (el ns p).toNat).1 = s := cmp_zero e
  obtain ⟨q1, q2⟩ := f_hit (rs := rs) (n := s) (k := (el ns p).toNat) (by omega) (fun j hj q => by
    have := h.one (i := j) (j := (el ns p).toNat) (by omega) (by omega) (q.trans e'.symm)
    omega) e'
  exact ⟨q1, q2, h0, h1⟩
/-- It is not found: all behind the place stand behind it. -/
theorem NsOk.behind (h : NsOk rs ns) {p : Nat} (hb : ∀ i, p ≤ i → i < ns.length → 0 ≤ cmpB (nmA rs (el ns i)) s) (hn : p < ns.length → cmpB (nmA rs (el ns p)) s ≠ 0) {i : Nat} (hi : p ≤ i) (hi' : i < ns.length) : cmpB s (nmA rs (el ns i)) < 0 := by
  have h1 := hb p (Nat.le_refl _) (by omega)
  have h2 := hn (by omega)
  have h3 : cmpB s (nmA rs (el ns p)) < 0 := by rw [cmp_anti]; omega
  rcases Nat.lt_or_eq_of_le hi with q | rfl
  · exact cmp_trans h3 (h.up p i q hi')
  · exact h3
theorem NsOk.miss (h : NsOk rs ns) {p : Nat} (hf : ∀ i, i < p → cmpB (nmA rs (el ns i)) s < 0) (hb : ∀ i, p ≤ i → i < ns.length → 0 ≤ cmpB (nmA rs (el ns i)) s) (hn : p < ns.length → cmpB (nmA rs (el ns p)) s ≠ 0) : (∀ i, i < rs.length → (el rs i).1 ≠ s) ∧ fB rs s = false ∧ fV rs s = rg0 := by
  have k : ∀ i, i < rs.length → (el rs i).1 ≠ s := fun i hi e => by
    obtain ⟨a, ha, ea⟩ := h.all i hi
    have na : nmA rs (el ns a) = s := by unfold nmA; rw [ea]; exact e
    by_cases q : a < p
    · have := hf a q
      rw [na, cmp_refl] at this; omega
    · have := h.behind hb hn (i := a) (by omega) ha
      rw [na, cmp_refl] at this; omega
  exact ⟨k, f_none k⟩
/-- Its place in a list that grows in the midst. -/
theorem el_ins (l : List Int) (p : Nat) (x : Int) (hp : p ≤ l.length) (j : Nat) : el (l.take p ++ x :: l.drop p) j = if j < p then el l j else if j = p then x else el l (j - 1) := by
  have hl : (l.take p).length = p := by rw [List.length_take]; omega
  by_cases h : j < p
  · rw [if_pos h, el_left (by omega), el_take h]
  · rw [if_neg h]
    unfold el
    rw [List.getD_eq_getElem?_getD, List.getElem?_append_right (by omega), hl]
    by_cases e : j = p
    · subst e; simp
    · rw [if_neg e]
      obtain ⟨m, hm⟩ : ∃ m, j - p = m + 1 := ⟨j - p - 1, by omega⟩
      rw [hm, List.getElem?_cons_succ, List.getElem?_drop, List.getD_eq_getElem?_getD, show p + m = j - 1 by omega]
theorem NsOk.ins (h : NsOk rs ns) {p : Nat} (hp : p ≤ ns.length) {r : Rg} (hr : r.1 = s) (hf : ∀ i, i < p → cmpB (nmA rs (el ns i)) s < 0) (hb : ∀ i, p ≤ i → i < ns.length → 0 ≤ cmpB (nmA rs (el ns i)) s) (hn : p < ns.length → cmpB (nmA rs (el ns p)) s ≠ 0) :
    NsOk (rs ++ [r]) (ns.take p ++ (rs.length : Int) :: ns.drop p) := by
  have hlen : (ns.take p ++ (rs.length : Int) :: ns.drop p).length = ns.length + 1 := by simp; omega
  have hl := h.len
  have old : ∀ i, i < ns.length → nmA (rs ++ [r]) (el ns i) = nmA rs (el ns i) := fun i hi => by
    have := h.bd i hi
    unfold nmA; rw [el_left (by omega)]
  have new : nmA (rs ++ [r]) (rs.length : Int) = s := by unfold nmA; rw [Int.toNat_natCast, el_last]; exact hr
  refine ⟨by rw [hlen, List.length_append, List.length_singleton]; omega, fun j hj => ?_, fun i hi => ?_, fun i j hij hj => ?_⟩
  · rw [hlen] at hj
    rw [el_ins ns p _ hp, List.length_append, List.length_singleton]
    split
    · have := h.bd j (by omega); omega
    · split
      · omega
      · have := h.bd (j - 1) (by omega); omega
  · rw [List.length_append, List.length_singleton] at hi
    by_cases q : i < rs.length
    · obtain ⟨a, ha, ea⟩ := h.all i q
      by_cases z : a < p
      · exact ⟨a, by omega, by rw [el_ins ns p _ hp, if_pos z]; exact ea⟩
      · exact ⟨a + 1, by omega, by rw [el_ins ns p _ hp, if_neg (by omega), if_neg (by omega)]; exact ea⟩
    · exact ⟨p, by omega, by rw [el_ins ns p _ hp, if_neg (by omega), if_pos rfl]; omega⟩
  · rw [hlen] at hj
    rw [el_ins ns p _ hp, el_ins ns p _ hp]
    by_cases a1 : i < p
    · rw [if_pos a1, old i (by omega)]
      by_cases b1 : j < p
      · rw [if_pos b1, old j (by omega)]; exact h.up i j hij (by omega)
      · rw [if_neg b1]
        by_cases b2 : j = p
        · rw [if_pos b2, new]; exact hf i a1
        · rw [if_neg b2, old (j - 1) (by omega)]; exact h.up i (j - 1) (by omega) (by omega)
    · rw [if_neg a1, if_neg (show ¬ j < p by omega), if_neg (show ¬ j = p by omega), old (j - 1) (by omega)]
      by_cases a2 : i = p
      · rw [if_pos a2, new]; exact h.behind hb hn (by omega) (by omega)
      · rw [if_neg a2, old (i - 1) (by omega)]; exact h.up (i - 1) (j - 1) (by omega) (by omega)
end

/-! ### where an address stands to a region -/
def sidA (x : Int) (r : Rg) : Int := if r.2.1 + r.2.2.1 ≤ x then -1 else if x < r.2.1 then 1 else 0
theorem sid_bd (x : Int) (r : Rg) : -1 ≤ sidA x r ∧ sidA x r ≤ 1 := by unfold sidA; repeat' split
                                                                       all_goals omega
theorem sid_neg {x : Int} {r : Rg} : sidA x r < 0 ↔ r.2.1 + r.2.2.1 ≤ x := by unfold sidA; repeat' split
                                                                              all_goals omega
theorem sid_zero {x : Int} {r : Rg} : sidA x r = 0 ↔ hasP x r = true := by
  unfold sidA hasP
  simp only [Bool.and_eq_true, decide_eq_true_eq]
  repeat' split
  all_goals omega
section
variable {size x : Int} {rs : Rgs}
theorem Sides.mono (h : Sides size rs) {i j : Nat} (hij : i ≤ j) (hj : j < rs.length) (k : sidA x (el rs j) < 0) : sidA x (el rs i) < 0 := by
  rw [sid_neg] at *
  have h1 := h.beg i (by omega)
  have h2 := h.beg j hj
  have h3 := h.one hj
  rcases Nat.lt_or_eq_of_le hij with q | rfl
  · have h4 := h.up' (i := i + 1) (j := j) q (by omega)
    rw [used_succ (by omega)] at h4
    omega
  · exact k
theorem sides_hit {p : Nat} (hp : p < rs.length) (hf : ∀ i, i < p → sidA x (el rs i) < 0) (e : sidA x (el rs p) = 0) : aB rs x = true ∧ aV rs x = el rs p ∧ aO rs x = x - (el rs p).2.1 :=
  a_hit hp (fun j hj => has_no1 (sid_neg.1 (hf j hj))) (sid_zero.1 e)
theorem Sides.miss (h : Sides size rs) {p : Nat} (hf : ∀ i, i < p → sidA x (el rs i) < 0) (hb : ∀ i, p ≤ i → i < rs.length → 0 ≤ sidA x (el rs i)) (hn : p < rs.length → sidA x (el rs p) ≠ 0) : aB rs x = false ∧ aV rs x = rg0 ∧ aO rs x = 0 := by
  refine a_none fun i hi => ?_
  by_cases q : i < p
  · exact has_no1 (sid_neg.1 (hf i q))
  · have hp : p < rs.length := by omega
    have k1 := hb p (Nat.le_refl _) hp
    have k2 := hn hp
    have k3 : x < (el rs p).2.1 := by
      unfold sidA at k1 k2
      revert k1 k2
      repeat' split
      all_goals intro k1 k2; omega
    have h1 := h.beg p hp
    have h2 := h.beg i hi
    have h3 := h.up' (i := p) (j := i) (by omega) (by omega)
    exact has_no2 (by omega)
end
end Go.Proofs.Ytpgjdbnhbkggpaa
