/- A forest whose ways up are shortened, and who is the least on them; what is held by others; the least ones and the nearest ones found so. Nothing of any program. -/
import Derived.Test.YtggiaopdgijgnaaDoorGraR
namespace Go.Proofs.YtggiaopdgijgnaaDoor
namespace Gra
/-- Numbers from the last one down to t are in the forest: of each, who stands above it (or further up), and the least of those on the way. -/
structure ForI (m : Nat) (par : Nat → Nat) (t : Nat) (low over best : Nat → Int) : Prop where
  lo : ∀ j, j < m → ∃ x : Nat, low j = x ∧ x ≤ j
  un : ∀ j, j ≤ t → j < m → over j = -1 ∧ best j = j
  ov : ∀ j, t < j → j < m → ∃ a : Nat, over j = a ∧ Anc par a j ∧ a < j ∧ (∀ v, Anc par v j → a < v → t < v) ∧ ∃ b : Nat, best j = b ∧ Anc par b j ∧ a < b ∧ ∀ v, Anc par v j → a < v → low b ≤ low v
section
variable {m t : Nat} {par : Nat → Nat} {low over best : Nat → Int} {E : Nat → Nat → Prop}
/-- One way up is shortened. -/
theorem ForI.short (D : Deep m E par) (h : ForI m par t low over best) {j a : Nat} (hj : t < j) (hm : j < m) (ha : over j = a) (hat : t < a) {bj ba : Nat} (hbj : best j = bj) (hba : best a = ba) :
    ∃ r : Nat, over a = r ∧ r < a ∧ ForI m par t low (upn over j r) (if low ba < low bj then upn best j ba else best) := by
  obtain ⟨a', e1, a1, a2, a3, b, e2, b1, b2, b3⟩ := h.ov j hj hm
  obtain rfl : a = a' := by omega
  obtain rfl : bj = b := by omega
  obtain ⟨r, e3, r1, r2, r3, c, e4, c1, c2, c3⟩ := h.ov a hat (by omega)
  obtain rfl : ba = c := by omega
  refine ⟨r, e3, r2, h.lo, fun i hi hi' => ?_, fun i hi hi' => ?_⟩
  · have := h.un i hi hi'
    have hne : i ≠ j := by omega
    refine ⟨by rw [upn_off _ _ hne]; exact this.1, ?_⟩
    split
    · rw [upn_off _ _ hne]; exact this.2
    · exact this.2
  · by_cases e : i = j
    · subst e
      have hdn : ∀ v, Anc par v i → v ≤ a → Anc par v a := fun v hv hva => D.iv v a i hm hv hva (by omega)
      refine ⟨r, upn_at _ _ _, r1.trans a1, by omega, fun v hv hrv => ?_, ?_⟩
      · rcases Nat.lt_or_ge a v with q | q
        · exact a3 v hv q
        · exact r3 v (hdn v hv q) hrv
      · by_cases q : low ba < low bj
        · rw [if_pos q]
          refine ⟨ba, upn_at _ _ _, c1.trans a1, c2, fun v hv hrv => ?_⟩
          rcases Nat.lt_or_ge a v with q' | q'
          · have := b3 v hv q'; omega
          · exact c3 v (hdn v hv q') hrv
        · rw [if_neg q]
          refine ⟨bj, hbj, b1, by omega, fun v hv hrv => ?_⟩
          rcases Nat.lt_or_ge a v with q' | q'
          · exact b3 v hv q'
          · have := c3 v (hdn v hv q') hrv; omega
    · obtain ⟨a', f1, f2, f3, f4, b', f5, f6⟩ := h.ov i hi hi'
      refine ⟨a', by rw [upn_off _ _ e]; exact f1, f2, f3, f4, b', ?_, f6⟩
      split
      · rw [upn_off _ _ e]; exact f5
      · exact f5
/-- Who is the least above a number, where its way up is short. -/
def LeastU (par : Nat → Nat) (t : Nat) (low : Nat → Int) (k u : Nat) : Prop := Anc par u k ∧ t < u ∧ ∀ v, Anc par v k → t < v → low u ≤ low v
theorem ForI.bestU (D : Deep m E par) (h : ForI m par t low over best) {k : Nat} (hk : t < k) (hm : k < m) (hr : over k ≤ (t : Int)) : ∃ u : Nat, best k = u ∧ u < m ∧ LeastU par t low k u := by
  obtain ⟨a, e1, a1, a2, a3, b, e2, b1, b2, b3⟩ := h.ov k hk hm
  have := D.anc_le b1 hm
  exact ⟨b, e2, by omega, b1, a3 b b1 b2, fun v hv hv' => b3 v hv (by omega)⟩
theorem ForI.lowU (h : ForI m par t low over best) {i x : Nat} (hi : i ≤ t) (hx : x ≤ i) : ForI m par t (upn low i x) over best := by
  refine ⟨fun j hj => ?_, h.un, fun j hj hm => ?_⟩
  · by_cases e : j = i
    · subst e; exact ⟨x, upn_at _ _ _, hx⟩
    · obtain ⟨y, y1, y2⟩ := h.lo j hj
      exact ⟨y, by rw [upn_off _ _ e]; exact y1, y2⟩
  · obtain ⟨a, e1, a1, a2, a3, b, e2, b1, b2, b3⟩ := h.ov j hj hm
    refine ⟨a, e1, a1, a2, a3, b, e2, b1, b2, fun v hv hv' => ?_⟩
    have h1 := a3 v hv hv'
    have h2 := a3 b b1 b2
    rw [upn_off _ _ (by omega), upn_off _ _ (by omega)]
    exact b3 v hv hv'
theorem ForI.link (D : Deep m E par) {k : Nat} (h : ForI m par k low over best) (h0 : 0 < k) (hk : k < m) : ForI m par (k - 1) low (upn over k (par k : Nat)) best := by
  refine ⟨h.lo, fun j hj hm => ?_, fun j hj hm => ?_⟩
  · have := h.un j (by omega) hm
    exact ⟨by rw [upn_off _ _ (by omega)]; exact this.1, this.2⟩
  · by_cases e : j = k
    · subst e
      have hp := D.lt j h0 hk
      have hv : ∀ v, Anc par v j → par j < v → v = j := fun v hv hlt => by
        cases hv with
        | refl => rfl
        | up _ hh => have := D.anc_le hh (by omega); omega
      refine ⟨par j, upn_at _ _ _, .up h0 (.refl _), hp, fun v h1 h2 => by rw [hv v h1 h2]; omega, j, (h.un j (Nat.le_refl _) hm).2, .refl _, hp, fun v h1 h2 => by rw [hv v h1 h2]; exact Int.le_refl _⟩
    · obtain ⟨a, e1, a1, a2, a3, b, e2, b1, b2, b3⟩ := h.ov j (by omega) hm
      exact ⟨a, by rw [upn_off _ _ e]; exact e1, a1, a2, fun v h1 h2 => by have := a3 v h1 h2; omega, b, e2, b1, b2, b3⟩
/-- The least ones, found from the last number down to t. -/
structure LowI (m : Nat) (E : Nat → Nat → Prop) (t : Nat) (low : Nat → Int) : Prop where
  un : ∀ j, j ≤ t → j < m → low j = j
  sd : ∀ j, t < j → j < m → ∃ x : Nat, low j = x ∧ Hi E j x ∧ ∀ y, Hi E j y → x ≤ y
/-- While it is being found for k: what was looked at. -/
structure LowK (m : Nat) (E : Nat → Nat → Prop) (par : Nat → Nat) (k : Nat) (low : Nat → Int) (seen : Nat → Prop) : Prop where
  un : ∀ j, j < k → low j = j
  sd : ∀ j, k < j → j < m → ∃ x : Nat, low j = x ∧ Hi E j x ∧ ∀ y, Hi E j y → x ≤ y
  me : ∃ x : Nat, low k = x ∧ x ≤ k ∧ (x = k ∨ Hi E k x)
  cov : ∀ y, seen y → (y < k → low k ≤ y) ∧ ∀ v, Anc par v y → k < v → low k ≤ low v
theorem LowI.begin {k : Nat} (h : LowI m E k low) (hk : k < m) : LowK m E par k low (fun _ => False) :=
  ⟨fun j hj => h.un j (by omega) (by omega), h.sd, ⟨k, h.un k (Nat.le_refl _) hk, Nat.le_refl _, .inl rfl⟩, fun _ h => h.elim⟩
theorem hi_down (D : Deep m E par) {k u x y : Nat} (h : Hi E u x) (hu : k < u) (ha : Anc par u y) (e : E y k) : Hi E k x := by
  have hy := (D.lim _ _ e).1
  have h1 : Hi E k u := Hi.of_fw ((D.fall ha hy).mono fun v hv => by omega) e
  induction h with
  | one e' => exact .more e' hu h1
  | more e' hz _ ih => exact .more e' (by omega) ih
theorem LowK.step (D : Deep m E par) {k y : Nat} {seen : Nat → Prop} (h : LowK m E par k low seen) (e : E y k) {u : Nat} (hu : (y ≤ k ∧ u = y) ∨ (k < y ∧ LeastU par k low y u)) :
    ∃ x : Nat, min (low k) (low u) = x ∧ x ≤ k ∧ LowK m E par k (upn low k x) fun z => seen z ∨ z = y := by
  obtain ⟨c, c1, c2, c3⟩ := h.me
  have hy := (D.lim _ _ e).1
  have hc : ∃ z : Nat, low u = z ∧ (z = c ∨ Hi E k z) ∧ (y < k → z ≤ y) ∧ ∀ v, Anc par v y → k < v → (z : Int) ≤ low v := by
    rcases hu with ⟨h1, rfl⟩ | ⟨h1, h2⟩
    · rcases Nat.lt_or_ge u k with q | q
      · exact ⟨u, h.un u q, .inr (.one e), fun _ => Nat.le_refl _, fun v hv hkv => by have := D.anc_le hv hy; omega⟩
      · obtain rfl : u = k := by omega
        exact ⟨c, c1, .inl rfl, fun q => by omega, fun v hv hkv => by have := D.anc_le hv hy; omega⟩
    · have hum : u < m := by have := D.anc_le h2.1 hy; omega
      obtain ⟨x, x1, x2, x3⟩ := h.sd u h2.2.1 hum
      exact ⟨x, x1, .inr (hi_down D x2 h2.2.1 h2.1 e), fun q => by omega, fun v hv hkv => by have := h2.2.2 v hv hkv; omega⟩
  obtain ⟨z, z1, z2, z3, z4⟩ := hc
  refine ⟨min c z, by omega, by omega, fun j hj => by rw [upn_off _ _ (by omega)]; exact h.un j hj, fun j hj hm => by rw [upn_off _ _ (by omega)]; exact h.sd j hj hm, ⟨min c z, upn_at _ _ _, by omega, ?_⟩, fun w hw => ?_⟩
  · rcases Nat.le_total c z with q | q
    · rw [Nat.min_eq_left q]; exact c3
    · rw [Nat.min_eq_right q]
      exact z2.elim (fun e => e ▸ c3) .inr
  · rw [upn_at]
    rcases hw with hw | rfl
    · obtain ⟨w1, w2⟩ := h.cov w hw
      refine ⟨fun q => by have := w1 q; omega, fun v hv hkv => ?_⟩
      rw [upn_off _ _ (by omega)]
      have := w2 v hv hkv
      omega
    · refine ⟨fun q => by have := z3 q; omega, fun v hv hkv => ?_⟩
      rw [upn_off _ _ (by omega)]
      have := z4 v hv hkv
      omega
theorem LowK.done (D : Deep m E par) {k : Nat} {seen : Nat → Prop} (h : LowK m E par k low seen) (h0 : 0 < k) (hk : k < m) (hall : ∀ y, E y k → seen y) :
    ∃ x : Nat, low k = x ∧ x < k ∧ LowI m E (k - 1) low := by
  obtain ⟨c, c1, c2, c3⟩ := h.me
  have hp := D.lt k h0 hk
  have h1 := (h.cov _ (hall _ (D.tree k h0 hk))).1 hp
  have hck : c < k := by omega
  have hl : ∀ x, Hi E k x → c ≤ x := fun x hx => by
    rcases Nat.lt_or_ge x k with q | q
    · rcases hx.fw with e | ⟨y, e, hy, z, w1, w2⟩
      · have := (h.cov x (hall x e)).1 q
        omega
      · obtain ⟨u, u1, u2, u3⟩ := D.first w1 (D.lim _ _ w2).1
        have := (h.cov z (hall z w2)).2 u u2 u1
        have hum : u < m := by have := D.anc_le u2 (D.lim _ _ w2).1; have := (D.lim _ _ w2).1; omega
        obtain ⟨s, s1, s2, s3⟩ := h.sd u u1 hum
        have := s3 x (by
          rcases u3 with rfl | ⟨u4, u5⟩
          · exact .one e
          · exact .more e u4 u5)
        omega
    · omega
  refine ⟨c, c1, hck, fun j hj _ => h.un j (by omega), fun j hj hm => ?_⟩
  by_cases q : j = k
  · subst q
    exact ⟨c, c1, c3.resolve_left (by omega), hl⟩
  · exact h.sd j (by omega) hm
/-- Numbers held one behind the other. -/
def Lst (behind : Nat → Int) : Int → List Nat → Prop
  | x, [] => x = -1
  | x, j :: l => x = j ∧ Lst behind (behind j) l
theorem Lst.congr {f g : Nat → Int} : ∀ {l : List Nat} {x : Int}, Lst f x l → (∀ j ∈ l, g j = f j) → Lst g x l
  | [], _, h, _ => h
  | j :: l, _, h, e => ⟨h.1, by rw [e j (by simp)]; exact h.2.congr fun i hi => e i (List.mem_cons_of_mem _ hi)⟩
/-- What the nearest one is told by, at first. -/
def One1 (par : Nat → Nat) (low near : Nat → Int) (t j : Nat) : Prop := (∀ v : Nat, Anc par v j → low j < v → t < v) ∧
  ((near j = low j ∧ ∀ v : Nat, Anc par v j → low j < v → low j ≤ low v) ∨ ∃ u : Nat, near j = u ∧ Anc par u j ∧ low j < u ∧ u < j ∧ low u < low j ∧ ∀ v : Nat, Anc par v j → low j < v → low u ≤ low v)
/-- What is held, what waits, what is told. -/
structure ShI (m : Nat) (par : Nat → Nat) (low : Nat → Int) (t1 t2 : Nat) (R : List Nat) (first behind near : Nat → Int) (L : Nat → List Nat) : Prop where
  lst : ∀ p, p < m → Lst behind (first p) (L p)
  mem : ∀ p, p < m → ∀ j ∈ L p, t1 < j ∧ j < m ∧ low j = p ∧ ∀ c, t2 < c → c < m → par c = p → ¬ Anc par c j
  rem : ∀ j ∈ R, t1 < j ∧ j < m
  one : ∀ j, t1 < j → j < m → One1 par low near t2 j ∨ j ∈ L (low j).toNat ∨ j ∈ R
theorem ShI.put (D : Deep m E par) {k p : Nat} {first behind near : Nat → Int} {L : Nat → List Nat} (h : ShI m par low k k [] first behind near L) (h0 : 0 < k) (hk : k < m) (hp : low k = p) (hpk : p < k) :
    ShI m par low (k - 1) k [] (upn first p (k : Nat)) (upn behind k (first p)) near (upn L p (k :: L p)) := by
  refine ⟨fun q hq => ?_, fun q hq j hj => ?_, fun j hj => (nomatch hj), fun j hj hm => ?_⟩
  · have hl := (h.lst q hq).congr (g := upn behind k (first p)) fun j hj => upn_off _ _ (by have := (h.mem q hq j hj).1; omega)
    by_cases e : q = p
    · subst e
      rw [upn_at, upn_at]
      exact ⟨rfl, by rw [upn_at]; exact hl⟩
    · rw [upn_off _ _ e, upn_off _ _ e]
      exact hl
  · by_cases e : q = p
    · subst e
      rw [upn_at] at hj
      rcases List.mem_cons.1 hj with rfl | hj
      · exact ⟨by omega, hk, hp, fun c hc hcm _ ha => by have := D.anc_le ha hk; omega⟩
      · have := h.mem q hq j hj
        exact ⟨by omega, this.2⟩
    · rw [upn_off _ _ e] at hj
      have := h.mem q hq j hj
      exact ⟨by omega, this.2⟩
  · by_cases e : j = k
    · subst e
      refine .inr (.inl ?_)
      rw [hp, Int.toNat_natCast, upn_at]
      simp
    · rcases h.one j (by omega) hm with h1 | h1 | h1
      · exact .inl h1
      · refine .inr (.inl ?_)
        unfold upn
        split
        · rename_i q; rw [← q]; exact List.mem_cons_of_mem _ h1
        · exact h1
      · cases h1
theorem ShI.take (D : Deep m E par) {k : Nat} {first behind near : Nat → Int} {L : Nat → List Nat} (h : ShI m par low (k - 1) k [] first behind near L) (h0 : 0 < k) (hk : k < m) :
    ShI m par low (k - 1) (k - 1) (L (par k)) (upn first (par k) (-1)) behind near (upn L (par k) []) ∧ ∀ j ∈ L (par k), low j = (par k : Nat) := by
  have hp := D.lt k h0 hk
  refine ⟨⟨fun q hq => ?_, fun q hq j hj => ?_, fun j hj => ?_, fun j hj hm => ?_⟩, fun j hj => (h.mem _ (by omega) j hj).2.2.1⟩
  · by_cases e : q = par k
    · subst e; rw [upn_at, upn_at]; rfl
    · rw [upn_off _ _ e, upn_off _ _ e]; exact h.lst q hq
  · by_cases e : q = par k
    · subst e; rw [upn_at] at hj; cases hj
    · rw [upn_off _ _ e] at hj
      obtain ⟨h1, h2, h3, h4⟩ := h.mem q hq j hj
      refine ⟨h1, h2, h3, fun c hc hcm hpc => ?_⟩
      by_cases q' : c = k
      · subst q'; exact absurd hpc.symm e
      · exact h4 c (by omega) hcm hpc
  · have := h.mem _ (by omega) j hj
    exact ⟨this.1, this.2.1⟩
  · rcases h.one j hj hm with h1 | h1 | h1
    · exact .inl ⟨fun v hv hlt => by have := h1.1 v hv hlt; omega, h1.2⟩
    · by_cases e : (low j).toNat = par k
      · rw [e] at h1; exact .inr (.inr h1)
      · refine .inr (.inl ?_)
        rw [upn_off _ _ e]; exact h1
    · cases h1
/-- One that was held is told. -/
theorem ShI.told (D : Deep m E par) {k j u : Nat} {R : List Nat} {first behind near : Nat → Int} {L : Nat → List Nat} (h : ShI m par low (k - 1) (k - 1) (j :: R) first behind near L) (h0 : 0 < k) (hk : k < m) (hj : low j = (par k : Nat)) (hlj : Anc par (par k) j) (hu : LeastU par (k - 1) low j u) :
    ShI m par low (k - 1) (k - 1) R first behind (upn near j (if low u < (par k : Nat) then (u : Int) else (par k : Nat))) L := by
  have hp := D.lt k h0 hk
  have hjm := h.rem j (by simp)
  refine ⟨h.lst, h.mem, fun i hi => h.rem i (List.mem_cons_of_mem _ hi), fun i hi hm => ?_⟩
  by_cases e : i = j
  · subst e
    have hlow : ∀ v : Nat, Anc par v i → low i < v → k - 1 < v := fun v hv hlt => by
      apply Classical.byContradiction
      intro hc
      rw [hj] at hlt
      have h1 : Anc par v k := D.iv v k i hjm.2 hv (by omega) (by omega)
      cases h1 with
      | refl => omega
      | up _ hh => have := D.anc_le hh (by omega); omega
    refine .inl ⟨hlow, ?_⟩
    rw [upn_at]
    by_cases q : low u < (par k : Nat)
    · rw [if_pos q]
      refine .inr ⟨u, rfl, hu.1, by rw [hj]; have := hu.2.1; omega, ?_, by rw [hj]; exact q, fun v hv hlt => hu.2.2 v hv (hlow v hv hlt)⟩
      have h1 := D.anc_le hu.1 hjm.2
      rcases Nat.lt_or_ge u i with q' | q'
      · exact q'
      · obtain rfl : u = i := by omega
        rw [hj] at q; omega
    · rw [if_neg q]
      exact .inl ⟨hj.symm, fun v hv hlt => by have := hu.2.2 v hv (hlow v hv hlt); omega⟩
  · rcases h.one i hi hm with h1 | h1 | h1
    · refine .inl ?_
      unfold One1
      rw [upn_off _ _ e]
      exact h1
    · exact .inr (.inl h1)
    · exact .inr (.inr ((List.mem_cons.1 h1).resolve_left e))
/-- Behind all numbers each is told. -/
theorem ShI.end (D : Deep m E par) {first behind near : Nat → Int} {L : Nat → List Nat} (h : ShI m par low 0 0 [] first behind near L) (hS : LowI m E 0 low) : ∀ j, 0 < j → j < m → One1 par low near 0 j := fun j hj hm => by
  rcases h.one j hj hm with h1 | h1 | h1
  · exact h1
  · obtain ⟨p, hp, hh, hl⟩ := hS.sd j hj hm
    have hpj : p < j := by
      have := hl _ (.one (D.tree j hj hm))
      have := D.lt j hj hm
      omega
    rw [hp, Int.toNat_natCast] at h1
    obtain ⟨_, _, _, h5⟩ := h.mem p (by omega) j h1
    have key : ∀ b, Anc par p b → p < b → b < m → ∃ c, 0 < c ∧ c < m ∧ par c = p ∧ Anc par c b := fun b hb => by
      induction hb with
      | refl => intro q; omega
      | @up b hb0 hh ih =>
        intro q hbm
        by_cases e : p = par b
        · exact ⟨b, hb0, hbm, e.symm, .refl _⟩
        · have hle := D.anc_le hh (by have := D.lt b hb0 hbm; omega)
          obtain ⟨c, c1, c2, c3, c4⟩ := ih (by omega) (by have := D.lt b hb0 hbm; omega)
          exact ⟨c, c1, c2, c3, .up hb0 c4⟩
    obtain ⟨c, c1, c2, c3, c4⟩ := key j (D.hi_anc hh hpj) hpj hm
    exact absurd c4 (h5 c c1 c2 c3)
  · cases h1
/-- The second look: those below k are told at last. -/
structure NearK (m : Nat) (par : Nat → Nat) (low : Nat → Int) (k : Nat) (near : Nat → Int) : Prop where
  lt : ∀ j, j < m → 0 ≤ near j ∧ near j < m
  old : ∀ j, k ≤ j → 0 < j → j < m → One1 par low near 0 j
  one : ∀ j, 0 < j → j < k → (near j = low j ∧ ∀ u : Nat, Anc par u j → low j < u → low j ≤ low u) ∨
    ∃ u : Nat, Anc par u j ∧ low j < u ∧ u < j ∧ low u < low j ∧ near j = near u ∧ ∀ v : Nat, Anc par v j → low j < v → low u ≤ low v
theorem NearK.next {k : Nat} {near : Nat → Int} (h : NearK m par low k near) (h0 : 0 < k) (hk : k < m) :
    NearK m par low (k + 1) (if near k = low k then near else upn near k (near (near k).toNat)) := by
  have ho := h.old k (Nat.le_refl _) h0 hk
  by_cases e : near k = low k
  · rw [if_pos e]
    refine ⟨h.lt, fun j hj => h.old j (by omega), fun j hj hjk => ?_⟩
    by_cases q : j = k
    · subst q
      rcases ho.2 with h1 | ⟨u, u1, u2, u3, u4, u5, u6⟩
      · exact .inl h1
      · rw [e] at u1
        omega
    · exact h.one j hj (by omega)
  · rw [if_neg e]
    obtain ⟨u, u1, u2, u3, u4, u5, u6⟩ := ho.2.resolve_left fun h1 => e h1.1
    have hu : (near k).toNat = u := by omega
    rw [hu]
    refine ⟨fun j hj => ?_, fun j hj hj0 hm => ?_, fun j hj hjk => ?_⟩
    · unfold upn
      split
      · exact h.lt u (by omega)
      · exact h.lt j hj
    · have := h.old j (by omega) hj0 hm
      unfold One1 at this ⊢
      rw [upn_off _ _ (by omega)]
      exact this
    · by_cases q : j = k
      · subst q
        refine .inr ⟨u, u2, u3, u4, u5, ?_, u6⟩
        rw [upn_at, upn_off _ _ (by omega)]
      · rw [upn_off _ _ q]
        rcases h.one j hj (by omega) with h1 | ⟨v, v1, v2, v3, v4, v5, v6⟩
        · exact .inl h1
        · refine .inr ⟨v, v1, v2, v3, v4, ?_, v6⟩
          rw [upn_off _ _ (by omega)]
          exact v5
/-- Lengauer's and Tarjan's answer. -/
theorem near_done (D : Deep m E par) {near : Nat → Int} (h : NearK m par low m near) (hS : LowI m E 0 low) :
    ∃ sd : Nat → Nat, Semi m E sd ∧ Near m par sd fun j => (near j).toNat := by
  have hsd : ∀ j, 0 < j → j < m → ∃ x : Nat, low j = x ∧ Hi E j x ∧ ∀ y, Hi E j y → x ≤ y := fun j h0 hm => hS.sd j h0 hm
  have hu0 : ∀ (u j : Nat), low j < u → 0 < j → j < m → 0 < u := fun u j h h0 hm => by
    obtain ⟨x, h1, _⟩ := hsd j h0 hm
    omega
  refine ⟨fun j => (low j).toNat, ⟨fun k h0 hk => ?_, fun k h0 hk x hx => ?_⟩, ⟨fun k h0 hk => ?_⟩⟩
  · obtain ⟨x, h1, h2, h3⟩ := hsd k h0 hk
    simp only [h1, Int.toNat_natCast]; exact h2
  · obtain ⟨z, h1, h2, h3⟩ := hsd k h0 hk
    simp only [h1, Int.toNat_natCast]; exact h3 x hx
  · obtain ⟨z, z1, z2, z3⟩ := hsd k h0 hk
    have hcv : ∀ v, Anc par v k → (low k).toNat < v → ∃ y : Nat, low v = y := fun v hv hlt => by
      have h1 := D.anc_le hv hk
      obtain ⟨y, y1, _⟩ := hsd v (hu0 v k (by omega) h0 hk) (by omega)
      exact ⟨y, y1⟩
    rcases h.one k h0 hk with ⟨h1, h2⟩ | ⟨u, u1, u2, u3, u4, u5, u6⟩
    · refine .inl ⟨by simp only [h1], fun u hu hlt => ?_⟩
      obtain ⟨y, hy⟩ := hcv u hu hlt
      have := h2 u hu (by omega)
      omega
    · refine .inr ⟨u, u1, by omega, u3, ?_, by simp only [u5], fun v hv hlt => ?_⟩
      · obtain ⟨y, hy⟩ := hcv u u1 (by omega)
        omega
      · obtain ⟨y, hy⟩ := hcv v hv hlt
        obtain ⟨y', hy'⟩ := hcv u u1 (by omega)
        have := u6 v hv (by omega)
        omega
end
end Gra
end Go.Proofs.YtggiaopdgijgnaaDoor
