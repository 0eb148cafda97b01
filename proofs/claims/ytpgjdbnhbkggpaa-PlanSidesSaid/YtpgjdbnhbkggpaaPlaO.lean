/- A slice of wants (a text, a number, a mark), as an argument of a law. Nothing of any program. -/
import Derived.Test.YtpgjdbnhbkggpaaPlaP
import Derived.Deep.Slices
import Derived.ChangeSame
namespace Go.Proofs.Ytpgjdbnhbkggpaa
open Go.RowKit Go.ChangeShapes Go.WideShapes

theorem wnts3 {α : Type} {l : List α} (h : l.length = 3) : ∃ c0 c1 c2, l = [c0, c1, c2] := by
  match l, h with
  | [c0, c1, c2], _ => exact ⟨c0, c1, c2, rfl⟩
theorem wnts_of {α : Type} [Inhabited α] {p : Nat → α → Prop} : ∀ n : Nat, (∀ i, i < n → ∃ x, p i x) → ∃ l : List α, l.length = n ∧ ∀ i, i < n → p i (el l i)
  | 0, _ => ⟨[], rfl, fun i h => absurd h (Nat.not_lt_zero _)⟩
  | n + 1, h => by
    obtain ⟨l, hl, hp⟩ := wnts_of n fun i hi => h i (by omega)
    obtain ⟨x, hx⟩ := h n (by omega)
    refine ⟨l ++ [x], by simp [hl], fun i hi => ?_⟩
    rcases Nat.lt_succ_iff_lt_or_eq.1 hi with q | q
    · rw [el_left (by omega)]; exact hp i q
    · subst q; subst hl; rw [el_last]; exact hx
theorem open_wants {H : Type} {enc : TypeId × Value → H} {P : Program} {w : World} {base : Nat} {spare : Nat → Bool} {held : Bool} {t e ts ti tb : TypeId} {f0 f1 f2 : Field} {a : Option Addr} {n c : Nat} {fuel : Nat} {x : DataW H × List MemPlace}
    (ht : P.underlying t = some (.slice e)) (he : P.underlying e = some (.struct #[f0, f1, f2])) (hs : P.underlying ts = some .string) (hi : P.underlying ti = some (.int .i64)) (hb : P.underlying tb = some .bool) (ho : f0.type = ts ∧ f0.offset = 0 ∧ f1.type = ti ∧ f1.offset = 1 ∧ f2.type = tb ∧ f2.offset = 2)
    (hce : P.cellsOf e = 3) (hcs : P.cellsOf ts = 1) (hci : P.cellsOf ti = 1) (hcb : P.cellsOf tb = 1) (h : DataW.trod enc P w base spare held fuel t [.slice a n c] = some x) : ∃ l, ElAt wnK w a n c l ∧ ∀ y ∈ l, y.1.size ≤ maxLen := by
  rcases Go.Deep.open_slice ht h with ⟨h0, -⟩ | ⟨ad, len, cap, m, k, D, Pl, hcs0, _, hl, hm, hmm, _, hi0⟩
  · simp at h0
    obtain ⟨rfl, rfl, rfl⟩ := h0
    exact ⟨[], ElAt.emp _ w, fun _ h => by cases h⟩
  · simp at hcs0
    obtain ⟨rfl, rfl, rfl⟩ := hcs0
    have one : ∀ i, i < n → ∃ q : Wn, (∃ b off, ad = ⟨b, off, none⟩ ∧ w.cell? ⟨b, off + i * 3, none⟩ = some (.string q.1) ∧ w.cell? ⟨b, off + i * 3 + 1, none⟩ = some (.int .i64 q.2.1) ∧ w.cell? ⟨b, off + i * 3 + 2, none⟩ = some (.bool q.2.2)) ∧ q.1.size ≤ maxLen := by
      intro i hin
      have him : i < m := by
        rw [hmm]
        split <;> omega
      obtain ⟨cs', hc, htr⟩ := hi0 i him
      rw [hce] at hc
      obtain ⟨_, hlen, hat⟩ := World.cells?_some hc
      obtain ⟨v0, v1, v2, rfl⟩ := wnts3 hlen
      obtain ⟨ys, k', rfl, _, _, hyl, hf⟩ := DataW.trod_struct he htr
      obtain ⟨y0, y1, y2, rfl⟩ := wnts3 (l := ys) (by simpa using hyl)
      obtain ⟨t0, o0, t1, o1, t2, o2⟩ := ho
      have q0 := hf 0 f0 rfl
      have q1 := hf 1 f1 rfl
      have q2 := hf 2 f2 rfl
      rw [t0, o0, hcs] at q0
      rw [t1, o1, hci] at q1
      rw [t2, o2, hcb] at q2
      simp at q0 q1 q2
      obtain ⟨z, e0, _, wz⟩ := DataW.trod_string hs q0
      obtain ⟨u, e1, _, wu⟩ := DataW.trod_int hi q1
      obtain ⟨s, e2, _⟩ := DataW.trod_bool hb q2
      simp at e0 e1 e2
      subst e0 e1 e2
      have c0 := hat 0 (by decide)
      have c1 := hat 1 (by decide)
      have c2 := hat 2 (by decide)
      obtain ⟨cs0, hc0, _⟩ := hi0 0 (by omega)
      obtain ⟨_, hlen0, hat0⟩ := World.cells?_some hc0
      rw [hce] at hlen0 hat0
      obtain ⟨u0, u1, u2, rfl⟩ := wnts3 hlen0
      have d0 := hat0 0 (by decide)
      obtain ⟨b, off, st⟩ := ad
      obtain rfl : st = none := by simpa [Addr.add] using World.cell?_spot d0
      refine ⟨(z, u, s), ⟨b, off, rfl, ?_, ?_, ?_⟩, wz⟩
      · rw [by_add, by_add] at c0; simpa using c0
      · rw [by_add, by_add] at c1; simpa using c1
      · rw [by_add, by_add] at c2; simpa using c2
    obtain ⟨l, hln, hp⟩ := wnts_of n one
    refine ⟨l, ⟨hln, hl, hm, fun h => (nomatch h), fun hn => ?_⟩, fun q hq => ?_⟩
    · obtain ⟨⟨b, off, e, _⟩, _⟩ := hp 0 hn
      refine ⟨b, off, by rw [e], fun i hi j hj => ?_⟩
      obtain ⟨⟨b', off', e', c0, c1, c2⟩, _⟩ := hp i hi
      rw [e] at e'
      simp only [Addr.mk.injEq, and_true] at e'
      obtain ⟨rfl, rfl⟩ := e'
      have hj3 : j < 3 := hj
      match j, hj3 with
      | 0, _ => exact c0
      | 1, _ => exact c1
      | 2, _ => exact c2
    · obtain ⟨i, hi, rfl⟩ := List.mem_iff_getElem.1 hq
      rw [el_eq hi]
      exact (hp i (by omega)).2
end Go.Proofs.Ytpgjdbnhbkggpaa
