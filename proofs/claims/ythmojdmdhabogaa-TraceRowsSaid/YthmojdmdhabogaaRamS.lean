/- A slice of moves (structs of a bool and two words), as an argument of a law. Nothing of any program. -/
import Derived.Test.YthmojdmdhabogaaRamV
import Derived.Deep.Slices
import Derived.ChangeSame
namespace Go.Proofs.Ythmojdmdhabogaa
open Go.RowKit Go.ChangeShapes Go.WideShapes

theorem list3 {α : Type} {l : List α} (h : l.length = 3) : ∃ c0 c1 c2, l = [c0, c1, c2] := by
  match l, h with
  | [c0, c1, c2], _ => exact ⟨c0, c1, c2, rfl⟩
theorem open_moves {H : Type} {enc : TypeId × Value → H} {P : Program} {w : World} {base : Nat} {spare : Nat → Bool} {held : Bool} {t e tb ti : TypeId} {f0 f1 f2 : Field} {a : Option Addr} {n c : Nat} {fuel : Nat} {x : DataW H × List MemPlace}
    (ht : P.underlying t = some (.slice e)) (he : P.underlying e = some (.struct #[f0, f1, f2])) (hb : P.underlying tb = some .bool) (hi : P.underlying ti = some (.int .i32)) (ho : f0.type = tb ∧ f0.offset = 0 ∧ f1.type = ti ∧ f1.offset = 1 ∧ f2.type = ti ∧ f2.offset = 2)
    (hce : P.cellsOf e = 3) (hcb : P.cellsOf tb = 1) (hci : P.cellsOf ti = 1) (h : DataW.trod enc P w base spare held fuel t [.slice a n c] = some x) : MovesAt w a n c := by
  rcases Go.Deep.open_slice ht h with ⟨h0, -⟩ | ⟨ad, len, cap, m, k, D, Pl, hcs, _, hl, hm, hmm, _, hi0⟩
  · simp at h0
    obtain ⟨rfl, rfl, rfl⟩ := h0
    exact ⟨Nat.le_refl _, by unfold maxLen; omega, fun _ => rfl, fun i hi => absurd hi (Nat.not_lt_zero _)⟩
  · simp at hcs
    obtain ⟨rfl, rfl, rfl⟩ := hcs
    refine ⟨hl, hm, fun h => (nomatch h), fun i hin => ?_⟩
    have him : i < m := by
      rw [hmm]
      split <;> omega
    obtain ⟨cs', hc, htr⟩ := hi0 i him
    rw [hce] at hc
    obtain ⟨_, hlen, hat⟩ := World.cells?_some hc
    obtain ⟨v0, v1, v2, rfl⟩ := list3 hlen
    obtain ⟨ys, k', rfl, _, _, hyl, hf⟩ := DataW.trod_struct he htr
    obtain ⟨y0, y1, y2, rfl⟩ := list3 (l := ys) (by simpa using hyl)
    obtain ⟨t0, o0, t1, o1, t2, o2⟩ := ho
    have q0 := hf 0 f0 rfl
    have q1 := hf 1 f1 rfl
    have q2 := hf 2 f2 rfl
    rw [t0, o0, hcb] at q0
    rw [t1, o1, hci] at q1
    rw [t2, o2, hci] at q2
    simp at q0 q1 q2
    obtain ⟨s, e0, _⟩ := DataW.trod_bool hb q0
    obtain ⟨z, e1, _, wz⟩ := DataW.trod_int hi q1
    obtain ⟨u, e2, _, wu⟩ := DataW.trod_int hi q2
    simp at e0 e1 e2
    subst e0 e1 e2
    have c0 := hat 0 (by decide)
    have c1 := hat 1 (by decide)
    have c2 := hat 2 (by decide)
    obtain ⟨cs0, hc0, _⟩ := hi0 0 (by omega)
    obtain ⟨_, hlen0, hat0⟩ := World.cells?_some hc0
    rw [hce] at hlen0 hat0
    obtain ⟨u0, u1, u2, rfl⟩ := list3 hlen0
    have d0 := hat0 0 (by decide)
    obtain ⟨b, off, st⟩ := ad
    obtain rfl : st = none := by simpa [Addr.add] using World.cell?_spot d0
    have := bounds_i32 wz
    refine ⟨b, off, s, z, u, rfl, ?_, ?_, ?_, this.1, this.2⟩
    · rw [by_add, by_add] at c0; simpa using c0
    · rw [by_add, by_add] at c1; simpa using c1
    · rw [by_add, by_add] at c2; simpa using c2
end Go.Proofs.Ythmojdmdhabogaa
