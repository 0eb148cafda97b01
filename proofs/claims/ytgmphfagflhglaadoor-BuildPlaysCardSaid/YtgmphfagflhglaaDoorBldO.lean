/- A slice of a builder's acts (a number, an instruction, a text, three numbers), as an argument of a law. Nothing of any program. -/
import Derived.Test.YtgmphfagflhglaaDoorBldP
import Derived.Deep.Slices
import Derived.ChangeSame
namespace Go.Proofs.YtgmphfagflhglaaDoor
open Go.RowKit Go.ChangeShapes Go.WideShapes Go.Maps

/-- An act: its kind, its instruction, its name, its registers, its number. -/
abbrev Ab := Int × I5 × ByteArray × Int × Int × Int
instance : Inhabited Ab := ⟨(0, (0, 0, 0, 0, 0), ⟨#[]⟩, 0, 0, 0)⟩
def abK : Kd Ab where
  k := 10
  enc r := [.int .i64 r.1, .int .i64 r.2.1.1, .int .i64 r.2.1.2.1, .int .i64 r.2.1.2.2.1, .int .i64 r.2.1.2.2.2.1, .int .i64 r.2.1.2.2.2.2, .string r.2.2.1, .int .i64 r.2.2.2.1, .int .i64 r.2.2.2.2.1, .int .i32 r.2.2.2.2.2]
  len _ := rfl
  ones := by intro x v hv; simp at hv; rcases hv with rfl | rfl | rfl | rfl | rfl | rfl | rfl | rfl | rfl | rfl <;> rfl
  pos := by decide
theorem abs6 {α : Type} {l : List α} (h : l.length = 6) : ∃ c0 c1 c2 c3 c4 c5, l = [c0, c1, c2, c3, c4, c5] := by
  match l, h with
  | [c0, c1, c2, c3, c4, c5], _ => exact ⟨c0, c1, c2, c3, c4, c5, rfl⟩
theorem abs5 {α : Type} {l : List α} (h : l.length = 5) : ∃ c0 c1 c2 c3 c4, l = [c0, c1, c2, c3, c4] := by
  match l, h with
  | [c0, c1, c2, c3, c4], _ => exact ⟨c0, c1, c2, c3, c4, rfl⟩
theorem abs10 {α : Type} {l : List α} (h : l.length = 10) : ∃ c0 c1 c2 c3 c4 c5 c6 c7 c8 c9, l = [c0, c1, c2, c3, c4, c5, c6, c7, c8, c9] := by
  match l, h with
  | [c0, c1, c2, c3, c4, c5, c6, c7, c8, c9], _ => exact ⟨c0, c1, c2, c3, c4, c5, c6, c7, c8, c9, rfl⟩
theorem abs_of {α : Type} [Inhabited α] {p : Nat → α → Prop} : ∀ n : Nat, (∀ i, i < n → ∃ x, p i x) → ∃ l : List α, l.length = n ∧ ∀ i, i < n → p i (el l i)
  | 0, _ => ⟨[], rfl, fun i h => absurd h (Nat.not_lt_zero _)⟩
  | n + 1, h => by
    obtain ⟨l, hl, hp⟩ := abs_of n fun i hi => h i (by omega)
    obtain ⟨x, hx⟩ := h n (by omega)
    refine ⟨l ++ [x], by simp [hl], fun i hi => ?_⟩
    rcases Nat.lt_succ_iff_lt_or_eq.1 hi with q | q
    · rw [el_left (by omega)]; exact hp i q
    · subst q; subst hl; rw [el_last]; exact hx
/-- The bounds of what an act holds. -/
def AbOk (q : Ab) : Prop := q.2.2.1.size ≤ maxLen ∧ -2147483648 ≤ q.2.2.2.2.2 ∧ q.2.2.2.2.2 ≤ 2147483647
theorem open_five {H : Type} {enc : TypeId × Value → H} {P : Program} {w : World} {base : Nat} {spare : Nat → Bool} {held : Bool} {tI ti : TypeId} {g0 g1 g2 g3 g4 : Field} {fuel : Nat} {cs : List Value} {x : DataW H × List MemPlace} (hc : cs.length = 5)
    (hI : P.underlying tI = some (.struct #[g0, g1, g2, g3, g4])) (hi : P.underlying ti = some (.int .i64)) (hg : (g0.type = ti ∧ g0.offset = 0) ∧ (g1.type = ti ∧ g1.offset = 1) ∧ (g2.type = ti ∧ g2.offset = 2) ∧ (g3.type = ti ∧ g3.offset = 3) ∧ (g4.type = ti ∧ g4.offset = 4)) (hci : P.cellsOf ti = 1)
    (h : DataW.trod enc P w base spare held fuel tI cs = some x) : ∃ o d a b n : Int, cs = [.int .i64 o, .int .i64 d, .int .i64 a, .int .i64 b, .int .i64 n] := by
  obtain ⟨v0, v1, v2, v3, v4, rfl⟩ := abs5 hc
  obtain ⟨ys, k', rfl, _, _, hyl, hf⟩ := DataW.trod_struct hI h
  obtain ⟨y0, y1, y2, y3, y4, rfl⟩ := abs5 (l := ys) (by simpa using hyl)
  obtain ⟨⟨t0, o0⟩, ⟨t1, o1⟩, ⟨t2, o2⟩, ⟨t3, o3⟩, ⟨t4, o4⟩⟩ := hg
  have q0 := hf 0 g0 rfl
  have q1 := hf 1 g1 rfl
  have q2 := hf 2 g2 rfl
  have q3 := hf 3 g3 rfl
  have q4 := hf 4 g4 rfl
  rw [t0, o0, hci] at q0
  rw [t1, o1, hci] at q1
  rw [t2, o2, hci] at q2
  rw [t3, o3, hci] at q3
  rw [t4, o4, hci] at q4
  simp at q0 q1 q2 q3 q4
  obtain ⟨x0, e0, _, _⟩ := DataW.trod_int hi q0
  obtain ⟨x1, e1, _, _⟩ := DataW.trod_int hi q1
  obtain ⟨x2, e2, _, _⟩ := DataW.trod_int hi q2
  obtain ⟨x3, e3, _, _⟩ := DataW.trod_int hi q3
  obtain ⟨x4, e4, _, _⟩ := DataW.trod_int hi q4
  simp at e0 e1 e2 e3 e4
  subst e0 e1 e2 e3 e4
  exact ⟨x0, x1, x2, x3, x4, rfl⟩
theorem open_abs {H : Type} {enc : TypeId × Value → H} {P : Program} {w : World} {base : Nat} {spare : Nat → Bool} {held : Bool} {t e tI ti ts th : TypeId} {f0 f1 f2 f3 f4 f5 g0 g1 g2 g3 g4 : Field} {a : Option Addr} {n c : Nat} {fuel : Nat} {x : DataW H × List MemPlace}
    (ht : P.underlying t = some (.slice e)) (he : P.underlying e = some (.struct #[f0, f1, f2, f3, f4, f5])) (hI : P.underlying tI = some (.struct #[g0, g1, g2, g3, g4])) (hi : P.underlying ti = some (.int .i64)) (hs : P.underlying ts = some .string) (hh : P.underlying th = some (.int .i32))
    (ho : (f0.type = ti ∧ f0.offset = 0) ∧ (f1.type = tI ∧ f1.offset = 1) ∧ (f2.type = ts ∧ f2.offset = 6) ∧ (f3.type = ti ∧ f3.offset = 7) ∧ (f4.type = ti ∧ f4.offset = 8) ∧ (f5.type = th ∧ f5.offset = 9))
    (hg : (g0.type = ti ∧ g0.offset = 0) ∧ (g1.type = ti ∧ g1.offset = 1) ∧ (g2.type = ti ∧ g2.offset = 2) ∧ (g3.type = ti ∧ g3.offset = 3) ∧ (g4.type = ti ∧ g4.offset = 4))
    (hce : P.cellsOf e = 10) (hcI : P.cellsOf tI = 5) (hci : P.cellsOf ti = 1) (hcs : P.cellsOf ts = 1) (hch : P.cellsOf th = 1) (h : DataW.trod enc P w base spare held fuel t [.slice a n c] = some x) : ∃ l, ElAt abK w a n c l ∧ ∀ y ∈ l, AbOk y := by
  rcases Go.Deep.open_slice ht h with ⟨h0, -⟩ | ⟨ad, len, cap, m, k, D, Pl, hcs0, _, hl, hm, hmm, _, hi0⟩
  · simp at h0
    obtain ⟨rfl, rfl, rfl⟩ := h0
    exact ⟨[], ElAt.emp _ w, fun _ h => by cases h⟩
  · simp at hcs0
    obtain ⟨rfl, rfl, rfl⟩ := hcs0
    have one : ∀ i, i < n → ∃ q : Ab, (∃ b off, ad = ⟨b, off, none⟩ ∧ ∀ j, j < 10 → w.cell? ⟨b, off + i * 10 + j, none⟩ = (abK.enc q)[j]?) ∧ AbOk q := by
      intro i hin
      have him : i < m := by
        rw [hmm]
        split <;> omega
      obtain ⟨cs', hc, htr⟩ := hi0 i him
      rw [hce] at hc
      obtain ⟨_, hlen, hat⟩ := World.cells?_some hc
      obtain ⟨v0, v1, v2, v3, v4, v5, v6, v7, v8, v9, rfl⟩ := abs10 hlen
      obtain ⟨ys, k', rfl, _, _, hyl, hf⟩ := DataW.trod_struct he htr
      obtain ⟨y0, y1, y2, y3, y4, y5, rfl⟩ := abs6 (l := ys) (by simpa using hyl)
      obtain ⟨⟨t0, o0⟩, ⟨t1, o1⟩, ⟨t2, o2⟩, ⟨t3, o3⟩, ⟨t4, o4⟩, ⟨t5, o5⟩⟩ := ho
      have q0 := hf 0 f0 rfl
      have q1 := hf 1 f1 rfl
      have q2 := hf 2 f2 rfl
      have q3 := hf 3 f3 rfl
      have q4 := hf 4 f4 rfl
      have q5 := hf 5 f5 rfl
      rw [t0, o0, hci] at q0
      rw [t1, o1, hcI] at q1
      rw [t2, o2, hcs] at q2
      rw [t3, o3, hci] at q3
      rw [t4, o4, hci] at q4
      rw [t5, o5, hch] at q5
      simp at q0 q1 q2 q3 q4 q5
      obtain ⟨x0, e0, _, _⟩ := DataW.trod_int hi q0
      obtain ⟨z0, z1, z2, z3, z4, e1⟩ := open_five (by rfl) hI hi hg hci q1
      obtain ⟨s, e2, _, wz⟩ := DataW.trod_string hs q2
      obtain ⟨x3, e3, _, _⟩ := DataW.trod_int hi q3
      obtain ⟨x4, e4, _, _⟩ := DataW.trod_int hi q4
      obtain ⟨x5, e5, _, w5⟩ := DataW.trod_int hh q5
      simp at e0 e1 e2 e3 e4 e5
      obtain ⟨rfl, rfl, rfl, rfl, rfl⟩ := e1
      subst e0 e2 e3 e4 e5
      obtain ⟨cs0, hc0, _⟩ := hi0 0 (by omega)
      obtain ⟨_, hlen0, hat0⟩ := World.cells?_some hc0
      rw [hce] at hlen0 hat0
      obtain ⟨u0, u1, u2, u3, u4, u5, u6, u7, u8, u9, rfl⟩ := abs10 hlen0
      have d0 := hat0 0 (by decide)
      obtain ⟨b, off, st⟩ := ad
      obtain rfl : st = none := by simpa [Addr.add] using World.cell?_spot d0
      refine ⟨(x0, (z0, z1, z2, z3, z4), s, x3, x4, x5), ⟨b, off, rfl, fun j hj => ?_⟩, wz, ?_⟩
      · have := hat j hj
        rw [by_add, by_add] at this
        exact this
      · show -2147483648 ≤ x5 ∧ x5 ≤ 2147483647
        simpa [Lit.wf, IntKind.min, IntKind.max, IntKind.bits, IntKind.signed] using w5
    obtain ⟨l, hln, hp⟩ := abs_of n one
    refine ⟨l, ⟨hln, hl, hm, fun h => (nomatch h), fun hn => ?_⟩, fun q hq => ?_⟩
    · obtain ⟨⟨b, off, e, _⟩, _⟩ := hp 0 hn
      refine ⟨b, off, by rw [e], fun i hi j hj => ?_⟩
      obtain ⟨⟨b', off', e', c0⟩, _⟩ := hp i hi
      rw [e] at e'
      simp only [Addr.mk.injEq, and_true] at e'
      obtain ⟨rfl, rfl⟩ := e'
      exact c0 j hj
    · obtain ⟨i, hi, rfl⟩ := List.mem_iff_getElem.1 hq
      rw [el_eq hi]
      exact (hp i (by omega)).2
end Go.Proofs.YtgmphfagflhglaaDoor
