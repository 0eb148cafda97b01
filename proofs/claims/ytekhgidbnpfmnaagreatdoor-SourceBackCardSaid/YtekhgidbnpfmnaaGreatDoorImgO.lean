/- A struct of five slices (an image), as an argument of a law. Nothing of any program. -/
import Derived.Test.YtekhgidbnpfmnaaGreatDoorImgP
import Derived.Test.YtekhgidbnpfmnaaGreatDoorPlaP
import Derived.Deep.Slices
import Derived.ChangeSame
import Derived.OpenShut
namespace Go.Proofs.YtekhgidbnpfmnaaGreatDoor
open Go.RowKit Go.ChangeShapes Go.WideShapes Go.Maps

theorem imgs_of {α : Type} [Inhabited α] {p : Nat → α → Prop} : ∀ n : Nat, (∀ i, i < n → ∃ x, p i x) → ∃ l : List α, l.length = n ∧ ∀ i, i < n → p i (el l i)
  | 0, _ => ⟨[], rfl, fun i h => absurd h (Nat.not_lt_zero _)⟩
  | n + 1, h => by
    obtain ⟨l, hl, hp⟩ := imgs_of n fun i hi => h i (by omega)
    obtain ⟨x, hx⟩ := h n (by omega)
    refine ⟨l ++ [x], by simp [hl], fun i hi => ?_⟩
    rcases Nat.lt_succ_iff_lt_or_eq.1 hi with q | q
    · rw [el_left (by omega)]; exact hp i q
    · subst q; subst hl; rw [el_last]; exact hx
theorem row_ok {κ : IntKind} {w : World} {a : Option Addr} {n c : Nat} {zs : List Int} (h : IsRow κ w a n c zs) : ∀ y ∈ zs, (Lit.int κ y).wf = true := by
  rcases h with ⟨_, _, _, rfl⟩ | ⟨x, _, _, _, _, _, hw⟩
  · intro y hy; cases hy
  · exact hw
/-- An image in memory: its five slices. -/
structure ImgAt (w : World) (a0 : Option Addr) (n0 c0 : Nat) (a1 : Option Addr) (n1 c1 : Nat) (a2 : Option Addr) (n2 c2 : Nat) (a3 : Option Addr) (n3 c3 : Nat) (a4 : Option Addr) (n4 c4 : Nat) (m : Img) : Prop where
  code : Ws .u32 w a0 n0 c0 m.code
  data : Ws .i32 w a1 n1 c1 m.data
  sec : ElAt boolK w a2 n2 c2 m.sec
  inn : Ws .i64 w a3 n3 c3 m.inn
  out : Ws .i64 w a4 n4 c4 m.out
/-- The image's words are words. -/
structure ImgOk (m : Img) : Prop where
  words : WordsI m
  inn : ∀ x ∈ m.inn, -9223372036854775808 ≤ x ∧ x ≤ 9223372036854775807
  out : ∀ x ∈ m.out, -9223372036854775808 ≤ x ∧ x ≤ 9223372036854775807
theorem open_nums {H : Type} {enc : TypeId × Value → H} {P : Program} {w : World} {held : Bool} {t e : TypeId} {κ : IntKind} {fuel : Nat} {v : Value} {x : DataW H × List MemPlace} (ht : P.underlying t = some (.slice e)) (he : P.underlying e = some (.int κ)) (hc : P.cellsOf e = 1)
    (h : DataW.trod enc P w 0 (fun _ => true) held fuel t [v] = some x) : ∃ a n c zs, v = .slice a n c ∧ IsRow κ w a n c zs := by
  rcases open_ints ht he hc h with ⟨hcs, _⟩ | ⟨ad, l, c, zs, hcs, _, hl, hm, hz, _, hcell, hwz⟩
  · simp at hcs
    subst hcs
    exact ⟨none, 0, 0, [], rfl, .inl ⟨rfl, rfl, rfl, rfl⟩⟩
  · simp at hcs
    subst hcs
    exact ⟨some ad, l, c, zs, rfl, .inr ⟨_, rfl, hl, hm, by simpa using hz, hcell, hwz⟩⟩
theorem open_bools {H : Type} {enc : TypeId × Value → H} {P : Program} {w : World} {base : Nat} {spare : Nat → Bool} {held : Bool} {t e : TypeId} {fuel : Nat} {v : Value} {x : DataW H × List MemPlace} (ht : P.underlying t = some (.slice e)) (he : P.underlying e = some .bool) (hc : P.cellsOf e = 1)
    (h : DataW.trod enc P w base spare held fuel t [v] = some x) : ∃ a n c l, v = .slice a n c ∧ ElAt boolK w a n c l := by
  rcases Go.Deep.open_slice ht h with ⟨h0, -⟩ | ⟨ad, len, cap, m, k, D, Pl, hcs0, _, hl, hm, hmm, _, hi0⟩
  · simp at h0
    subst h0
    exact ⟨none, 0, 0, [], rfl, ElAt.emp _ w⟩
  · simp at hcs0
    subst hcs0
    have one : ∀ i, i < len → ∃ q : Bool, (∃ b off, ad = ⟨b, off, none⟩ ∧ ∀ j, j < 1 → w.cell? ⟨b, off + i * 1 + j, none⟩ = (boolK.enc q)[j]?) ∧ True := by
      intro i hin
      have him : i < m := by
        rw [hmm]
        split <;> omega
      obtain ⟨cs', hcc, htr⟩ := hi0 i him
      rw [hc] at hcc
      obtain ⟨_, hlen, hat⟩ := World.cells?_some hcc
      obtain ⟨v0, rfl⟩ := List.length_eq_one_iff.1 hlen
      obtain ⟨q, e0, _⟩ := DataW.trod_bool he htr
      simp at e0
      subst e0
      obtain ⟨cs0, hc0, _⟩ := hi0 0 (by omega)
      obtain ⟨_, hlen0, hat0⟩ := World.cells?_some hc0
      rw [hc] at hlen0 hat0
      obtain ⟨u0, rfl⟩ := List.length_eq_one_iff.1 hlen0
      have d0 := hat0 0 (by decide)
      obtain ⟨b, off, st⟩ := ad
      obtain rfl : st = none := by simpa [Addr.add] using World.cell?_spot d0
      refine ⟨q, ⟨b, off, rfl, fun j hj => ?_⟩, trivial⟩
      have := hat j hj
      rw [by_add, by_add] at this
      exact this
    obtain ⟨l, hln, hp⟩ := imgs_of len one
    refine ⟨some ad, len, cap, l, rfl, ⟨hln, hl, hm, fun h => (nomatch h), fun hn => ?_⟩⟩
    obtain ⟨⟨b, off, e, _⟩, _⟩ := hp 0 hn
    refine ⟨b, off, by rw [e], fun i hi j hj => ?_⟩
    obtain ⟨⟨b', off', e', c0⟩, _⟩ := hp i hi
    rw [e] at e'
    simp only [Addr.mk.injEq, and_true] at e'
    obtain ⟨rfl, rfl⟩ := e'
    exact c0 j hj
theorem open_img {H : Type} {enc : TypeId × Value → H} {P : Program} {w : World} {held : Bool} {r : Reach} {b0 : Nat} {t tc tu td ti ts tb tn tk : TypeId} {f0 f1 f2 f3 f4 : Field} {v : Value} {d : DataW H} {ps : List MemPlace}
    (ht : P.underlying t = some (.struct #[f0, f1, f2, f3, f4])) (h0 : P.underlying tc = some (.slice tu)) (hu : P.underlying tu = some (.int .u32)) (h1 : P.underlying td = some (.slice ti)) (hi : P.underlying ti = some (.int .i32)) (h2 : P.underlying ts = some (.slice tb)) (hb : P.underlying tb = some .bool) (h3 : P.underlying tn = some (.slice tk)) (hk : P.underlying tk = some (.int .i64))
    (ho : (f0.type = tc ∧ f0.offset = 0) ∧ (f1.type = td ∧ f1.offset = 1) ∧ (f2.type = ts ∧ f2.offset = 2) ∧ (f3.type = tn ∧ f3.offset = 3) ∧ (f4.type = tn ∧ f4.offset = 4))
    (hct : P.cellsOf t = 5) (hcc : P.cellsOf tc = 1 ∧ P.cellsOf td = 1 ∧ P.cellsOf ts = 1 ∧ P.cellsOf tn = 1) (hce : P.cellsOf tu = 1 ∧ P.cellsOf ti = 1 ∧ P.cellsOf tb = 1 ∧ P.cellsOf tk = 1) (hval : Value.okWide P w r b0 t v) (hd : DataW.Trod enc P w 0 (fun _ => true) held t v d ps) :
    ∃ a0 n0 c0 a1 n1 c1 a2 n2 c2 a3 n3 c3 a4 n4 c4 m, v = .agg #[.slice a0 n0 c0, .slice a1 n1 c1, .slice a2 n2 c2, .slice a3 n3 c3, .slice a4 n4 c4] ∧ ImgAt w a0 n0 c0 a1 n1 c1 a2 n2 c2 a3 n3 c3 a4 n4 c4 m ∧ ImgOk m := by
  obtain ⟨cs, rfl, hs⟩ := okWide_struct ht hval
  have hs5 : cs.toList.length = 5 := by rw [Array.length_toList]; exact hs.trans hct
  obtain ⟨fuel, hf⟩ := hd
  obtain ⟨xs, m', rfl, hx, _, hl, hii⟩ := DataW.trod_struct ht hf
  obtain ⟨⟨t0, o0⟩, ⟨t1, o1⟩, ⟨t2, o2⟩, ⟨t3, o3⟩, ⟨t4, o4⟩⟩ := ho
  obtain ⟨q0, q1, q2, q3⟩ := hcc
  obtain ⟨e0, e1, e2, e3⟩ := hce
  obtain ⟨cl⟩ := cs
  match cl, hs5 with
  | [x0, x1, x2, x3, x4], _ =>
    match xs, (show xs.length = 5 by simpa using hl) with
    | [y0, y1, y2, y3, y4], _ =>
      have g0 := hii 0 f0 rfl
      have g1 := hii 1 f1 rfl
      have g2 := hii 2 f2 rfl
      have g3 := hii 3 f3 rfl
      have g4 := hii 4 f4 rfl
      rw [t0, o0, q0] at g0
      rw [t1, o1, q1] at g1
      rw [t2, o2, q2] at g2
      rw [t3, o3, q3] at g3
      rw [t4, o4, q3] at g4
      simp [Value.cells] at g0 g1 g2 g3 g4
      obtain ⟨a0, n0, c0, z0, rfl, r0⟩ := open_nums h0 hu e0 g0
      obtain ⟨a1, n1, c1, z1, rfl, r1⟩ := open_nums h1 hi e1 g1
      obtain ⟨a2, n2, c2, z2, rfl, r2⟩ := open_bools h2 hb e2 g2
      obtain ⟨a3, n3, c3, z3, rfl, r3⟩ := open_nums h3 hk e3 g3
      obtain ⟨a4, n4, c4, z4, rfl, r4⟩ := open_nums h3 hk e3 g4
      refine ⟨a0, n0, c0, a1, n1, c1, a2, n2, c2, a3, n3, c3, a4, n4, c4, ⟨z0.take n0, z1.take n1, z2, z3.take n3, z4.take n4⟩, rfl, ⟨Ws.of_row r0, Ws.of_row r1, r2, Ws.of_row r3, Ws.of_row r4⟩, ⟨⟨fun x hx => ?_, fun x hx => ?_⟩, fun x hx => ?_, fun x hx => ?_⟩⟩
      · have := bounds_u32 (row_ok r0 x (List.mem_of_mem_take hx)); omega
      · have := bounds_i32 (row_ok r1 x (List.mem_of_mem_take hx)); omega
      · have := bounds_i64 (row_ok r3 x (List.mem_of_mem_take hx)); omega
      · have := bounds_i64 (row_ok r4 x (List.mem_of_mem_take hx)); omega
end Go.Proofs.YtekhgidbnpfmnaaGreatDoor
