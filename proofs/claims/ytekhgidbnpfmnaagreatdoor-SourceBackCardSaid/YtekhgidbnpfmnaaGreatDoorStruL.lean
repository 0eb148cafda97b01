/- A struct of five ints, as an argument of a law. Nothing of any program. -/
import Derived.WalkKit
import Derived.RowKit
import Derived.OpenShut
import Derived.ChangeSame
namespace Go.Proofs.YtekhgidbnpfmnaaGreatDoor
open Go.RowKit Go.ChangeShapes Go.WideShapes

theorem array5 {α : Type} {cs : Array α} (h : cs.size = 5) : ∃ c0 c1 c2 c3 c4, cs = #[c0, c1, c2, c3, c4] := by
  obtain ⟨l⟩ := cs
  match l, h with
  | [c0, c1, c2, c3, c4], _ => exact ⟨c0, c1, c2, c3, c4, rfl⟩
theorem list5 {α : Type} {l : List α} (h : l.length = 5) : ∃ c0 c1 c2 c3 c4, l = [c0, c1, c2, c3, c4] := by
  match l, h with
  | [c0, c1, c2, c3, c4], _ => exact ⟨c0, c1, c2, c3, c4, rfl⟩
theorem open_s5 {H : Type} {enc : TypeId × Value → H} {P : Program} {w : World} {base : Nat} {spare : Nat → Bool} {held : Bool} {r : Reach} {b0 : Nat} {t e : TypeId} {k : IntKind} {f0 f1 f2 f3 f4 : Field} {v : Value} {d : DataW H} {ps : List MemPlace}
    (ht : P.underlying t = some (.struct #[f0, f1, f2, f3, f4])) (he : P.underlying e = some (.int k)) (ho : f0.type = e ∧ f0.offset = 0 ∧ f1.type = e ∧ f1.offset = 1 ∧ f2.type = e ∧ f2.offset = 2 ∧ f3.type = e ∧ f3.offset = 3 ∧ f4.type = e ∧ f4.offset = 4)
    (hct : P.cellsOf t = 5) (hce : P.cellsOf e = 1) (hval : Value.okWide P w r b0 t v) (hd : DataW.Trod enc P w base spare held t v d ps) :
    ∃ a0 a1 a2 a3 a4 : Int, v = .agg #[.int k a0, .int k a1, .int k a2, .int k a3, .int k a4] ∧ d = .agg [.lit (.int k a0), .lit (.int k a1), .lit (.int k a2), .lit (.int k a3), .lit (.int k a4)] ∧ ps = []
      ∧ (Lit.int k a0).wf = true ∧ (Lit.int k a1).wf = true ∧ (Lit.int k a2).wf = true ∧ (Lit.int k a3).wf = true ∧ (Lit.int k a4).wf = true := by
  obtain ⟨cs, rfl, hs⟩ := okWide_struct ht hval
  obtain ⟨c0, c1, c2, c3, c4, rfl⟩ := array5 (hs.trans hct)
  obtain ⟨fuel, hf⟩ := hd
  obtain ⟨xs, m, rfl, hx, _, hl, hi⟩ := DataW.trod_struct ht hf
  obtain ⟨y0, y1, y2, y3, y4, rfl⟩ := list5 (l := xs) (by simpa using hl)
  obtain ⟨t0, o0, t1, o1, t2, o2, t3, o3, t4, o4⟩ := ho
  have h0 := hi 0 f0 rfl
  have h1 := hi 1 f1 rfl
  have h2 := hi 2 f2 rfl
  have h3 := hi 3 f3 rfl
  have h4 := hi 4 f4 rfl
  rw [t0, o0, hce] at h0
  rw [t1, o1, hce] at h1
  rw [t2, o2, hce] at h2
  rw [t3, o3, hce] at h3
  rw [t4, o4, hce] at h4
  simp [Value.cells] at h0 h1 h2 h3 h4
  obtain ⟨a0, e0, rfl, w0⟩ := DataW.trod_int he h0
  obtain ⟨a1, e1, rfl, w1⟩ := DataW.trod_int he h1
  obtain ⟨a2, e2, rfl, w2⟩ := DataW.trod_int he h2
  obtain ⟨a3, e3, rfl, w3⟩ := DataW.trod_int he h3
  obtain ⟨a4, e4, rfl, w4⟩ := DataW.trod_int he h4
  simp at e0 e1 e2 e3 e4
  subst e0 e1 e2 e3 e4
  simp at hx
  exact ⟨a0, a1, a2, a3, a4, rfl, hx.1, hx.2, w0, w1, w2, w3, w4⟩
theorem shut_s5 {H : Type} {enc : TypeId × Value → H} {P : Program} {w : World} {base : Nat} {spare : Nat → Bool} {held : Bool} {t e : TypeId} {k : IntKind} {f0 f1 f2 f3 f4 : Field} {a0 a1 a2 a3 a4 : Int}
    (ht : P.underlying t = some (.struct #[f0, f1, f2, f3, f4])) (he : P.underlying e = some (.int k)) (ho : f0.type = e ∧ f0.offset = 0 ∧ f1.type = e ∧ f1.offset = 1 ∧ f2.type = e ∧ f2.offset = 2 ∧ f3.type = e ∧ f3.offset = 3 ∧ f4.type = e ∧ f4.offset = 4)
    (hct : P.cellsOf t = 5) (hce : P.cellsOf e = 1) (w0 : (Lit.int k a0).wf = true) (w1 : (Lit.int k a1).wf = true) (w2 : (Lit.int k a2).wf = true) (w3 : (Lit.int k a3).wf = true) (w4 : (Lit.int k a4).wf = true) :
    DataW.Trod enc P w base spare held t (.agg #[.int k a0, .int k a1, .int k a2, .int k a3, .int k a4]) (.agg [.lit (.int k a0), .lit (.int k a1), .lit (.int k a2), .lit (.int k a3), .lit (.int k a4)]) [] := by
  obtain ⟨t0, o0, t1, o1, t2, o2, t3, o3, t4, o4⟩ := ho
  exact ⟨2, by simp [DataW.trod, Value.cells, ht, he, hct, hce, t0, o0, t1, o1, t2, o2, t3, o3, t4, o4, w0, w1, w2, w3, w4]⟩
end Go.Proofs.YtekhgidbnpfmnaaGreatDoor
