/- Arrays of three and of four whole numbers, as arguments of a law. Nothing of any program. -/
import Derived.WalkKit
import Derived.RowKit
import Derived.OpenShut
import Derived.Lib.SmallJoins
import Derived.ChangeKeysEq
import Derived.Laws.StructEq
namespace Go.Proofs.Ytdphiobmjdiefaa
open Go.RowKit Go.ChangeShapes

theorem okWide_array {P : Program} {w : World} {r : Reach} {b0 : Nat} {t e : TypeId} {n : Nat} {v : Value} (ht : P.underlying t = some (.array n e)) (hct : P.cellsOf t = n) (hval : Value.okWide P w r b0 t v) : ∃ cs : Array Value, v = .agg cs ∧ cs.size = n := by
  simp only [Value.okWide, ht] at hval
  obtain ⟨cs, h1, h2, _⟩ := hval
  exact ⟨cs, h1, by rw [h2, hct]⟩
theorem open_w4 {H : Type} {enc : TypeId × Value → H} {P : Program} {w : World} {base : Nat} {spare : Nat → Bool} {held : Bool} {r : Reach} {b0 : Nat} {t e : TypeId} {k : IntKind} {v : Value} {d : DataW H} {ps : List MemPlace}
    (ht : P.underlying t = some (.array 4 e)) (he : P.underlying e = some (.int k)) (hct : P.cellsOf t = 4) (hce : P.cellsOf e = 1) (hval : Value.okWide P w r b0 t v) (hd : DataW.Trod enc P w base spare held t v d ps) :
    ∃ a0 a1 a2 a3 : Int, v = .agg #[.int k a0, .int k a1, .int k a2, .int k a3] ∧ d = .agg [.lit (.int k a0), .lit (.int k a1), .lit (.int k a2), .lit (.int k a3)] ∧ ps = []
      ∧ (Lit.int k a0).wf = true ∧ (Lit.int k a1).wf = true ∧ (Lit.int k a2).wf = true ∧ (Lit.int k a3).wf = true := by
  obtain ⟨cs, rfl, hs⟩ := okWide_array ht hct hval
  obtain ⟨c0, c1, c2, c3, rfl⟩ := Go.Joins.array4 hs
  obtain ⟨fuel, hf⟩ := hd
  obtain ⟨xs, m, rfl, hx, _, hl, hi⟩ := DataW.trod_array ht hf
  rw [hce] at hi
  match xs, hl with
  | [y0, y1, y2, y3], _ =>
    have h0 := hi 0 (by decide)
    have h1 := hi 1 (by decide)
    have h2 := hi 2 (by decide)
    have h3 := hi 3 (by decide)
    simp [Value.cells] at h0 h1 h2 h3
    obtain ⟨a0, e0, rfl, w0⟩ := DataW.trod_int he h0
    obtain ⟨a1, e1, rfl, w1⟩ := DataW.trod_int he h1
    obtain ⟨a2, e2, rfl, w2⟩ := DataW.trod_int he h2
    obtain ⟨a3, e3, rfl, w3⟩ := DataW.trod_int he h3
    simp at e0 e1 e2 e3
    subst e0 e1 e2 e3
    simp at hx
    exact ⟨a0, a1, a2, a3, rfl, hx.1, hx.2, w0, w1, w2, w3⟩
theorem open_w3 {H : Type} {enc : TypeId × Value → H} {P : Program} {w : World} {base : Nat} {spare : Nat → Bool} {held : Bool} {r : Reach} {b0 : Nat} {t e : TypeId} {k : IntKind} {v : Value} {d : DataW H} {ps : List MemPlace}
    (ht : P.underlying t = some (.array 3 e)) (he : P.underlying e = some (.int k)) (hct : P.cellsOf t = 3) (hce : P.cellsOf e = 1) (hval : Value.okWide P w r b0 t v) (hd : DataW.Trod enc P w base spare held t v d ps) :
    ∃ a0 a1 a2 : Int, v = .agg #[.int k a0, .int k a1, .int k a2] ∧ d = .agg [.lit (.int k a0), .lit (.int k a1), .lit (.int k a2)] ∧ ps = []
      ∧ (Lit.int k a0).wf = true ∧ (Lit.int k a1).wf = true ∧ (Lit.int k a2).wf = true := by
  obtain ⟨cs, rfl, hs⟩ := okWide_array ht hct hval
  obtain ⟨c0, c1, c2, rfl⟩ := Go.Joins.array3 hs
  obtain ⟨fuel, hf⟩ := hd
  obtain ⟨xs, m, rfl, hx, _, hl, hi⟩ := DataW.trod_array ht hf
  rw [hce] at hi
  match xs, hl with
  | [y0, y1, y2], _ =>
    have h0 := hi 0 (by decide)
    have h1 := hi 1 (by decide)
    have h2 := hi 2 (by decide)
    simp [Value.cells] at h0 h1 h2
    obtain ⟨a0, e0, rfl, w0⟩ := DataW.trod_int he h0
    obtain ⟨a1, e1, rfl, w1⟩ := DataW.trod_int he h1
    obtain ⟨a2, e2, rfl, w2⟩ := DataW.trod_int he h2
    simp at e0 e1 e2
    subst e0 e1 e2
    simp at hx
    exact ⟨a0, a1, a2, rfl, hx.1, hx.2, w0, w1, w2⟩
theorem shut_w4 {H : Type} {enc : TypeId × Value → H} {P : Program} {w : World} {base : Nat} {spare : Nat → Bool} {held : Bool} {t e : TypeId} {k : IntKind} {a0 a1 a2 a3 : Int}
    (ht : P.underlying t = some (.array 4 e)) (he : P.underlying e = some (.int k)) (hct : P.cellsOf t = 4) (hce : P.cellsOf e = 1)
    (w0 : (Lit.int k a0).wf = true) (w1 : (Lit.int k a1).wf = true) (w2 : (Lit.int k a2).wf = true) (w3 : (Lit.int k a3).wf = true) :
    DataW.Trod enc P w base spare held t (.agg #[.int k a0, .int k a1, .int k a2, .int k a3]) (.agg [.lit (.int k a0), .lit (.int k a1), .lit (.int k a2), .lit (.int k a3)]) [] :=
  ⟨2, by simp [DataW.trod, Value.cells, ht, he, hct, hce, w0, w1, w2, w3, List.range_succ]⟩
theorem shut_w3 {H : Type} {enc : TypeId × Value → H} {P : Program} {w : World} {base : Nat} {spare : Nat → Bool} {held : Bool} {t e : TypeId} {k : IntKind} {a0 a1 a2 : Int}
    (ht : P.underlying t = some (.array 3 e)) (he : P.underlying e = some (.int k)) (hct : P.cellsOf t = 3) (hce : P.cellsOf e = 1)
    (w0 : (Lit.int k a0).wf = true) (w1 : (Lit.int k a1).wf = true) (w2 : (Lit.int k a2).wf = true) :
    DataW.Trod enc P w base spare held t (.agg #[.int k a0, .int k a1, .int k a2]) (.agg [.lit (.int k a0), .lit (.int k a1), .lit (.int k a2)]) [] :=
  ⟨2, by simp [DataW.trod, Value.cells, ht, he, hct, hce, w0, w1, w2, List.range_succ]⟩
/-- Two arrays of four numbers, compared. -/
theorem eq_arr4 {P : Program} (w : World) (m : Nat) {t e : TypeId} {k : IntKind} {i : TypeInfo} (hu : P.underlying t = some (.array 4 e)) (hi : P.info? e = some i) (he : P.underlying e = some (.int k)) (hce : P.cellsOf e = 1) (a b c d a' b' c' d' : Int) :
    Sem.run P (Op.equalIn (m + 2) t (.agg #[.int k a, .int k b, .int k c, .int k d]) (.agg #[.int k a', .int k b', .int k c', .int k d'])) w = .ok (a == a' && (b == b' && (c == c' && d == d'))) w := by
  have pk : P.plainKey e = true := by unfold Program.plainKey; rw [he]
  have r : ∀ (v0 v1 v2 v3 : Value), Sem.run P (part e #[v0, v1, v2, v3] 0) w = .ok v0 w ∧ Sem.run P (part e #[v0, v1, v2, v3] 1) w = .ok v1 w ∧ Sem.run P (part e #[v0, v1, v2, v3] 2) w = .ok v2 w ∧ Sem.run P (part e #[v0, v1, v2, v3] 3) w = .ok v3 w :=
    fun v0 v1 v2 v3 => ⟨run_part_plain w pk rfl, run_part_plain w pk rfl, run_part_plain w pk rfl, run_part_plain w pk rfl⟩
  have q : ∀ x y : Int, Sem.run P (Op.equalIn (m + 1) e (.int k x) (.int k y)) w = .ok (x == y) w := fun x y => run_equalIn_int w m e k k x y he
  rw [run_equalIn_array w (m + 1) _ _ hu hi, hce]
  have hr : List.range 4 = [0, 1, 2, 3] := rfl
  rw [hr]
  obtain ⟨x0, x1, x2, x3⟩ := r (.int k a) (.int k b) (.int k c) (.int k d)
  obtain ⟨y0, y1, y2, y3⟩ := r (.int k a') (.int k b') (.int k c') (.int k d')
  simp only [Op.eqItems, Sem.run_bind, Nat.mul_one, x0, y0, q, Result.andThen_ok]
  cases a == a'
  · rfl
  simp only [Bool.not_true, Bool.false_eq_true, if_false, Sem.run_bind, x1, y1, q, Result.andThen_ok, Bool.true_and]
  cases b == b'
  · rfl
  simp only [Bool.not_true, Bool.false_eq_true, if_false, Sem.run_bind, x2, y2, q, Result.andThen_ok, Bool.true_and]
  cases c == c'
  · rfl
  simp only [Bool.not_true, Bool.false_eq_true, if_false, Sem.run_bind, x3, y3, q, Result.andThen_ok, Bool.true_and]
  cases d == d' <;> rfl
end Go.Proofs.Ytdphiobmjdiefaa
