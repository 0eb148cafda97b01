/- Package code: Decode; and in a caller's words. -/
import Derived.Test.YtgmphfagflhglaaDoorCodC
namespace Go.Proofs.YtgmphfagflhglaaDoor
open Go.RowKit

theorem left_bd {v : Int} (h : isOp (v / 67108864)) : (0 ≤ cB v 0 ∧ cB v 0 ≤ v % 67108864) ∧ (0 ≤ cB v 1 ∧ cB v 1 ≤ v % 67108864 - cB v 0) ∧ (0 ≤ cB v 2 ∧ cB v 2 ≤ v % 67108864 - cB v 0 - cB v 1) ∧ (0 ≤ cB v 3 ∧ cB v 3 ≤ v % 67108864 - cB v 0 - cB v 1 - cB v 2) := by
  obtain ⟨_, _, _, _, _, _, _, _, _, hs⟩ := shaped h
  unfold cB cF
  clear h
  generalize shL (v / 67108864) 0 = l0 at *
  generalize shL (v / 67108864) 1 = l1 at *
  generalize shL (v / 67108864) 2 = l2 at *
  generalize shL (v / 67108864) 3 = l3 at *
  rcases hs with ⟨_, _, rfl, rfl, rfl, rfl⟩ | ⟨_, _, rfl, rfl, rfl, rfl⟩ | ⟨_, rfl, rfl, rfl, rfl⟩ | ⟨_, rfl, rfl, rfl, rfl⟩ | ⟨_, rfl, rfl, rfl, rfl⟩ | ⟨_, rfl, rfl, rfl, rfl⟩ | ⟨_, rfl, rfl, rfl, rfl⟩ | ⟨_, rfl, rfl, rfl, rfl⟩ <;>
    simp only [fB_d, fB_a, fB_b, fB_s, fB_u, fB_n, fR_d, fR_a, fR_b, fR_s, fR_u, fR_n] at * <;> omega
theorem InsW.set1 {w0 w : World} {B : Nat} {o d a b n : Int} (h : InsW w0 B o d a b n w) (x : Int) : InsW w0 B o x a b n (w.setCell ⟨B, 1, none⟩ (.int .i64 x)) := by
  obtain ⟨c0, c1, c2, c3, c4, f0, f1, f2, f3, f4, lt, ge, be⟩ := h
  exact ⟨by go_cell, by go_cell, by go_cell, by go_cell, by go_cell, by go_cell, by go_cell, by go_cell, by go_cell, by go_cell, by simpa using lt, ge, be.setCell (p := ⟨B, 1, none⟩) ge _⟩
theorem InsW.set2 {w0 w : World} {B : Nat} {o d a b n : Int} (h : InsW w0 B o d a b n w) (x : Int) : InsW w0 B o d x b n (w.setCell ⟨B, 2, none⟩ (.int .i64 x)) := by
  obtain ⟨c0, c1, c2, c3, c4, f0, f1, f2, f3, f4, lt, ge, be⟩ := h
  exact ⟨by go_cell, by go_cell, by go_cell, by go_cell, by go_cell, by go_cell, by go_cell, by go_cell, by go_cell, by go_cell, by simpa using lt, ge, be.setCell (p := ⟨B, 2, none⟩) ge _⟩
theorem InsW.set3 {w0 w : World} {B : Nat} {o d a b n : Int} (h : InsW w0 B o d a b n w) (x : Int) : InsW w0 B o d a x n (w.setCell ⟨B, 3, none⟩ (.int .i64 x)) := by
  obtain ⟨c0, c1, c2, c3, c4, f0, f1, f2, f3, f4, lt, ge, be⟩ := h
  exact ⟨by go_cell, by go_cell, by go_cell, by go_cell, by go_cell, by go_cell, by go_cell, by go_cell, by go_cell, by go_cell, by simpa using lt, ge, be.setCell (p := ⟨B, 3, none⟩) ge _⟩
theorem InsW.set4 {w0 w : World} {B : Nat} {o d a b n : Int} (h : InsW w0 B o d a b n w) (x : Int) : InsW w0 B o d a b x (w.setCell ⟨B, 4, none⟩ (.int .i64 x)) := by
  obtain ⟨c0, c1, c2, c3, c4, f0, f1, f2, f3, f4, lt, ge, be⟩ := h
  exact ⟨by go_cell, by go_cell, by go_cell, by go_cell, by go_cell, by go_cell, by go_cell, by go_cell, by go_cell, by go_cell, by simpa using lt, ge, be.setCell (p := ⟨B, 4, none⟩) ge _⟩
theorem InsW.other {w0 w : World} {B B' k : Nat} {o d a b n : Int} (h : InsW w0 B o d a b n w) (hne : B < B') (x : Value) : InsW w0 B o d a b n (w.setCell ⟨B', k, none⟩ x) := by
  have q : Below (B + 1) w (w.setCell ⟨B', k, none⟩ x) := (Below.refl _ _).setCell (p := ⟨B', k, none⟩) hne _
  exact ⟨(q.cell (p := ⟨B, 0, none⟩) (Nat.lt_succ_self _)).trans h.c0, (q.cell (p := ⟨B, 1, none⟩) (Nat.lt_succ_self _)).trans h.c1, (q.cell (p := ⟨B, 2, none⟩) (Nat.lt_succ_self _)).trans h.c2, (q.cell (p := ⟨B, 3, none⟩) (Nat.lt_succ_self _)).trans h.c3, (q.cell (p := ⟨B, 4, none⟩) (Nat.lt_succ_self _)).trans h.c4,
    (q.frozen (p := ⟨B, 0, none⟩) (Nat.lt_succ_self _)).trans h.f0, (q.frozen (p := ⟨B, 1, none⟩) (Nat.lt_succ_self _)).trans h.f1, (q.frozen (p := ⟨B, 2, none⟩) (Nat.lt_succ_self _)).trans h.f2, (q.frozen (p := ⟨B, 3, none⟩) (Nat.lt_succ_self _)).trans h.f3, (q.frozen (p := ⟨B, 4, none⟩) (Nat.lt_succ_self _)).trans h.f4, by simpa using h.lt, h.ge, h.below.setCell (p := ⟨B', k, none⟩) (Nat.le_trans h.ge (Nat.le_of_lt hne)) _⟩
theorem InsW.wrote1 {w0 w w' : World} {B : Nat} {o d a b n x : Int} (h : InsW w0 B o d a b n w) (hw : Wrote w ⟨B, 1, none⟩ (.int .i64 x) w') : InsW w0 B o x a b n w' := by
  obtain ⟨w2, hq, rfl⟩ := hw
  exact (h.keep hq).set1 x
theorem InsW.wrote2 {w0 w w' : World} {B : Nat} {o d a b n x : Int} (h : InsW w0 B o d a b n w) (hw : Wrote w ⟨B, 2, none⟩ (.int .i64 x) w') : InsW w0 B o d x b n w' := by
  obtain ⟨w2, hq, rfl⟩ := hw
  exact (h.keep hq).set2 x
theorem InsW.wrote3 {w0 w w' : World} {B : Nat} {o d a b n x : Int} (h : InsW w0 B o d a b n w) (hw : Wrote w ⟨B, 3, none⟩ (.int .i64 x) w') : InsW w0 B o d a x n w' := by
  obtain ⟨w2, hq, rfl⟩ := hw
  exact (h.keep hq).set3 x
theorem InsW.wrote4 {w0 w w' : World} {B : Nat} {o d a b n x : Int} (h : InsW w0 B o d a b n w) (hw : Wrote w ⟨B, 4, none⟩ (.int .i64 x) w') : InsW w0 B o d a b x w' := by
  obtain ⟨w2, hq, rfl⟩ := hw
  exact (h.keep hq).set4 x
theorem InsW.wroteO {w0 w w' : World} {B B' k : Nat} {o d a b n : Int} {x : Value} (h : InsW w0 B o d a b n w) (hne : B < B') (hw : Wrote w ⟨B', k, none⟩ x w') : InsW w0 B o d a b n w' := by
  obtain ⟨w2, hq, rfl⟩ := hw
  exact (h.keep hq).other hne x
theorem box_wrote {W w' : World} {B k : Nat} {l f x : Value} {T : TypeId} (hw : Wrote (W.alloc (.cells #[l, f] T)) ⟨B, k, none⟩ x w') (hlt : B < W.heap.size) : w'.cell? ⟨W.heap.size, 0, none⟩ = some l ∧ w'.cell? ⟨W.heap.size, 1, none⟩ = some f := by
  obtain ⟨w2, hq, rfl⟩ := hw
  have e : W.heap.size < (W.alloc (.cells #[l, f] T)).heap.size := by simp
  have q0 : w2.cell? ⟨W.heap.size, 0, none⟩ = some l := (hq.cell (p := ⟨W.heap.size, 0, none⟩) e).trans (by go_cell)
  have q1 : w2.cell? ⟨W.heap.size, 1, none⟩ = some f := (hq.cell (p := ⟨W.heap.size, 1, none⟩) e).trans (by go_cell)
  exact ⟨by go_cell, by go_cell⟩
theorem InsW.two (w : World) (o : Int) (T : TypeId) : InsW w (w.heap.size + 1) o 0 0 0 0 ((w.alloc (.cells #[.int .i64 0, .int .i64 0, .int .i64 0, .int .i64 0, .int .i64 0] T)).alloc (.cells #[.int .i64 o, .int .i64 0, .int .i64 0, .int .i64 0, .int .i64 0] T)) := by
  have h := InsW.new w (w.alloc (.cells #[.int .i64 0, .int .i64 0, .int .i64 0, .int .i64 0, .int .i64 0] T)) o 0 0 0 0 T ((Below.refl _ _).alloc (Nat.le_refl _) _) (by simp)
  rw [show (w.alloc (.cells #[.int .i64 0, .int .i64 0, .int .i64 0, .int .i64 0, .int .i64 0] T)).heap.size = w.heap.size + 1 by simp] at h
  exact h
theorem InsW.one (w : World) (T : TypeId) (x : Obj) : InsW w w.heap.size 0 0 0 0 0 ((w.alloc (.cells #[.int .i64 0, .int .i64 0, .int .i64 0, .int .i64 0, .int .i64 0] T)).alloc x) := (InsW.new w w 0 0 0 0 0 T (Below.refl _ _) (Nat.le_refl _)).alloc x
theorem InsW.end5 {w0 w : World} {B : Nat} {o d a b n : Int} (h : InsW w0 B o d a b n w) (v0 v1 v2 v3 v4 : Value) : Below w0.heap.size w0 (((((w.setCell ⟨B, 0, none⟩ v0).setCell ⟨B, 1, none⟩ v1).setCell ⟨B, 2, none⟩ v2).setCell ⟨B, 3, none⟩ v3).setCell ⟨B, 4, none⟩ v4) :=
  ((((h.below.setCell (p := ⟨B, 0, none⟩) h.ge _).setCell (p := ⟨B, 1, none⟩) h.ge _).setCell (p := ⟨B, 2, none⟩) h.ge _).setCell (p := ⟨B, 3, none⟩) h.ge _).setCell (p := ⟨B, 4, none⟩) h.ge _

/-- What Decode answers where the operation is one. -/
def decV (w0 : World) (v : Int) (e : Ending) (w' : World) : Prop :=
  e = .returned (.tuple #[.agg #[.int .i64 (cO v), .int .i64 (cG v 0), .int .i64 (cG v 1), .int .i64 (cG v 2), .int .i64 (cG v 3)], .int .i64 (cErr v)]) ∧ Below w0.heap.size w0 w'
theorem eq_ins (a b c d e a' b' c' d' e' : Int) (w : World) : Sem.run Tryd.prog (Op.equalIn 10000 25 (.agg #[.int .i64 a, .int .i64 b, .int .i64 c, .int .i64 d, .int .i64 e]) (.agg #[.int .i64 a', .int .i64 b', .int .i64 c', .int .i64 d', .int .i64 e'])) w =
    .ok (a == a' && (b == b' && (c == c' && (d == d' && e == e')))) w := by
  rw [run_equalIn_struct w 9999 25 _ _ (by kernel_rfl) (by kernel_rfl)]
  have hu := Tryd.underlying25
  simp only [Program.fieldsOf, hu]
  go_simp
  repeat' split
  all_goals simp_all
theorem awake_facts : cChk 31 1 2 0 (-1) = 0 ∧ cEnc 31 1 2 0 (-1) = 2082668543 ∧ cO 2082668543 = 31 ∧ cG 2082668543 0 = 1 ∧ cG 2082668543 1 = 2 ∧ cG 2082668543 2 = 0 ∧ cG 2082668543 3 = -1 ∧ cErr 2082668543 = 0 ∧ cO 0 = 0 ∧ cG 0 0 = 0 ∧ cG 0 1 = 0 ∧ cG 0 2 = 0 ∧ cG 0 3 = 0 ∧ cErr 0 = 2 := by decide +kernel
end Go.Proofs.YtgmphfagflhglaaDoor
