/- Layer 9's steps upon package mill's mill of words: vectors. Conditions: the numbers are of the kinds of the parameters. -/
import Derived.Test.YtmlofggohkcjnaaMillV
namespace Go.Proofs.Ytmlofggohkcjnaa
open Go.RowKit

/-- A call in a region that reads the receiver; and what the call itself left alone. -/
theorem keepQ {P : Program} {f : FuncId} {args : Array Value} {w w0 : World} {B : Nat} {x v : Value}
    (hc : Calls P f args w fun e w' => e = .returned v ∧ Below w.heap.size w w') (hS : w.cell? ⟨B, 0, none⟩ = some x ∧ Below B w0 w ∧ B + 1 ≤ w.heap.size) :
    Calls P f args w fun e w' => e = .returned v ∧ (w'.cell? ⟨B, 0, none⟩ = some x ∧ Below B w0 w' ∧ B + 1 ≤ w'.heap.size) ∧ Below w.heap.size w w' :=
  hc.mono fun _ _ ⟨he, h⟩ => ⟨he, ⟨(h.cell (p := ⟨B, 0, none⟩) hS.2.2).trans hS.1, hS.2.1.trans (h.mono (Nat.le_of_lt hS.2.2)), Nat.le_trans hS.2.2 h.size⟩, h⟩
/-- The receiver's cell behind a store of three cells into a newer block. -/
theorem keepS3 {w w0 : World} {B g : Nat} {x : Value} (hS : w.cell? ⟨B, 0, none⟩ = some x ∧ Below B w0 w ∧ B + 1 ≤ w.heap.size) (hg : B + 1 ≤ g) (u0 u1 u2 : Value) :
    (((w.setCell ⟨g, 0, none⟩ u0).setCell ⟨g, 1, none⟩ u1).setCell ⟨g, 2, none⟩ u2).cell? ⟨B, 0, none⟩ = some x ∧ Below B w0 (((w.setCell ⟨g, 0, none⟩ u0).setCell ⟨g, 1, none⟩ u1).setCell ⟨g, 2, none⟩ u2)
      ∧ B + 1 ≤ (((w.setCell ⟨g, 0, none⟩ u0).setCell ⟨g, 1, none⟩ u1).setCell ⟨g, 2, none⟩ u2).heap.size :=
  ⟨(set3_other _ _ _ _ _ _ _ (by omega)).trans hS.1, set3_below hS.2.1 (by omega) _ _ _, by simpa using hS.2.2⟩
/-- The receiver's cell where a block is made. -/
theorem keepSa {w w0 : World} {B : Nat} {x : Value} (hS : w.cell? ⟨B, 0, none⟩ = some x ∧ Below B w0 w ∧ B + 1 ≤ w.heap.size) (o : Obj) :
    (w.alloc o).cell? ⟨B, 0, none⟩ = some x ∧ Below B w0 (w.alloc o) ∧ B + 1 ≤ (w.alloc o).heap.size :=
  ⟨(((Below.refl w.heap.size w).alloc (Nat.le_refl _) o).cell (p := ⟨B, 0, none⟩) hS.2.2).trans hS.1, hS.2.1.alloc (Nat.le_of_lt hS.2.2) _, by simp; have := hS.2.2; omega⟩
theorem keepSd {w w0 : World} {B : Nat} {x : Value} (hS : w.cell? ⟨B, 0, none⟩ = some x ∧ Below B w0 w ∧ B + 1 ≤ w.heap.size) :
    w.drew.cell? ⟨B, 0, none⟩ = some x ∧ Below B w0 w.drew ∧ B + 1 ≤ w.drew.heap.size := ⟨hS.1, hS.2.1.drew, hS.2.2⟩
theorem leads_y : Leads 1 (fun s => s.2.1) := Or.inl ⟨rfl, rfl⟩
theorem leads_a : Leads 2 (fun s => s.2.2) := Or.inr ⟨rfl, rfl⟩

set_option maxHeartbeats 2000000 in
theorem mVector_v (y x u v a : Int) (w : World) (y1 : -2147483648 ≤ y) (y2 : y ≤ 2147483647) (x1 : -2147483648 ≤ x) (x2 : x ≤ 2147483647) (hr : vN y x 28 = (u, v, a)) :
    Calls Try.prog 18 #[.agg #[.iface 39 (.agg #[])], .int .i32 y, .int .i32 x] w fun e w' => e = .returned (.tuple #[.int .i32 u, .int .i32 v, .int .i32 a]) ∧ Below w.heap.size w w' := by
  obtain ⟨W, hW⟩ : ∃ W, w.alloc (.cells #[.iface 39 (.agg #[])] 36) = W := ⟨_, rfl⟩
  have hS : W.cell? ⟨w.heap.size, 0, none⟩ = some (.iface 39 (.agg #[])) ∧ Below w.heap.size w W ∧ w.heap.size + 1 ≤ W.heap.size := by
    subst hW; exact ⟨by go_cell, (Below.refl _ _).alloc (Nat.le_refl _) _, by simp⟩
  have HW := Lib.hid hW
  have HR := Lib.hid ((vN_mill y x 28).trans hr)
  have HSW := Lib.hid hS
  have hS := keepSd hS
  clear hW hr
  go_enter Try.func18, Try.ntmps18
  go_wp2
  rw [HW.out]
  go_region_held3 (fun w' => w'.cell? ⟨w.heap.size, 0, none⟩ = some (.iface 39 (.agg #[])) ∧ Below w.heap.size w w' ∧ w.heap.size + 1 ≤ w'.heap.size)
    (first
      | with_reducible assumption
      | with_reducible exact keepSa hS _
      | with_reducible exact keepSd (keepSa HSW.out _)
      | with_reducible exact keepS3 hS HSW.out.2.2 _ _ _
      | with_reducible exact keepS3 hS hg1 _ _ _)
    (first
      | (go_at_call 46; with_reducible refine (keepQ (words_word _ _) (by assumption)).mono ?_; rintro e w1 ⟨rfl, hS, hq⟩; have hg1 := hS.2.2; (first | (have h3 := new3_ald hq) | skip))
      | (go_at_call 23; with_reducible refine (keepQ (turned_v 1 1 1 2 x y 0 u v a rfl (fun s => s.2.1) _ leads_y (Or.inl ⟨rfl, rfl⟩) x1 x2 y1 y2 (by decide) (by decide) HR.out) (by assumption)).mono ?_; rintro e w2 ⟨rfl, hS, hq⟩
         (first | (have h3 := keep3 h3 hq; obtain ⟨⟨c0, c1, c2, f0, f1, f2⟩, hl⟩ := h3) | (have h3 := new3_al hq; obtain ⟨⟨c0, c1, c2, f0, f1, f2⟩, hl⟩ := h3) | skip)))
  all_goals (first
    | (have kw : ∃ W3, ((w2.setCell ⟨W.heap.size, 0, none⟩ (.int .i32 u)).setCell ⟨W.heap.size, 1, none⟩ (.int .i32 v)).setCell ⟨W.heap.size, 2, none⟩ (.int .i32 a) = W3 := ⟨_, rfl⟩
       obtain ⟨W3, hW3⟩ := kw
       rw [hW3]
       have hT3 : Three W3 W.heap.size (.int .i32 u) (.int .i32 v) (.int .i32 a) := by rw [← hW3]; exact Three.set ⟨c0, c1, c2, f0, f1, f2⟩ _ _ _
       have hB3 : Below w.heap.size w W3 := by rw [← hW3]; exact set3_below hS.2.1 (Nat.le_of_lt HSW.out.2.2) _ _ _
       generalize W.heap.size = gd at hT3 ⊢)
    | (have kw : ∃ W3, ((w2.setCell ⟨w1.heap.size, 0, none⟩ (.int .i32 u)).setCell ⟨w1.heap.size, 1, none⟩ (.int .i32 v)).setCell ⟨w1.heap.size, 2, none⟩ (.int .i32 a) = W3 := ⟨_, rfl⟩
       obtain ⟨W3, hW3⟩ := kw
       rw [hW3]
       have hT3 : Three W3 w1.heap.size (.int .i32 u) (.int .i32 v) (.int .i32 a) := by rw [← hW3]; exact Three.set ⟨c0, c1, c2, f0, f1, f2⟩ _ _ _
       have hB3 : Below w.heap.size w W3 := by rw [← hW3]; exact set3_below hS.2.1 (Nat.le_of_lt hg1) _ _ _
       generalize w1.heap.size = gd at hT3 ⊢)
    | (have kw : ∃ W3, w2.alloc (.cells #[.int .i32 u, .int .i32 v, .int .i32 a] 48) = W3 := ⟨_, rfl⟩
       obtain ⟨W3, hW3⟩ := kw
       rw [hW3]
       have hT3 : Three W3 w2.heap.size (.int .i32 u) (.int .i32 v) (.int .i32 a) := by rw [← hW3]; exact three_new _ _ _ _ _
       have hB3 : Below w.heap.size w W3 := by rw [← hW3]; exact hS.2.1.alloc (Nat.le_of_lt hS.2.2) _
       generalize w2.heap.size = gd at hT3 ⊢))
  all_goals (
    obtain ⟨p0, p1, p2, -, -, -⟩ := hT3
    go_wp2
    go_quiet (fail)
    go_wp2
    go_returns
    exact ⟨rfl, by first | exact hB3 | exact hB3.drew | exact below_drewN hB3 _⟩)
end Go.Proofs.Ytmlofggohkcjnaa
