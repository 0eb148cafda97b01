/- What the document's own plain answers for quaternions (package astrolaberef10) give. Conditions: the numbers are of the kind int32. -/
import Derived.Test.YtdphiobmjdiefaaGreatQuatD
import Derived.Test.YtdphiobmjdiefaaGreatRootR
import Derived.Deep.RegionHeld3
namespace Go.Proofs.YtdphiobmjdiefaaGreat
open Go.RowKit

/-- Four words. -/
structure Wd4 (p0 p1 p2 p3 : Int) : Prop where
  h0 : -2147483648 ≤ p0 ∧ p0 ≤ 2147483647
  h1 : -2147483648 ≤ p1 ∧ p1 ≤ 2147483647
  h2 : -2147483648 ≤ p2 ∧ p2 ≤ 2147483647
  h3 : -2147483648 ≤ p3 ∧ p3 ≤ 2147483647
theorem word_0 : (-2147483648 : Int) ≤ 0 ∧ (0 : Int) ≤ 2147483647 := by decide
theorem refM_is (a b : Int) (w : World) (a1 : -2147483648 ≤ a) (a2 : a ≤ 2147483647) (b1 : -2147483648 ≤ b) (b2 : b ≤ 2147483647) :
    Calls Tryz.prog 18 #[.int .i32 a, .int .i32 b] w fun e w' => e = .returned (.int .i32 (wMulq a b)) ∧ w = w' := by
  go_enter Tryz.func18, Tryz.ntmps18
  go_wp2_with (go_at_call 23; refine (refMulq_is _ _ _ a1 a2 b1 b2).mono ?_; rintro e w' ⟨rfl, rfl⟩)
  go_ret
  exact ⟨rfl, rfl⟩
theorem refSub_b (a b : Int) (w : World) (ha : -2147483648 ≤ a ∧ a ≤ 2147483647) (hb : -2147483648 ≤ b ∧ b ≤ 2147483647) :
    Calls Tryz.prog 17 #[.int .i32 a, .int .i32 b] w fun e w' => e = .returned (.int .i32 (wCut (a - b))) ∧ w = w' := refSub_is a b w ha.1 ha.2 hb.1 hb.2
theorem refAdd_b (a b : Int) (w : World) (ha : -2147483648 ≤ a ∧ a ≤ 2147483647) (hb : -2147483648 ≤ b ∧ b ≤ 2147483647) :
    Calls Tryz.prog 19 #[.int .i32 a, .int .i32 b] w fun e w' => e = .returned (.int .i32 (wCut (a + b))) ∧ w = w' := refAdd_is a b w ha.1 ha.2 hb.1 hb.2

set_option maxHeartbeats 4000000 in
theorem refMul_is (p0 p1 p2 p3 q0 q1 q2 q3 : Int) (w : World) (hp : Wd4 p0 p1 p2 p3) (hq : Wd4 q0 q1 q2 q3) :
    Calls Tryz.prog 5 #[.agg #[.int .i32 p0, .int .i32 p1, .int .i32 p2, .int .i32 p3], .agg #[.int .i32 q0, .int .i32 q1, .int .i32 q2, .int .i32 q3]] w
      fun e w' => e = .returned (.agg #[.int .i32 (wQ0 p0 p1 p2 p3 q0 q1 q2 q3), .int .i32 (wQ1 p0 p1 p2 p3 q0 q1 q2 q3), .int .i32 (wQ2 p0 p1 p2 p3 q0 q1 q2 q3), .int .i32 (wQ3 p0 p1 p2 p3 q0 q1 q2 q3)]) ∧ Below w.heap.size w w' := by
  obtain ⟨⟨a1, a2⟩, ⟨a3, a4⟩, ⟨a5, a6⟩, ⟨a7, a8⟩⟩ := hp
  obtain ⟨⟨b1, b2⟩, ⟨b3, b4⟩, ⟨b5, b6⟩, ⟨b7, b8⟩⟩ := hq
  go_enter Tryz.func5, Tryz.ntmps5
  go_wp2
  go_region_held3 (fun w' => w'.cell? ⟨w.heap.size, 0, none⟩ = some (.int .i32 p0) ∧ w'.cell? ⟨w.heap.size, 1, none⟩ = some (.int .i32 p1) ∧ w'.cell? ⟨w.heap.size, 2, none⟩ = some (.int .i32 p2) ∧ w'.cell? ⟨w.heap.size, 3, none⟩ = some (.int .i32 p3) ∧ w'.cell? ⟨w.heap.size + 1, 0, none⟩ = some (.int .i32 q0) ∧ w'.cell? ⟨w.heap.size + 1, 1, none⟩ = some (.int .i32 q1) ∧ w'.cell? ⟨w.heap.size + 1, 2, none⟩ = some (.int .i32 q2) ∧ w'.cell? ⟨w.heap.size + 1, 3, none⟩ = some (.int .i32 q3))
    (first | with_reducible assumption | exact ⟨by go_cell, by go_cell, by go_cell, by go_cell, by go_cell, by go_cell, by go_cell, by go_cell⟩)
    (first
      | (go_at_call 18; with_reducible refine (refM_is _ _ _ (by assumption) (by assumption) (by assumption) (by assumption)).mono ?_; rintro e w1 ⟨rfl, rfl⟩)
      | (go_at_call 17; with_reducible refine (refSub_b _ _ _ (by first | exact wMulq_bd _ _ | exact wCut_bd _ | exact word_0) (by first | exact wMulq_bd _ _ | exact wCut_bd _ | exact word_0)).mono ?_; rintro e w1 ⟨rfl, rfl⟩)
      | (go_at_call 19; with_reducible refine (refAdd_b _ _ _ (by first | exact wMulq_bd _ _ | exact wCut_bd _ | exact word_0) (by first | exact wMulq_bd _ _ | exact wCut_bd _ | exact word_0)).mono ?_; rintro e w1 ⟨rfl, rfl⟩))
  go_wp2
  go_region_held3 (fun w' => w'.cell? ⟨w.heap.size, 0, none⟩ = some (.int .i32 p0) ∧ w'.cell? ⟨w.heap.size, 1, none⟩ = some (.int .i32 p1) ∧ w'.cell? ⟨w.heap.size, 2, none⟩ = some (.int .i32 p2) ∧ w'.cell? ⟨w.heap.size, 3, none⟩ = some (.int .i32 p3) ∧ w'.cell? ⟨w.heap.size + 1, 0, none⟩ = some (.int .i32 q0) ∧ w'.cell? ⟨w.heap.size + 1, 1, none⟩ = some (.int .i32 q1) ∧ w'.cell? ⟨w.heap.size + 1, 2, none⟩ = some (.int .i32 q2) ∧ w'.cell? ⟨w.heap.size + 1, 3, none⟩ = some (.int .i32 q3))
    (first | with_reducible assumption | exact ⟨by go_cell, by go_cell, by go_cell, by go_cell, by go_cell, by go_cell, by go_cell, by go_cell⟩)
    (first
      | (go_at_call 18; with_reducible refine (refM_is _ _ _ (by assumption) (by assumption) (by assumption) (by assumption)).mono ?_; rintro e w1 ⟨rfl, rfl⟩)
      | (go_at_call 17; with_reducible refine (refSub_b _ _ _ (by first | exact wMulq_bd _ _ | exact wCut_bd _ | exact word_0) (by first | exact wMulq_bd _ _ | exact wCut_bd _ | exact word_0)).mono ?_; rintro e w1 ⟨rfl, rfl⟩)
      | (go_at_call 19; with_reducible refine (refAdd_b _ _ _ (by first | exact wMulq_bd _ _ | exact wCut_bd _ | exact word_0) (by first | exact wMulq_bd _ _ | exact wCut_bd _ | exact word_0)).mono ?_; rintro e w1 ⟨rfl, rfl⟩))
  go_wp2
  go_region_held3 (fun w' => w'.cell? ⟨w.heap.size, 0, none⟩ = some (.int .i32 p0) ∧ w'.cell? ⟨w.heap.size, 1, none⟩ = some (.int .i32 p1) ∧ w'.cell? ⟨w.heap.size, 2, none⟩ = some (.int .i32 p2) ∧ w'.cell? ⟨w.heap.size, 3, none⟩ = some (.int .i32 p3) ∧ w'.cell? ⟨w.heap.size + 1, 0, none⟩ = some (.int .i32 q0) ∧ w'.cell? ⟨w.heap.size + 1, 1, none⟩ = some (.int .i32 q1) ∧ w'.cell? ⟨w.heap.size + 1, 2, none⟩ = some (.int .i32 q2) ∧ w'.cell? ⟨w.heap.size + 1, 3, none⟩ = some (.int .i32 q3))
    (first | with_reducible assumption | exact ⟨by go_cell, by go_cell, by go_cell, by go_cell, by go_cell, by go_cell, by go_cell, by go_cell⟩)
    (first
      | (go_at_call 18; with_reducible refine (refM_is _ _ _ (by assumption) (by assumption) (by assumption) (by assumption)).mono ?_; rintro e w1 ⟨rfl, rfl⟩)
      | (go_at_call 17; with_reducible refine (refSub_b _ _ _ (by first | exact wMulq_bd _ _ | exact wCut_bd _ | exact word_0) (by first | exact wMulq_bd _ _ | exact wCut_bd _ | exact word_0)).mono ?_; rintro e w1 ⟨rfl, rfl⟩)
      | (go_at_call 19; with_reducible refine (refAdd_b _ _ _ (by first | exact wMulq_bd _ _ | exact wCut_bd _ | exact word_0) (by first | exact wMulq_bd _ _ | exact wCut_bd _ | exact word_0)).mono ?_; rintro e w1 ⟨rfl, rfl⟩))
  go_wp2
  go_region_held3 (fun w' => w'.cell? ⟨w.heap.size, 0, none⟩ = some (.int .i32 p0) ∧ w'.cell? ⟨w.heap.size, 1, none⟩ = some (.int .i32 p1) ∧ w'.cell? ⟨w.heap.size, 2, none⟩ = some (.int .i32 p2) ∧ w'.cell? ⟨w.heap.size, 3, none⟩ = some (.int .i32 p3) ∧ w'.cell? ⟨w.heap.size + 1, 0, none⟩ = some (.int .i32 q0) ∧ w'.cell? ⟨w.heap.size + 1, 1, none⟩ = some (.int .i32 q1) ∧ w'.cell? ⟨w.heap.size + 1, 2, none⟩ = some (.int .i32 q2) ∧ w'.cell? ⟨w.heap.size + 1, 3, none⟩ = some (.int .i32 q3))
    (first | with_reducible assumption | exact ⟨by go_cell, by go_cell, by go_cell, by go_cell, by go_cell, by go_cell, by go_cell, by go_cell⟩)
    (first
      | (go_at_call 18; with_reducible refine (refM_is _ _ _ (by assumption) (by assumption) (by assumption) (by assumption)).mono ?_; rintro e w1 ⟨rfl, rfl⟩)
      | (go_at_call 17; with_reducible refine (refSub_b _ _ _ (by first | exact wMulq_bd _ _ | exact wCut_bd _ | exact word_0) (by first | exact wMulq_bd _ _ | exact wCut_bd _ | exact word_0)).mono ?_; rintro e w1 ⟨rfl, rfl⟩)
      | (go_at_call 19; with_reducible refine (refAdd_b _ _ _ (by first | exact wMulq_bd _ _ | exact wCut_bd _ | exact word_0) (by first | exact wMulq_bd _ _ | exact wCut_bd _ | exact word_0)).mono ?_; rintro e w1 ⟨rfl, rfl⟩))
  go_wp2
  go_returns
  exact ⟨rfl, by go_grown⟩

set_option maxHeartbeats 4000000 in
theorem refRate_is (q0 q1 q2 q3 w0 w1 w2 : Int) (w : World) (hq : Wd4 q0 q1 q2 q3) (hw0 : -2147483648 ≤ w0 ∧ w0 ≤ 2147483647) (hw1 : -2147483648 ≤ w1 ∧ w1 ≤ 2147483647) (hw2 : -2147483648 ≤ w2 ∧ w2 ≤ 2147483647) :
    Calls Tryz.prog 13 #[.agg #[.int .i32 q0, .int .i32 q1, .int .i32 q2, .int .i32 q3], .agg #[.int .i32 w0, .int .i32 w1, .int .i32 w2]] w
      fun e w' => e = .returned (.agg #[.int .i32 (wR0 q0 q1 q2 q3 w0 w1 w2), .int .i32 (wR1 q0 q1 q2 q3 w0 w1 w2), .int .i32 (wR2 q0 q1 q2 q3 w0 w1 w2), .int .i32 (wR3 q0 q1 q2 q3 w0 w1 w2)]) ∧ Below w.heap.size w w' := by
  obtain ⟨⟨a1, a2⟩, ⟨a3, a4⟩, ⟨a5, a6⟩, ⟨a7, a8⟩⟩ := hq
  obtain ⟨b1, b2⟩ := hw0
  obtain ⟨b3, b4⟩ := hw1
  obtain ⟨b5, b6⟩ := hw2
  go_enter Tryz.func13, Tryz.ntmps13
  go_wp2
  go_region_held3 (fun w' => w'.cell? ⟨w.heap.size, 0, none⟩ = some (.int .i32 q0) ∧ w'.cell? ⟨w.heap.size, 1, none⟩ = some (.int .i32 q1) ∧ w'.cell? ⟨w.heap.size, 2, none⟩ = some (.int .i32 q2) ∧ w'.cell? ⟨w.heap.size, 3, none⟩ = some (.int .i32 q3) ∧ w'.cell? ⟨w.heap.size + 1, 0, none⟩ = some (.int .i32 w0) ∧ w'.cell? ⟨w.heap.size + 1, 1, none⟩ = some (.int .i32 w1) ∧ w'.cell? ⟨w.heap.size + 1, 2, none⟩ = some (.int .i32 w2))
    (first | with_reducible assumption | exact ⟨by go_cell, by go_cell, by go_cell, by go_cell, by go_cell, by go_cell, by go_cell⟩)
    (first
      | (go_at_call 18; with_reducible refine (refM_is _ _ _ (by assumption) (by assumption) (by assumption) (by assumption)).mono ?_; rintro e w1 ⟨rfl, rfl⟩)
      | (go_at_call 17; with_reducible refine (refSub_b _ _ _ (by first | exact wMulq_bd _ _ | exact wCut_bd _ | exact word_0) (by first | exact wMulq_bd _ _ | exact wCut_bd _ | exact word_0)).mono ?_; rintro e w1 ⟨rfl, rfl⟩)
      | (go_at_call 19; with_reducible refine (refAdd_b _ _ _ (by first | exact wMulq_bd _ _ | exact wCut_bd _ | exact word_0) (by first | exact wMulq_bd _ _ | exact wCut_bd _ | exact word_0)).mono ?_; rintro e w1 ⟨rfl, rfl⟩))
  go_wp2
  go_region_held3 (fun w' => w'.cell? ⟨w.heap.size, 0, none⟩ = some (.int .i32 q0) ∧ w'.cell? ⟨w.heap.size, 1, none⟩ = some (.int .i32 q1) ∧ w'.cell? ⟨w.heap.size, 2, none⟩ = some (.int .i32 q2) ∧ w'.cell? ⟨w.heap.size, 3, none⟩ = some (.int .i32 q3) ∧ w'.cell? ⟨w.heap.size + 1, 0, none⟩ = some (.int .i32 w0) ∧ w'.cell? ⟨w.heap.size + 1, 1, none⟩ = some (.int .i32 w1) ∧ w'.cell? ⟨w.heap.size + 1, 2, none⟩ = some (.int .i32 w2))
    (first | with_reducible assumption | exact ⟨by go_cell, by go_cell, by go_cell, by go_cell, by go_cell, by go_cell, by go_cell⟩)
    (first
      | (go_at_call 18; with_reducible refine (refM_is _ _ _ (by assumption) (by assumption) (by assumption) (by assumption)).mono ?_; rintro e w1 ⟨rfl, rfl⟩)
      | (go_at_call 17; with_reducible refine (refSub_b _ _ _ (by first | exact wMulq_bd _ _ | exact wCut_bd _ | exact word_0) (by first | exact wMulq_bd _ _ | exact wCut_bd _ | exact word_0)).mono ?_; rintro e w1 ⟨rfl, rfl⟩)
      | (go_at_call 19; with_reducible refine (refAdd_b _ _ _ (by first | exact wMulq_bd _ _ | exact wCut_bd _ | exact word_0) (by first | exact wMulq_bd _ _ | exact wCut_bd _ | exact word_0)).mono ?_; rintro e w1 ⟨rfl, rfl⟩))
  go_wp2
  go_region_held3 (fun w' => w'.cell? ⟨w.heap.size, 0, none⟩ = some (.int .i32 q0) ∧ w'.cell? ⟨w.heap.size, 1, none⟩ = some (.int .i32 q1) ∧ w'.cell? ⟨w.heap.size, 2, none⟩ = some (.int .i32 q2) ∧ w'.cell? ⟨w.heap.size, 3, none⟩ = some (.int .i32 q3) ∧ w'.cell? ⟨w.heap.size + 1, 0, none⟩ = some (.int .i32 w0) ∧ w'.cell? ⟨w.heap.size + 1, 1, none⟩ = some (.int .i32 w1) ∧ w'.cell? ⟨w.heap.size + 1, 2, none⟩ = some (.int .i32 w2))
    (first | with_reducible assumption | exact ⟨by go_cell, by go_cell, by go_cell, by go_cell, by go_cell, by go_cell, by go_cell⟩)
    (first
      | (go_at_call 18; with_reducible refine (refM_is _ _ _ (by assumption) (by assumption) (by assumption) (by assumption)).mono ?_; rintro e w1 ⟨rfl, rfl⟩)
      | (go_at_call 17; with_reducible refine (refSub_b _ _ _ (by first | exact wMulq_bd _ _ | exact wCut_bd _ | exact word_0) (by first | exact wMulq_bd _ _ | exact wCut_bd _ | exact word_0)).mono ?_; rintro e w1 ⟨rfl, rfl⟩)
      | (go_at_call 19; with_reducible refine (refAdd_b _ _ _ (by first | exact wMulq_bd _ _ | exact wCut_bd _ | exact word_0) (by first | exact wMulq_bd _ _ | exact wCut_bd _ | exact word_0)).mono ?_; rintro e w1 ⟨rfl, rfl⟩))
  go_wp2
  go_region_held3 (fun w' => w'.cell? ⟨w.heap.size, 0, none⟩ = some (.int .i32 q0) ∧ w'.cell? ⟨w.heap.size, 1, none⟩ = some (.int .i32 q1) ∧ w'.cell? ⟨w.heap.size, 2, none⟩ = some (.int .i32 q2) ∧ w'.cell? ⟨w.heap.size, 3, none⟩ = some (.int .i32 q3) ∧ w'.cell? ⟨w.heap.size + 1, 0, none⟩ = some (.int .i32 w0) ∧ w'.cell? ⟨w.heap.size + 1, 1, none⟩ = some (.int .i32 w1) ∧ w'.cell? ⟨w.heap.size + 1, 2, none⟩ = some (.int .i32 w2))
    (first | with_reducible assumption | exact ⟨by go_cell, by go_cell, by go_cell, by go_cell, by go_cell, by go_cell, by go_cell⟩)
    (first
      | (go_at_call 18; with_reducible refine (refM_is _ _ _ (by assumption) (by assumption) (by assumption) (by assumption)).mono ?_; rintro e w1 ⟨rfl, rfl⟩)
      | (go_at_call 17; with_reducible refine (refSub_b _ _ _ (by first | exact wMulq_bd _ _ | exact wCut_bd _ | exact word_0) (by first | exact wMulq_bd _ _ | exact wCut_bd _ | exact word_0)).mono ?_; rintro e w1 ⟨rfl, rfl⟩)
      | (go_at_call 19; with_reducible refine (refAdd_b _ _ _ (by first | exact wMulq_bd _ _ | exact wCut_bd _ | exact word_0) (by first | exact wMulq_bd _ _ | exact wCut_bd _ | exact word_0)).mono ?_; rintro e w1 ⟨rfl, rfl⟩))
  go_wp2
  go_returns
  exact ⟨by unfold wR0; rw [Int.zero_sub]; rfl, by go_grown⟩

theorem refConj_is (p0 p1 p2 p3 : Int) (w : World) (hp : Wd4 p0 p1 p2 p3) :
    Calls Tryz.prog 7 #[.agg #[.int .i32 p0, .int .i32 p1, .int .i32 p2, .int .i32 p3]] w
      fun e w' => e = .returned (.agg #[.int .i32 p0, .int .i32 (wCut (-p1)), .int .i32 (wCut (-p2)), .int .i32 (wCut (-p3))]) ∧ Below w.heap.size w w' := by
  obtain ⟨⟨a1, a2⟩, ⟨a3, a4⟩, ⟨a5, a6⟩, ⟨a7, a8⟩⟩ := hp
  go_enter Tryz.func7, Tryz.ntmps7
  go_wp2
  go_region_held3 (fun w' => w'.cell? ⟨w.heap.size, 0, none⟩ = some (.int .i32 p0) ∧ w'.cell? ⟨w.heap.size, 1, none⟩ = some (.int .i32 p1) ∧ w'.cell? ⟨w.heap.size, 2, none⟩ = some (.int .i32 p2) ∧ w'.cell? ⟨w.heap.size, 3, none⟩ = some (.int .i32 p3))
    (first | with_reducible assumption | exact ⟨by go_cell, by go_cell, by go_cell, by go_cell⟩)
    (first
      | (go_at_call 21; with_reducible refine (refNeg_is _ _ (by assumption) (by assumption)).mono ?_; rintro e w1 ⟨rfl, rfl⟩))
  go_wp2
  go_returns
  exact ⟨rfl, by go_grown⟩

end Go.Proofs.YtdphiobmjdiefaaGreat
