/- The document's words of instructions. -/
import Derived.Test.YtekhgidbnpfmnaaGreatDoorCodC
import Derived.Test.YtekhgidbnpfmnaaGreatDoorOpsR
import Derived.Test.YtekhgidbnpfmnaaGreatDoorCodE
namespace Go.Proofs.YtekhgidbnpfmnaaGreatDoor
open Go.RowKit

def Letter (l : Int) : Prop := l = 100 ∨ l = 97 ∨ l = 98 ∨ l = 115 ∨ l = 117 ∨ l = 45
theorem shaped_letters {o l0 l1 l2 l3 : Int} (h : Shaped o l0 l1 l2 l3) : Letter l0 ∧ Letter l1 ∧ Letter l2 ∧ Letter l3 := by
  unfold Shaped at h
  unfold Letter
  omega
theorem refField_is (l x z : Int) (w : World) (hl : Letter l) (hz : fErr l x = z) :
    Calls Tryz.prog 87 #[.int .u8 l, .int .i64 x] w fun e w' => e = .returned (.int .i64 z) ∧ w = w' := by
  rcases hl with rfl | rfl | rfl | rfl | rfl | rfl
  · rw [fE_r 100 x (by simp)] at hz
    have HZ := Lib.hid hz
    clear hz
    go_enter Tryz.func87, Tryz.ntmps87
    go_wp2
    all_goals (go_ret; exact ⟨ret_int (by rw [← HZ.out]; (first | rw [if_pos (by omega)] | rw [if_neg (by omega)])), rfl⟩)
  · rw [fE_r 97 x (by simp)] at hz
    have HZ := Lib.hid hz
    clear hz
    go_enter Tryz.func87, Tryz.ntmps87
    go_wp2
    all_goals (go_ret; exact ⟨ret_int (by rw [← HZ.out]; (first | rw [if_pos (by omega)] | rw [if_neg (by omega)])), rfl⟩)
  · rw [fE_r 98 x (by simp)] at hz
    have HZ := Lib.hid hz
    clear hz
    go_enter Tryz.func87, Tryz.ntmps87
    go_wp2
    all_goals (go_ret; exact ⟨ret_int (by rw [← HZ.out]; (first | rw [if_pos (by omega)] | rw [if_neg (by omega)])), rfl⟩)
  · rw [fE_s x] at hz
    have HZ := Lib.hid hz
    clear hz
    go_enter Tryz.func87, Tryz.ntmps87
    go_wp2
    all_goals (go_ret; exact ⟨ret_int (by rw [← HZ.out]; (first | rw [if_pos (by omega)] | rw [if_neg (by omega)])), rfl⟩)
  · rw [fE_u x] at hz
    have HZ := Lib.hid hz
    clear hz
    go_enter Tryz.func87, Tryz.ntmps87
    go_wp2
    all_goals (go_ret; exact ⟨ret_int (by rw [← HZ.out]; (first | rw [if_pos (by omega)] | rw [if_neg (by omega)])), rfl⟩)
  · rw [fE_n x] at hz
    by_cases h : x = 0
    · subst h hz
      go_enter Tryz.func87, Tryz.ntmps87
      go_wp2
      go_ret
      exact ⟨rfl, rfl⟩
    · rw [if_neg h] at hz
      subst hz
      have h' : (x != 0) = true := by simpa using h
      clear h
      go_enter Tryz.func87, Tryz.ntmps87
      go_wp2
      go_ret
      exact ⟨rfl, rfl⟩

set_option maxHeartbeats 4000000 in
theorem refCheckI_is (o d a b n z : Int) (w : World) (hz : cChk o d a b n = z) :
    Calls Tryz.prog 57 #[.agg #[.int .i64 o, .int .i64 d, .int .i64 a, .int .i64 b, .int .i64 n]] w fun e w' => e = .returned (.int .i64 z) ∧ Below w.heap.size w w' := by
  have HI := Lib.hid (fun T => InsW.new w w o d a b n T (Below.refl _ _) (Nat.le_refl _))
  by_cases ho : isOp o
  · obtain ⟨x0, x1, x2, x3, hs, e0, e1, e2, e3, hsh⟩ := shaped ho
    obtain ⟨g0, g1, g2, g3⟩ := shaped_letters hsh
    have hcase : (fErr (shL o 0) d ≠ 0 ∧ z = fErr (shL o 0) d) ∨ (fErr (shL o 0) d = 0 ∧ fErr (shL o 1) a ≠ 0 ∧ z = fErr (shL o 1) a) ∨ (fErr (shL o 0) d = 0 ∧ fErr (shL o 1) a = 0 ∧ fErr (shL o 2) b ≠ 0 ∧ z = fErr (shL o 2) b) ∨
        (fErr (shL o 0) d = 0 ∧ fErr (shL o 1) a = 0 ∧ fErr (shL o 2) b = 0 ∧ fErr (shL o 3) n ≠ 0 ∧ z = fErr (shL o 3) n) ∨ (fErr (shL o 0) d = 0 ∧ fErr (shL o 1) a = 0 ∧ fErr (shL o 2) b = 0 ∧ fErr (shL o 3) n = 0 ∧ z = 0) := by
      unfold cChk at hz
      rw [if_neg (fun f => f ho)] at hz
      by_cases k0 : fErr (shL o 0) d = 0
      · by_cases k1 : fErr (shL o 1) a = 0
        · by_cases k2 : fErr (shL o 2) b = 0
          · by_cases k3 : fErr (shL o 3) n = 0 <;> simp_all
          · simp_all
        · simp_all
      · simp_all
    obtain ⟨z0, hz0⟩ : ∃ z0, fErr (shL o 0) d = z0 := ⟨_, rfl⟩
    obtain ⟨z1, hz1⟩ : ∃ z1, fErr (shL o 1) a = z1 := ⟨_, rfl⟩
    obtain ⟨z2, hz2⟩ : ∃ z2, fErr (shL o 2) b = z2 := ⟨_, rfl⟩
    obtain ⟨z3, hz3⟩ : ∃ z3, fErr (shL o 3) n = z3 := ⟨_, rfl⟩
    rw [hz0, hz1, hz2, hz3] at hcase
    rw [e0] at hz0 g0
    rw [e1] at hz1 g1
    rw [e2] at hz2 g2
    rw [e3] at hz3 g3
    have Z0 := Lib.hid hz0
    have Z1 := Lib.hid hz1
    have Z2 := Lib.hid hz2
    have Z3 := Lib.hid hz3
    have G0 := Lib.hid g0
    have G1 := Lib.hid g1
    have G2 := Lib.hid g2
    have G3 := Lib.hid g3
    clear hz0 hz1 hz2 hz3 e0 e1 e2 e3 hz ho g0 g1 g2 g3 hsh
    have HS := Lib.hid hs
    clear hs
    rcases hcase with ⟨k0, rfl⟩ | ⟨rfl, k1, rfl⟩ | ⟨rfl, rfl, k2, rfl⟩ | ⟨rfl, rfl, rfl, k3, rfl⟩ | ⟨rfl, rfl, rfl, rfl, rfl⟩
    · have k0' : (z != 0) = true := by simpa using k0
      clear k0
      go_enter Tryz.func57, Tryz.ntmps57
      go_wp2_with (go_at_call 63; ((with_reducible refine (refShape_is o _).mono ?_); rintro e w1 ⟨rfl, rfl⟩); rw [HS.out])
      obtain ⟨W0, hW⟩ : ∃ W, (w.alloc (.cells #[.int .i64 o, .int .i64 d, .int .i64 a, .int .i64 b, .int .i64 n] 68)).alloc (.cells #[.int .i64 d, .int .i64 a, .int .i64 b, .int .i64 n] 3) = W := ⟨_, rfl⟩
      rw [hW]
      have hS0 : (W0.cell? ⟨w.heap.size + 1, 0, none⟩ = some (.int .i64 d) ∧ W0.cell? ⟨w.heap.size + 1, 1, none⟩ = some (.int .i64 a) ∧ W0.cell? ⟨w.heap.size + 1, 2, none⟩ = some (.int .i64 b) ∧ W0.cell? ⟨w.heap.size + 1, 3, none⟩ = some (.int .i64 n)) ∧ Below w.heap.size w W0 := by subst hW; exact ⟨⟨by go_cell, by go_cell, by go_cell, by go_cell⟩, ((HI.out _).alloc _).below⟩
      clear hW
      refine wp_loop_rounds 5 ?_
      rw [rounds_succ]
      go_wp2
      obtain ⟨⟨q0, q1, q2, q3⟩, q4⟩ := hS0
      have hS1 : (W0.drew.cell? ⟨w.heap.size + 1, 0, none⟩ = some (.int .i64 d) ∧ W0.drew.cell? ⟨w.heap.size + 1, 1, none⟩ = some (.int .i64 a) ∧ W0.drew.cell? ⟨w.heap.size + 1, 2, none⟩ = some (.int .i64 b) ∧ W0.drew.cell? ⟨w.heap.size + 1, 3, none⟩ = some (.int .i64 n)) ∧ Below w.heap.size w W0.drew := ⟨⟨q0, q1, q2, q3⟩, q4.drew⟩
      clear q0 q1 q2 q3 q4
      go_region_held3 (fun w' => (w'.cell? ⟨w.heap.size + 1, 0, none⟩ = some (.int .i64 d) ∧ w'.cell? ⟨w.heap.size + 1, 1, none⟩ = some (.int .i64 a) ∧ w'.cell? ⟨w.heap.size + 1, 2, none⟩ = some (.int .i64 b) ∧ w'.cell? ⟨w.heap.size + 1, 3, none⟩ = some (.int .i64 n)) ∧ Below w.heap.size w w')
        (with_reducible assumption)
        ((go_at_call 87; refine (refField_is x0.toNat d _ _ G0.out Z0.out).mono ?_; rintro e w3 ⟨rfl, rfl⟩))
      generalize W0.drew = W1 at *
      go_wp2
      go_ret
      exact ⟨rfl, hS1.2⟩
    · have k0' : (z != 0) = true := by simpa using k1
      clear k1
      go_enter Tryz.func57, Tryz.ntmps57
      go_wp2_with (go_at_call 63; ((with_reducible refine (refShape_is o _).mono ?_); rintro e w1 ⟨rfl, rfl⟩); rw [HS.out])
      obtain ⟨W0, hW⟩ : ∃ W, (w.alloc (.cells #[.int .i64 o, .int .i64 d, .int .i64 a, .int .i64 b, .int .i64 n] 68)).alloc (.cells #[.int .i64 d, .int .i64 a, .int .i64 b, .int .i64 n] 3) = W := ⟨_, rfl⟩
      rw [hW]
      have hS0 : (W0.cell? ⟨w.heap.size + 1, 0, none⟩ = some (.int .i64 d) ∧ W0.cell? ⟨w.heap.size + 1, 1, none⟩ = some (.int .i64 a) ∧ W0.cell? ⟨w.heap.size + 1, 2, none⟩ = some (.int .i64 b) ∧ W0.cell? ⟨w.heap.size + 1, 3, none⟩ = some (.int .i64 n)) ∧ Below w.heap.size w W0 := by subst hW; exact ⟨⟨by go_cell, by go_cell, by go_cell, by go_cell⟩, ((HI.out _).alloc _).below⟩
      clear hW
      refine wp_loop_rounds 5 ?_
      rw [rounds_succ]
      go_wp2
      obtain ⟨⟨q0, q1, q2, q3⟩, q4⟩ := hS0
      have hS1 : (W0.drew.cell? ⟨w.heap.size + 1, 0, none⟩ = some (.int .i64 d) ∧ W0.drew.cell? ⟨w.heap.size + 1, 1, none⟩ = some (.int .i64 a) ∧ W0.drew.cell? ⟨w.heap.size + 1, 2, none⟩ = some (.int .i64 b) ∧ W0.drew.cell? ⟨w.heap.size + 1, 3, none⟩ = some (.int .i64 n)) ∧ Below w.heap.size w W0.drew := ⟨⟨q0, q1, q2, q3⟩, q4.drew⟩
      clear q0 q1 q2 q3 q4
      go_region_held3 (fun w' => (w'.cell? ⟨w.heap.size + 1, 0, none⟩ = some (.int .i64 d) ∧ w'.cell? ⟨w.heap.size + 1, 1, none⟩ = some (.int .i64 a) ∧ w'.cell? ⟨w.heap.size + 1, 2, none⟩ = some (.int .i64 b) ∧ w'.cell? ⟨w.heap.size + 1, 3, none⟩ = some (.int .i64 n)) ∧ Below w.heap.size w w')
        (with_reducible assumption)
        ((go_at_call 87; refine (refField_is x0.toNat d _ _ G0.out Z0.out).mono ?_; rintro e w3 ⟨rfl, rfl⟩))
      generalize W0.drew = W1 at *
      go_wp2
      rw [rounds_succ]
      go_wp2
      obtain ⟨⟨q0, q1, q2, q3⟩, q4⟩ := hS1
      have hS2 : (W1.drew.cell? ⟨w.heap.size + 1, 0, none⟩ = some (.int .i64 d) ∧ W1.drew.cell? ⟨w.heap.size + 1, 1, none⟩ = some (.int .i64 a) ∧ W1.drew.cell? ⟨w.heap.size + 1, 2, none⟩ = some (.int .i64 b) ∧ W1.drew.cell? ⟨w.heap.size + 1, 3, none⟩ = some (.int .i64 n)) ∧ Below w.heap.size w W1.drew := ⟨⟨q0, q1, q2, q3⟩, q4.drew⟩
      clear q0 q1 q2 q3 q4
      go_region_held3 (fun w' => (w'.cell? ⟨w.heap.size + 1, 0, none⟩ = some (.int .i64 d) ∧ w'.cell? ⟨w.heap.size + 1, 1, none⟩ = some (.int .i64 a) ∧ w'.cell? ⟨w.heap.size + 1, 2, none⟩ = some (.int .i64 b) ∧ w'.cell? ⟨w.heap.size + 1, 3, none⟩ = some (.int .i64 n)) ∧ Below w.heap.size w w')
        (with_reducible assumption)
        ((go_at_call 87; refine (refField_is x1.toNat a _ _ G1.out Z1.out).mono ?_; rintro e w3 ⟨rfl, rfl⟩))
      generalize W1.drew = W2 at *
      go_wp2
      go_ret
      exact ⟨rfl, hS2.2⟩
    · have k0' : (z != 0) = true := by simpa using k2
      clear k2
      go_enter Tryz.func57, Tryz.ntmps57
      go_wp2_with (go_at_call 63; ((with_reducible refine (refShape_is o _).mono ?_); rintro e w1 ⟨rfl, rfl⟩); rw [HS.out])
      obtain ⟨W0, hW⟩ : ∃ W, (w.alloc (.cells #[.int .i64 o, .int .i64 d, .int .i64 a, .int .i64 b, .int .i64 n] 68)).alloc (.cells #[.int .i64 d, .int .i64 a, .int .i64 b, .int .i64 n] 3) = W := ⟨_, rfl⟩
      rw [hW]
      have hS0 : (W0.cell? ⟨w.heap.size + 1, 0, none⟩ = some (.int .i64 d) ∧ W0.cell? ⟨w.heap.size + 1, 1, none⟩ = some (.int .i64 a) ∧ W0.cell? ⟨w.heap.size + 1, 2, none⟩ = some (.int .i64 b) ∧ W0.cell? ⟨w.heap.size + 1, 3, none⟩ = some (.int .i64 n)) ∧ Below w.heap.size w W0 := by subst hW; exact ⟨⟨by go_cell, by go_cell, by go_cell, by go_cell⟩, ((HI.out _).alloc _).below⟩
      clear hW
      refine wp_loop_rounds 5 ?_
      rw [rounds_succ]
      go_wp2
      obtain ⟨⟨q0, q1, q2, q3⟩, q4⟩ := hS0
      have hS1 : (W0.drew.cell? ⟨w.heap.size + 1, 0, none⟩ = some (.int .i64 d) ∧ W0.drew.cell? ⟨w.heap.size + 1, 1, none⟩ = some (.int .i64 a) ∧ W0.drew.cell? ⟨w.heap.size + 1, 2, none⟩ = some (.int .i64 b) ∧ W0.drew.cell? ⟨w.heap.size + 1, 3, none⟩ = some (.int .i64 n)) ∧ Below w.heap.size w W0.drew := ⟨⟨q0, q1, q2, q3⟩, q4.drew⟩
      clear q0 q1 q2 q3 q4
      go_region_held3 (fun w' => (w'.cell? ⟨w.heap.size + 1, 0, none⟩ = some (.int .i64 d) ∧ w'.cell? ⟨w.heap.size + 1, 1, none⟩ = some (.int .i64 a) ∧ w'.cell? ⟨w.heap.size + 1, 2, none⟩ = some (.int .i64 b) ∧ w'.cell? ⟨w.heap.size + 1, 3, none⟩ = some (.int .i64 n)) ∧ Below w.heap.size w w')
        (with_reducible assumption)
        ((go_at_call 87; refine (refField_is x0.toNat d _ _ G0.out Z0.out).mono ?_; rintro e w3 ⟨rfl, rfl⟩))
      generalize W0.drew = W1 at *
      go_wp2
      rw [rounds_succ]
      go_wp2
      obtain ⟨⟨q0, q1, q2, q3⟩, q4⟩ := hS1
      have hS2 : (W1.drew.cell? ⟨w.heap.size + 1, 0, none⟩ = some (.int .i64 d) ∧ W1.drew.cell? ⟨w.heap.size + 1, 1, none⟩ = some (.int .i64 a) ∧ W1.drew.cell? ⟨w.heap.size + 1, 2, none⟩ = some (.int .i64 b) ∧ W1.drew.cell? ⟨w.heap.size + 1, 3, none⟩ = some (.int .i64 n)) ∧ Below w.heap.size w W1.drew := ⟨⟨q0, q1, q2, q3⟩, q4.drew⟩
      clear q0 q1 q2 q3 q4
      go_region_held3 (fun w' => (w'.cell? ⟨w.heap.size + 1, 0, none⟩ = some (.int .i64 d) ∧ w'.cell? ⟨w.heap.size + 1, 1, none⟩ = some (.int .i64 a) ∧ w'.cell? ⟨w.heap.size + 1, 2, none⟩ = some (.int .i64 b) ∧ w'.cell? ⟨w.heap.size + 1, 3, none⟩ = some (.int .i64 n)) ∧ Below w.heap.size w w')
        (with_reducible assumption)
        ((go_at_call 87; refine (refField_is x1.toNat a _ _ G1.out Z1.out).mono ?_; rintro e w3 ⟨rfl, rfl⟩))
      generalize W1.drew = W2 at *
      go_wp2
      rw [rounds_succ]
      go_wp2
      obtain ⟨⟨q0, q1, q2, q3⟩, q4⟩ := hS2
      have hS3 : (W2.drew.cell? ⟨w.heap.size + 1, 0, none⟩ = some (.int .i64 d) ∧ W2.drew.cell? ⟨w.heap.size + 1, 1, none⟩ = some (.int .i64 a) ∧ W2.drew.cell? ⟨w.heap.size + 1, 2, none⟩ = some (.int .i64 b) ∧ W2.drew.cell? ⟨w.heap.size + 1, 3, none⟩ = some (.int .i64 n)) ∧ Below w.heap.size w W2.drew := ⟨⟨q0, q1, q2, q3⟩, q4.drew⟩
      clear q0 q1 q2 q3 q4
      go_region_held3 (fun w' => (w'.cell? ⟨w.heap.size + 1, 0, none⟩ = some (.int .i64 d) ∧ w'.cell? ⟨w.heap.size + 1, 1, none⟩ = some (.int .i64 a) ∧ w'.cell? ⟨w.heap.size + 1, 2, none⟩ = some (.int .i64 b) ∧ w'.cell? ⟨w.heap.size + 1, 3, none⟩ = some (.int .i64 n)) ∧ Below w.heap.size w w')
        (with_reducible assumption)
        ((go_at_call 87; refine (refField_is x2.toNat b _ _ G2.out Z2.out).mono ?_; rintro e w3 ⟨rfl, rfl⟩))
      generalize W2.drew = W3 at *
      go_wp2
      go_ret
      exact ⟨rfl, hS3.2⟩
    · have k0' : (z != 0) = true := by simpa using k3
      clear k3
      go_enter Tryz.func57, Tryz.ntmps57
      go_wp2_with (go_at_call 63; ((with_reducible refine (refShape_is o _).mono ?_); rintro e w1 ⟨rfl, rfl⟩); rw [HS.out])
      obtain ⟨W0, hW⟩ : ∃ W, (w.alloc (.cells #[.int .i64 o, .int .i64 d, .int .i64 a, .int .i64 b, .int .i64 n] 68)).alloc (.cells #[.int .i64 d, .int .i64 a, .int .i64 b, .int .i64 n] 3) = W := ⟨_, rfl⟩
      rw [hW]
      have hS0 : (W0.cell? ⟨w.heap.size + 1, 0, none⟩ = some (.int .i64 d) ∧ W0.cell? ⟨w.heap.size + 1, 1, none⟩ = some (.int .i64 a) ∧ W0.cell? ⟨w.heap.size + 1, 2, none⟩ = some (.int .i64 b) ∧ W0.cell? ⟨w.heap.size + 1, 3, none⟩ = some (.int .i64 n)) ∧ Below w.heap.size w W0 := by subst hW; exact ⟨⟨by go_cell, by go_cell, by go_cell, by go_cell⟩, ((HI.out _).alloc _).below⟩
      clear hW
      refine wp_loop_rounds 5 ?_
      rw [rounds_succ]
      go_wp2
      obtain ⟨⟨q0, q1, q2, q3⟩, q4⟩ := hS0
      have hS1 : (W0.drew.cell? ⟨w.heap.size + 1, 0, none⟩ = some (.int .i64 d) ∧ W0.drew.cell? ⟨w.heap.size + 1, 1, none⟩ = some (.int .i64 a) ∧ W0.drew.cell? ⟨w.heap.size + 1, 2, none⟩ = some (.int .i64 b) ∧ W0.drew.cell? ⟨w.heap.size + 1, 3, none⟩ = some (.int .i64 n)) ∧ Below w.heap.size w W0.drew := ⟨⟨q0, q1, q2, q3⟩, q4.drew⟩
      clear q0 q1 q2 q3 q4
      go_region_held3 (fun w' => (w'.cell? ⟨w.heap.size + 1, 0, none⟩ = some (.int .i64 d) ∧ w'.cell? ⟨w.heap.size + 1, 1, none⟩ = some (.int .i64 a) ∧ w'.cell? ⟨w.heap.size + 1, 2, none⟩ = some (.int .i64 b) ∧ w'.cell? ⟨w.heap.size + 1, 3, none⟩ = some (.int .i64 n)) ∧ Below w.heap.size w w')
        (with_reducible assumption)
        ((go_at_call 87; refine (refField_is x0.toNat d _ _ G0.out Z0.out).mono ?_; rintro e w3 ⟨rfl, rfl⟩))
      generalize W0.drew = W1 at *
      go_wp2
      rw [rounds_succ]
      go_wp2
      obtain ⟨⟨q0, q1, q2, q3⟩, q4⟩ := hS1
      have hS2 : (W1.drew.cell? ⟨w.heap.size + 1, 0, none⟩ = some (.int .i64 d) ∧ W1.drew.cell? ⟨w.heap.size + 1, 1, none⟩ = some (.int .i64 a) ∧ W1.drew.cell? ⟨w.heap.size + 1, 2, none⟩ = some (.int .i64 b) ∧ W1.drew.cell? ⟨w.heap.size + 1, 3, none⟩ = some (.int .i64 n)) ∧ Below w.heap.size w W1.drew := ⟨⟨q0, q1, q2, q3⟩, q4.drew⟩
      clear q0 q1 q2 q3 q4
      go_region_held3 (fun w' => (w'.cell? ⟨w.heap.size + 1, 0, none⟩ = some (.int .i64 d) ∧ w'.cell? ⟨w.heap.size + 1, 1, none⟩ = some (.int .i64 a) ∧ w'.cell? ⟨w.heap.size + 1, 2, none⟩ = some (.int .i64 b) ∧ w'.cell? ⟨w.heap.size + 1, 3, none⟩ = some (.int .i64 n)) ∧ Below w.heap.size w w')
        (with_reducible assumption)
        ((go_at_call 87; refine (refField_is x1.toNat a _ _ G1.out Z1.out).mono ?_; rintro e w3 ⟨rfl, rfl⟩))
      generalize W1.drew = W2 at *
      go_wp2
      rw [rounds_succ]
      go_wp2
      obtain ⟨⟨q0, q1, q2, q3⟩, q4⟩ := hS2
      have hS3 : (W2.drew.cell? ⟨w.heap.size + 1, 0, none⟩ = some (.int .i64 d) ∧ W2.drew.cell? ⟨w.heap.size + 1, 1, none⟩ = some (.int .i64 a) ∧ W2.drew.cell? ⟨w.heap.size + 1, 2, none⟩ = some (.int .i64 b) ∧ W2.drew.cell? ⟨w.heap.size + 1, 3, none⟩ = some (.int .i64 n)) ∧ Below w.heap.size w W2.drew := ⟨⟨q0, q1, q2, q3⟩, q4.drew⟩
      clear q0 q1 q2 q3 q4
      go_region_held3 (fun w' => (w'.cell? ⟨w.heap.size + 1, 0, none⟩ = some (.int .i64 d) ∧ w'.cell? ⟨w.heap.size + 1, 1, none⟩ = some (.int .i64 a) ∧ w'.cell? ⟨w.heap.size + 1, 2, none⟩ = some (.int .i64 b) ∧ w'.cell? ⟨w.heap.size + 1, 3, none⟩ = some (.int .i64 n)) ∧ Below w.heap.size w w')
        (with_reducible assumption)
        ((go_at_call 87; refine (refField_is x2.toNat b _ _ G2.out Z2.out).mono ?_; rintro e w3 ⟨rfl, rfl⟩))
      generalize W2.drew = W3 at *
      go_wp2
      rw [rounds_succ]
      go_wp2
      obtain ⟨⟨q0, q1, q2, q3⟩, q4⟩ := hS3
      have hS4 : (W3.drew.cell? ⟨w.heap.size + 1, 0, none⟩ = some (.int .i64 d) ∧ W3.drew.cell? ⟨w.heap.size + 1, 1, none⟩ = some (.int .i64 a) ∧ W3.drew.cell? ⟨w.heap.size + 1, 2, none⟩ = some (.int .i64 b) ∧ W3.drew.cell? ⟨w.heap.size + 1, 3, none⟩ = some (.int .i64 n)) ∧ Below w.heap.size w W3.drew := ⟨⟨q0, q1, q2, q3⟩, q4.drew⟩
      clear q0 q1 q2 q3 q4
      go_region_held3 (fun w' => (w'.cell? ⟨w.heap.size + 1, 0, none⟩ = some (.int .i64 d) ∧ w'.cell? ⟨w.heap.size + 1, 1, none⟩ = some (.int .i64 a) ∧ w'.cell? ⟨w.heap.size + 1, 2, none⟩ = some (.int .i64 b) ∧ w'.cell? ⟨w.heap.size + 1, 3, none⟩ = some (.int .i64 n)) ∧ Below w.heap.size w w')
        (with_reducible assumption)
        ((go_at_call 87; refine (refField_is x3.toNat n _ _ G3.out Z3.out).mono ?_; rintro e w3 ⟨rfl, rfl⟩))
      generalize W3.drew = W4 at *
      go_wp2
      go_ret
      exact ⟨rfl, hS4.2⟩
    · skip
      go_enter Tryz.func57, Tryz.ntmps57
      go_wp2_with (go_at_call 63; ((with_reducible refine (refShape_is o _).mono ?_); rintro e w1 ⟨rfl, rfl⟩); rw [HS.out])
      obtain ⟨W0, hW⟩ : ∃ W, (w.alloc (.cells #[.int .i64 o, .int .i64 d, .int .i64 a, .int .i64 b, .int .i64 n] 68)).alloc (.cells #[.int .i64 d, .int .i64 a, .int .i64 b, .int .i64 n] 3) = W := ⟨_, rfl⟩
      rw [hW]
      have hS0 : (W0.cell? ⟨w.heap.size + 1, 0, none⟩ = some (.int .i64 d) ∧ W0.cell? ⟨w.heap.size + 1, 1, none⟩ = some (.int .i64 a) ∧ W0.cell? ⟨w.heap.size + 1, 2, none⟩ = some (.int .i64 b) ∧ W0.cell? ⟨w.heap.size + 1, 3, none⟩ = some (.int .i64 n)) ∧ Below w.heap.size w W0 := by subst hW; exact ⟨⟨by go_cell, by go_cell, by go_cell, by go_cell⟩, ((HI.out _).alloc _).below⟩
      clear hW
      refine wp_loop_rounds 5 ?_
      rw [rounds_succ]
      go_wp2
      obtain ⟨⟨q0, q1, q2, q3⟩, q4⟩ := hS0
      have hS1 : (W0.drew.cell? ⟨w.heap.size + 1, 0, none⟩ = some (.int .i64 d) ∧ W0.drew.cell? ⟨w.heap.size + 1, 1, none⟩ = some (.int .i64 a) ∧ W0.drew.cell? ⟨w.heap.size + 1, 2, none⟩ = some (.int .i64 b) ∧ W0.drew.cell? ⟨w.heap.size + 1, 3, none⟩ = some (.int .i64 n)) ∧ Below w.heap.size w W0.drew := ⟨⟨q0, q1, q2, q3⟩, q4.drew⟩
      clear q0 q1 q2 q3 q4
      go_region_held3 (fun w' => (w'.cell? ⟨w.heap.size + 1, 0, none⟩ = some (.int .i64 d) ∧ w'.cell? ⟨w.heap.size + 1, 1, none⟩ = some (.int .i64 a) ∧ w'.cell? ⟨w.heap.size + 1, 2, none⟩ = some (.int .i64 b) ∧ w'.cell? ⟨w.heap.size + 1, 3, none⟩ = some (.int .i64 n)) ∧ Below w.heap.size w w')
        (with_reducible assumption)
        ((go_at_call 87; refine (refField_is x0.toNat d _ _ G0.out Z0.out).mono ?_; rintro e w3 ⟨rfl, rfl⟩))
      generalize W0.drew = W1 at *
      go_wp2
      rw [rounds_succ]
      go_wp2
      obtain ⟨⟨q0, q1, q2, q3⟩, q4⟩ := hS1
      have hS2 : (W1.drew.cell? ⟨w.heap.size + 1, 0, none⟩ = some (.int .i64 d) ∧ W1.drew.cell? ⟨w.heap.size + 1, 1, none⟩ = some (.int .i64 a) ∧ W1.drew.cell? ⟨w.heap.size + 1, 2, none⟩ = some (.int .i64 b) ∧ W1.drew.cell? ⟨w.heap.size + 1, 3, none⟩ = some (.int .i64 n)) ∧ Below w.heap.size w W1.drew := ⟨⟨q0, q1, q2, q3⟩, q4.drew⟩
      clear q0 q1 q2 q3 q4
      go_region_held3 (fun w' => (w'.cell? ⟨w.heap.size + 1, 0, none⟩ = some (.int .i64 d) ∧ w'.cell? ⟨w.heap.size + 1, 1, none⟩ = some (.int .i64 a) ∧ w'.cell? ⟨w.heap.size + 1, 2, none⟩ = some (.int .i64 b) ∧ w'.cell? ⟨w.heap.size + 1, 3, none⟩ = some (.int .i64 n)) ∧ Below w.heap.size w w')
        (with_reducible assumption)
        ((go_at_call 87; refine (refField_is x1.toNat a _ _ G1.out Z1.out).mono ?_; rintro e w3 ⟨rfl, rfl⟩))
      generalize W1.drew = W2 at *
      go_wp2
      rw [rounds_succ]
      go_wp2
      obtain ⟨⟨q0, q1, q2, q3⟩, q4⟩ := hS2
      have hS3 : (W2.drew.cell? ⟨w.heap.size + 1, 0, none⟩ = some (.int .i64 d) ∧ W2.drew.cell? ⟨w.heap.size + 1, 1, none⟩ = some (.int .i64 a) ∧ W2.drew.cell? ⟨w.heap.size + 1, 2, none⟩ = some (.int .i64 b) ∧ W2.drew.cell? ⟨w.heap.size + 1, 3, none⟩ = some (.int .i64 n)) ∧ Below w.heap.size w W2.drew := ⟨⟨q0, q1, q2, q3⟩, q4.drew⟩
      clear q0 q1 q2 q3 q4
      go_region_held3 (fun w' => (w'.cell? ⟨w.heap.size + 1, 0, none⟩ = some (.int .i64 d) ∧ w'.cell? ⟨w.heap.size + 1, 1, none⟩ = some (.int .i64 a) ∧ w'.cell? ⟨w.heap.size + 1, 2, none⟩ = some (.int .i64 b) ∧ w'.cell? ⟨w.heap.size + 1, 3, none⟩ = some (.int .i64 n)) ∧ Below w.heap.size w w')
        (with_reducible assumption)
        ((go_at_call 87; refine (refField_is x2.toNat b _ _ G2.out Z2.out).mono ?_; rintro e w3 ⟨rfl, rfl⟩))
      generalize W2.drew = W3 at *
      go_wp2
      rw [rounds_succ]
      go_wp2
      obtain ⟨⟨q0, q1, q2, q3⟩, q4⟩ := hS3
      have hS4 : (W3.drew.cell? ⟨w.heap.size + 1, 0, none⟩ = some (.int .i64 d) ∧ W3.drew.cell? ⟨w.heap.size + 1, 1, none⟩ = some (.int .i64 a) ∧ W3.drew.cell? ⟨w.heap.size + 1, 2, none⟩ = some (.int .i64 b) ∧ W3.drew.cell? ⟨w.heap.size + 1, 3, none⟩ = some (.int .i64 n)) ∧ Below w.heap.size w W3.drew := ⟨⟨q0, q1, q2, q3⟩, q4.drew⟩
      clear q0 q1 q2 q3 q4
      go_region_held3 (fun w' => (w'.cell? ⟨w.heap.size + 1, 0, none⟩ = some (.int .i64 d) ∧ w'.cell? ⟨w.heap.size + 1, 1, none⟩ = some (.int .i64 a) ∧ w'.cell? ⟨w.heap.size + 1, 2, none⟩ = some (.int .i64 b) ∧ w'.cell? ⟨w.heap.size + 1, 3, none⟩ = some (.int .i64 n)) ∧ Below w.heap.size w w')
        (with_reducible assumption)
        ((go_at_call 87; refine (refField_is x3.toNat n _ _ G3.out Z3.out).mono ?_; rintro e w3 ⟨rfl, rfl⟩))
      generalize W3.drew = W4 at *
      go_wp2
      rw [rounds_succ]
      go_wp2
      go_ret
      exact ⟨rfl, hS4.2⟩
  · rw [chk_no ho] at hz
    subst hz
    have hs := Lib.hid (wShape_no ho)
    go_enter Tryz.func57, Tryz.ntmps57
    go_wp2_with (go_at_call 63; ((with_reducible refine (refShape_is o _).mono ?_); rintro e w1 ⟨rfl, rfl⟩); rw [hs.out])
    go_ret
    exact ⟨rfl, (HI.out _).below⟩

theorem chk_bd {o d a b n : Int} (h : cChk o d a b n = 0) : (1 ≤ o ∧ o ≤ 43) ∧ (0 ≤ d ∧ d ≤ 31) ∧ (0 ≤ a ∧ a ≤ 31) ∧ (0 ≤ b ∧ b ≤ 31) ∧ (-32768 ≤ n ∧ n ≤ 65535) ∧ cEnc o d a b n = o * 67108864 + d * 2097152 + a * 65536 + b * 2048 + (if n < 0 then n + 65536 else n) := by
  have k := chk_op h
  obtain ⟨e0, e1, e2, e3⟩ := chk_0 h
  obtain ⟨_, _, _, _, _, _, _, _, _, hs⟩ := shaped k
  unfold cEnc
  rw [if_pos h]
  clear h
  unfold isOp at k
  unfold cWord
  generalize shL o 0 = l0 at *
  generalize shL o 1 = l1 at *
  generalize shL o 2 = l2 at *
  generalize shL o 3 = l3 at *
  rcases hs with ⟨_, _, rfl, rfl, rfl, rfl⟩ | ⟨_, _, rfl, rfl, rfl, rfl⟩ | ⟨_, rfl, rfl, rfl, rfl⟩ | ⟨_, rfl, rfl, rfl, rfl⟩ | ⟨_, rfl, rfl, rfl, rfl⟩ | ⟨_, rfl, rfl, rfl, rfl⟩ | ⟨_, rfl, rfl, rfl, rfl⟩ | ⟨_, rfl, rfl, rfl, rfl⟩ <;>
    simp only [fB_d, fB_a, fB_b, fB_s, fB_u, fB_n, fE_r, fE_s, fE_u, fE_n, true_or, or_true, Int.reduceNeg] at * <;> omega
set_option maxHeartbeats 1000000 in
theorem refEncode_is (o d a b n v z : Int) (w : World) (hz : cChk o d a b n = z) (hv : cEnc o d a b n = v) :
    Calls Tryz.prog 25 #[.agg #[.int .i64 o, .int .i64 d, .int .i64 a, .int .i64 b, .int .i64 n]] w fun e w' => e = .returned (.tuple #[.int .u32 v, .int .i64 z]) ∧ Below w.heap.size w w' := by
  have HI := Lib.hid (fun T => InsW.new w w o d a b n T (Below.refl _ _) (Nat.le_refl _))
  have HZ := Lib.hid hz
  by_cases h0 : z = 0
  · subst h0
    obtain ⟨⟨o1, o2⟩, ⟨d1, d2⟩, ⟨a1, a2⟩, ⟨b1, b2⟩, ⟨n1, n2⟩, hE⟩ := chk_bd hz
    rw [hE] at hv
    have HV := Lib.hid hv
    clear hz hE hv
    go_enter Tryz.func25, Tryz.ntmps25
    go_wp2_with (go_at_call 57; ((with_reducible refine (refCheckI_is o d a b n 0 _ HZ.out).mono ?_); rintro e w0 ⟨rfl, hq⟩); have hI := (HI.out _).keep hq; have c0 := hI.c0; have c1 := hI.c1; have c2 := hI.c2; have c3 := hI.c3; have c4 := hI.c4)
    all_goals go_ret2
    all_goals exact ⟨congrArg (fun y => Ending.returned (.tuple #[.int .u32 y, .int .i64 0])) (by rw [← HV.out]; (first | rw [if_pos (by omega)] | rw [if_neg (by omega)]); (try omega)), hI.below⟩
  · have hv0 : v = 0 := by rw [← hv]; unfold cEnc; rw [hz, if_neg h0]
    subst hv0
    have k0 : (z != 0) = true := by simpa using h0
    clear hz h0 hv
    go_enter Tryz.func25, Tryz.ntmps25
    go_wp2_with (go_at_call 57; ((with_reducible refine (refCheckI_is o d a b n z _ HZ.out).mono ?_); rintro e w0 ⟨rfl, hq⟩); have hI := (HI.out _).keep hq)
    go_ret2
    exact ⟨rfl, hI.below⟩

theorem u8_of {n : Nat} [OfNat UInt8 n] {x : UInt8} (h : (n : Int) = x.toNat) (hn : (OfNat.ofNat n : UInt8).toNat = n := by decide) : x = OfNat.ofNat n := UInt8.toNat_inj.1 (by omega)
theorem dec_ok {v : Int} (h : isOp (v / 67108864)) (hl : cLeft v = 0) : cErr v = 0 ∧ cO v = v / 67108864 ∧ ∀ k, cG v k = cF v k := by
  have e : cErr v = 0 := by unfold cErr; rw [if_neg (fun f => f h), hl]; rfl
  refine ⟨e, ?_, fun k => ?_⟩
  · unfold cO; rw [if_pos e]
  · unfold cG; rw [if_pos e]
theorem dec_bad {v : Int} (h : isOp (v / 67108864)) (hl : cLeft v ≠ 0) : cErr v = 3 ∧ cO v = 0 ∧ ∀ k, cG v k = 0 := by
  have e : cErr v = 3 := by unfold cErr; rw [if_neg (fun f => f h), if_pos hl]
  have e' : ¬ cErr v = 0 := by rw [e]; decide
  refine ⟨e, ?_, fun k => ?_⟩
  · unfold cO; rw [if_neg e']
  · unfold cG; rw [if_neg e']

set_option maxHeartbeats 16000000 in
theorem refDecode_is (v : Int) (w : World) (v0 : 0 ≤ v) (v1 : v < 4294967296) : Calls Tryz.prog 32 #[.int .u32 v] w (decV w v) := by
  by_cases ho : isOp (v / 67108864)
  case neg =>
    have e : cErr v = 2 := by unfold cErr; rw [if_pos ho]
    have eo : cO v = 0 := by unfold cO; rw [e]; rfl
    have eg : ∀ k, cG v k = 0 := fun k => by unfold cG; rw [e]; rfl
    unfold decV
    rw [e, eo, eg, eg, eg, eg]
    have hs := Lib.hid (wShape_no ho)
    clear e eo eg ho
    have u0 : 0 ≤ v / 2097152 % 32 := by omega
    have u1 : v / 2097152 % 32 < 32 := by omega
    go_enter Tryz.func32, Tryz.ntmps32
    go_wp2_with (go_at_call 63; ((with_reducible refine (refShape_is _ _).mono ?_); rintro e w1 ⟨rfl, rfl⟩); rw [hs.out])
    exact bodyPost_ret (v := .tuple #[.agg #[.int .i64 0, .int .i64 0, .int .i64 0, .int .i64 0, .int .i64 0], .int .i64 2]) (by simp [results, Tryz.results32, go_sem]) rfl ⟨rfl, ((Below.refl _ _).alloc (Nat.le_refl _) _).alloc (by simp) _⟩
  obtain ⟨x0, x1, x2, x3, hs, e0, e1, e2, e3, hsh⟩ := shaped ho
  have HS := Lib.hid hs
  have hl0 : cLeft v = v % 67108864 - fBits (shL (v / 67108864) 0) (fRead (shL (v / 67108864) 0) v) - fBits (shL (v / 67108864) 1) (fRead (shL (v / 67108864) 1) v) - fBits (shL (v / 67108864) 2) (fRead (shL (v / 67108864) 2) v) - fBits (shL (v / 67108864) 3) (fRead (shL (v / 67108864) 3) v) := rfl
  have hf0 : cF v 0 = fRead (shL (v / 67108864) 0) v := rfl
  have hf1 : cF v 1 = fRead (shL (v / 67108864) 1) v := rfl
  have hf2 : cF v 2 = fRead (shL (v / 67108864) 2) v := rfl
  have hf3 : cF v 3 = fRead (shL (v / 67108864) 3) v := rfl
  have HO := Lib.hid ho
  clear hs ho
  rcases hsh with ⟨-, -, r0, r1, r2, r3⟩ | ⟨-, -, r0, r1, r2, r3⟩ | ⟨-, r0, r1, r2, r3⟩ | ⟨-, r0, r1, r2, r3⟩ | ⟨-, r0, r1, r2, r3⟩ | ⟨-, r0, r1, r2, r3⟩ | ⟨-, r0, r1, r2, r3⟩ | ⟨-, r0, r1, r2, r3⟩
  · rw [r0, r1, r2, r3] at hl0
    rw [r0] at hf0 e0
    rw [r1] at hf1 e1
    rw [r2] at hf2 e2
    rw [r3] at hf3 e3
    simp only [fB_a, fB_b, fB_d, fB_n, fR_a, fR_b, fR_d, fR_n] at hl0 hf0 hf1 hf2 hf3
    obtain rfl := u8_of e0
    obtain rfl := u8_of e1
    obtain rfl := u8_of e2
    obtain rfl := u8_of e3
    clear e0 e1 e2 e3 r0 r1 r2 r3
    have y0 : ((({ data := #[100, 97, 98, 45] } : ByteArray)[0]).toNat : Int) = 100 := rfl
    have y1 : ((({ data := #[100, 97, 98, 45] } : ByteArray)[1]).toNat : Int) = 97 := rfl
    have y2 : ((({ data := #[100, 97, 98, 45] } : ByteArray)[2]).toNat : Int) = 98 := rfl
    have y3 : ((({ data := #[100, 97, 98, 45] } : ByteArray)[3]).toNat : Int) = 45 := rfl
    rcases (show (v % 2048 ≠ 0) ∨ (v % 2048 = 0) by omega) with h0 | h0
    · obtain ⟨q0, q1, q2⟩ := dec_bad HO.out (by omega)
      unfold decV
      rw [q0, q1, q2, q2, q2, q2]
      have g0 : (v % 2048 != 0) = true := by simpa using h0
      clear hl0 hf0 hf1 hf2 hf3 q0 q1 q2 h0
      go_enter Tryz.func32, Tryz.ntmps32
      go_wp2_with (go_at_call 63; ((with_reducible refine (refShape_is _ _).mono ?_); rintro e w1 ⟨rfl, rfl⟩); rw [HS.out])
      exact bodyPost_ret (v := .tuple #[.agg #[.int .i64 0, .int .i64 0, .int .i64 0, .int .i64 0, .int .i64 0], .int .i64 3]) (by simp [results, Tryz.results32, go_sem]) rfl ⟨rfl, ((Below.refl _ _).alloc (Nat.le_refl _) _).alloc (by simp) _⟩
    · obtain ⟨q0, q1, q2⟩ := dec_ok HO.out (by omega)
      unfold decV
      rw [q0, q1, q2, q2, q2, q2, show cF v 0 = v / 2097152 % 32 by omega, show cF v 1 = v / 65536 % 32 by omega, show cF v 2 = v % 65536 / 2048 by omega, show cF v 3 = 0 by omega]
      have g0 : (v % 2048 != 0) = false := by simpa using h0
      clear hl0 hf0 hf1 hf2 hf3 q0 q1 q2 h0
      go_enter Tryz.func32, Tryz.ntmps32
      go_wp2_with (go_at_call 63; ((with_reducible refine (refShape_is _ _).mono ?_); rintro e w1 ⟨rfl, rfl⟩); rw [HS.out])
      exact bodyPost_ret (v := .tuple #[.agg #[.int .i64 (v / 67108864), .int .i64 (v / 2097152 % 32), .int .i64 (v / 65536 % 32), .int .i64 (v % 65536 / 2048), .int .i64 (0)], .int .i64 0]) (by simp [results, Tryz.results32, go_sem]) rfl ⟨rfl, ((Below.refl _ _).alloc (Nat.le_refl _) _).alloc (by simp) _⟩
  · rw [r0, r1, r2, r3] at hl0
    rw [r0] at hf0 e0
    rw [r1] at hf1 e1
    rw [r2] at hf2 e2
    rw [r3] at hf3 e3
    simp only [fB_a, fB_d, fB_n, fR_a, fR_d, fR_n] at hl0 hf0 hf1 hf2 hf3
    obtain rfl := u8_of e0
    obtain rfl := u8_of e1
    obtain rfl := u8_of e2
    obtain rfl := u8_of e3
    clear e0 e1 e2 e3 r0 r1 r2 r3
    have y0 : ((({ data := #[100, 97, 45, 45] } : ByteArray)[0]).toNat : Int) = 100 := rfl
    have y1 : ((({ data := #[100, 97, 45, 45] } : ByteArray)[1]).toNat : Int) = 97 := rfl
    have y2 : ((({ data := #[100, 97, 45, 45] } : ByteArray)[2]).toNat : Int) = 45 := rfl
    have y3 : ((({ data := #[100, 97, 45, 45] } : ByteArray)[3]).toNat : Int) = 45 := rfl
    rcases (show (v % 65536 ≠ 0) ∨ (v % 65536 = 0) by omega) with h0 | h0
    · obtain ⟨q0, q1, q2⟩ := dec_bad HO.out (by omega)
      unfold decV
      rw [q0, q1, q2, q2, q2, q2]
      have g0 : (v % 65536 != 0) = true := by simpa using h0
      clear hl0 hf0 hf1 hf2 hf3 q0 q1 q2 h0
      go_enter Tryz.func32, Tryz.ntmps32
      go_wp2_with (go_at_call 63; ((with_reducible refine (refShape_is _ _).mono ?_); rintro e w1 ⟨rfl, rfl⟩); rw [HS.out])
      exact bodyPost_ret (v := .tuple #[.agg #[.int .i64 0, .int .i64 0, .int .i64 0, .int .i64 0, .int .i64 0], .int .i64 3]) (by simp [results, Tryz.results32, go_sem]) rfl ⟨rfl, ((Below.refl _ _).alloc (Nat.le_refl _) _).alloc (by simp) _⟩
    · obtain ⟨q0, q1, q2⟩ := dec_ok HO.out (by omega)
      unfold decV
      rw [q0, q1, q2, q2, q2, q2, show cF v 0 = v / 2097152 % 32 by omega, show cF v 1 = v / 65536 % 32 by omega, show cF v 2 = 0 by omega, show cF v 3 = 0 by omega]
      have g0 : (v % 65536 != 0) = false := by simpa using h0
      clear hl0 hf0 hf1 hf2 hf3 q0 q1 q2 h0
      go_enter Tryz.func32, Tryz.ntmps32
      go_wp2_with (go_at_call 63; ((with_reducible refine (refShape_is _ _).mono ?_); rintro e w1 ⟨rfl, rfl⟩); rw [HS.out])
      exact bodyPost_ret (v := .tuple #[.agg #[.int .i64 (v / 67108864), .int .i64 (v / 2097152 % 32), .int .i64 (v / 65536 % 32), .int .i64 (0), .int .i64 (0)], .int .i64 0]) (by simp [results, Tryz.results32, go_sem]) rfl ⟨rfl, ((Below.refl _ _).alloc (Nat.le_refl _) _).alloc (by simp) _⟩
  · rw [r0, r1, r2, r3] at hl0
    rw [r0] at hf0 e0
    rw [r1] at hf1 e1
    rw [r2] at hf2 e2
    rw [r3] at hf3 e3
    simp only [fB_a, fB_d, fB_n, fB_s, fR_a, fR_d, fR_n, fR_s] at hl0 hf0 hf1 hf2 hf3
    obtain rfl := u8_of e0
    obtain rfl := u8_of e1
    obtain rfl := u8_of e2
    obtain rfl := u8_of e3
    clear e0 e1 e2 e3 r0 r1 r2 r3
    have y0 : ((({ data := #[100, 97, 45, 115] } : ByteArray)[0]).toNat : Int) = 100 := rfl
    have y1 : ((({ data := #[100, 97, 45, 115] } : ByteArray)[1]).toNat : Int) = 97 := rfl
    have y2 : ((({ data := #[100, 97, 45, 115] } : ByteArray)[2]).toNat : Int) = 45 := rfl
    have y3 : ((({ data := #[100, 97, 45, 115] } : ByteArray)[3]).toNat : Int) = 115 := rfl
    rcases (show (32768 ≤ v % 65536) ∨ (v % 65536 < 32768) by omega) with h0 | h0
    · obtain ⟨q0, q1, q2⟩ := dec_ok HO.out (by omega)
      unfold decV
      rw [q0, q1, q2, q2, q2, q2, show cF v 0 = v / 2097152 % 32 by omega, show cF v 1 = v / 65536 % 32 by omega, show cF v 2 = 0 by omega, show cF v 3 = v % 65536 - 65536 by omega]
      clear hl0 hf0 hf1 hf2 hf3 q0 q1 q2
      go_enter Tryz.func32, Tryz.ntmps32
      go_wp2_with (go_at_call 63; ((with_reducible refine (refShape_is _ _).mono ?_); rintro e w1 ⟨rfl, rfl⟩); rw [HS.out])
      exact bodyPost_ret (v := .tuple #[.agg #[.int .i64 (v / 67108864), .int .i64 (v / 2097152 % 32), .int .i64 (v / 65536 % 32), .int .i64 (0), .int .i64 (v % 65536 - 65536)], .int .i64 0]) (by simp [results, Tryz.results32, go_sem]) rfl ⟨rfl, ((Below.refl _ _).alloc (Nat.le_refl _) _).alloc (by simp) _⟩
    · obtain ⟨q0, q1, q2⟩ := dec_ok HO.out (by omega)
      unfold decV
      rw [q0, q1, q2, q2, q2, q2, show cF v 0 = v / 2097152 % 32 by omega, show cF v 1 = v / 65536 % 32 by omega, show cF v 2 = 0 by omega, show cF v 3 = v % 65536 by omega]
      clear hl0 hf0 hf1 hf2 hf3 q0 q1 q2
      go_enter Tryz.func32, Tryz.ntmps32
      go_wp2_with (go_at_call 63; ((with_reducible refine (refShape_is _ _).mono ?_); rintro e w1 ⟨rfl, rfl⟩); rw [HS.out])
      exact bodyPost_ret (v := .tuple #[.agg #[.int .i64 (v / 67108864), .int .i64 (v / 2097152 % 32), .int .i64 (v / 65536 % 32), .int .i64 (0), .int .i64 (v % 65536)], .int .i64 0]) (by simp [results, Tryz.results32, go_sem]) rfl ⟨rfl, ((Below.refl _ _).alloc (Nat.le_refl _) _).alloc (by simp) _⟩
  · rw [r0, r1, r2, r3] at hl0
    rw [r0] at hf0 e0
    rw [r1] at hf1 e1
    rw [r2] at hf2 e2
    rw [r3] at hf3 e3
    simp only [fB_a, fB_d, fB_n, fB_u, fR_a, fR_d, fR_n, fR_u] at hl0 hf0 hf1 hf2 hf3
    obtain rfl := u8_of e0
    obtain rfl := u8_of e1
    obtain rfl := u8_of e2
    obtain rfl := u8_of e3
    clear e0 e1 e2 e3 r0 r1 r2 r3
    have y0 : ((({ data := #[100, 97, 45, 117] } : ByteArray)[0]).toNat : Int) = 100 := rfl
    have y1 : ((({ data := #[100, 97, 45, 117] } : ByteArray)[1]).toNat : Int) = 97 := rfl
    have y2 : ((({ data := #[100, 97, 45, 117] } : ByteArray)[2]).toNat : Int) = 45 := rfl
    have y3 : ((({ data := #[100, 97, 45, 117] } : ByteArray)[3]).toNat : Int) = 117 := rfl
    obtain ⟨q0, q1, q2⟩ := dec_ok HO.out (by omega)
    unfold decV
    rw [q0, q1, q2, q2, q2, q2, show cF v 0 = v / 2097152 % 32 by omega, show cF v 1 = v / 65536 % 32 by omega, show cF v 2 = 0 by omega, show cF v 3 = v % 65536 by omega]
    clear hl0 hf0 hf1 hf2 hf3 q0 q1 q2
    go_enter Tryz.func32, Tryz.ntmps32
    go_wp2_with (go_at_call 63; ((with_reducible refine (refShape_is _ _).mono ?_); rintro e w1 ⟨rfl, rfl⟩); rw [HS.out])
    exact bodyPost_ret (v := .tuple #[.agg #[.int .i64 (v / 67108864), .int .i64 (v / 2097152 % 32), .int .i64 (v / 65536 % 32), .int .i64 (0), .int .i64 (v % 65536)], .int .i64 0]) (by simp [results, Tryz.results32, go_sem]) rfl ⟨rfl, ((Below.refl _ _).alloc (Nat.le_refl _) _).alloc (by simp) _⟩
  · rw [r0, r1, r2, r3] at hl0
    rw [r0] at hf0 e0
    rw [r1] at hf1 e1
    rw [r2] at hf2 e2
    rw [r3] at hf3 e3
    simp only [fB_d, fB_n, fB_u, fR_d, fR_n, fR_u] at hl0 hf0 hf1 hf2 hf3
    obtain rfl := u8_of e0
    obtain rfl := u8_of e1
    obtain rfl := u8_of e2
    obtain rfl := u8_of e3
    clear e0 e1 e2 e3 r0 r1 r2 r3
    have y0 : ((({ data := #[100, 45, 45, 117] } : ByteArray)[0]).toNat : Int) = 100 := rfl
    have y1 : ((({ data := #[100, 45, 45, 117] } : ByteArray)[1]).toNat : Int) = 45 := rfl
    have y2 : ((({ data := #[100, 45, 45, 117] } : ByteArray)[2]).toNat : Int) = 45 := rfl
    have y3 : ((({ data := #[100, 45, 45, 117] } : ByteArray)[3]).toNat : Int) = 117 := rfl
    rcases (show (v / 65536 % 32 ≠ 0) ∨ (v / 65536 % 32 = 0) by omega) with h0 | h0
    · obtain ⟨q0, q1, q2⟩ := dec_bad HO.out (by omega)
      unfold decV
      rw [q0, q1, q2, q2, q2, q2]
      have g0 : (v / 65536 % 32 != 0) = true := by simpa using h0
      clear hl0 hf0 hf1 hf2 hf3 q0 q1 q2 h0
      go_enter Tryz.func32, Tryz.ntmps32
      go_wp2_with (go_at_call 63; ((with_reducible refine (refShape_is _ _).mono ?_); rintro e w1 ⟨rfl, rfl⟩); rw [HS.out])
      exact bodyPost_ret (v := .tuple #[.agg #[.int .i64 0, .int .i64 0, .int .i64 0, .int .i64 0, .int .i64 0], .int .i64 3]) (by simp [results, Tryz.results32, go_sem]) rfl ⟨rfl, ((Below.refl _ _).alloc (Nat.le_refl _) _).alloc (by simp) _⟩
    · obtain ⟨q0, q1, q2⟩ := dec_ok HO.out (by omega)
      unfold decV
      rw [q0, q1, q2, q2, q2, q2, show cF v 0 = v / 2097152 % 32 by omega, show cF v 1 = 0 by omega, show cF v 2 = 0 by omega, show cF v 3 = v % 65536 by omega]
      have g0 : (v / 65536 % 32 != 0) = false := by simpa using h0
      clear hl0 hf0 hf1 hf2 hf3 q0 q1 q2 h0
      go_enter Tryz.func32, Tryz.ntmps32
      go_wp2_with (go_at_call 63; ((with_reducible refine (refShape_is _ _).mono ?_); rintro e w1 ⟨rfl, rfl⟩); rw [HS.out])
      exact bodyPost_ret (v := .tuple #[.agg #[.int .i64 (v / 67108864), .int .i64 (v / 2097152 % 32), .int .i64 (0), .int .i64 (0), .int .i64 (v % 65536)], .int .i64 0]) (by simp [results, Tryz.results32, go_sem]; simp only [bne_eq_false_iff_eq] at *; omega) rfl ⟨rfl, ((Below.refl _ _).alloc (Nat.le_refl _) _).alloc (by simp) _⟩
  · rw [r0, r1, r2, r3] at hl0
    rw [r0] at hf0 e0
    rw [r1] at hf1 e1
    rw [r2] at hf2 e2
    rw [r3] at hf3 e3
    simp only [fB_n, fB_u, fR_n, fR_u] at hl0 hf0 hf1 hf2 hf3
    obtain rfl := u8_of e0
    obtain rfl := u8_of e1
    obtain rfl := u8_of e2
    obtain rfl := u8_of e3
    clear e0 e1 e2 e3 r0 r1 r2 r3
    have y0 : ((({ data := #[45, 45, 45, 117] } : ByteArray)[0]).toNat : Int) = 45 := rfl
    have y1 : ((({ data := #[45, 45, 45, 117] } : ByteArray)[1]).toNat : Int) = 45 := rfl
    have y2 : ((({ data := #[45, 45, 45, 117] } : ByteArray)[2]).toNat : Int) = 45 := rfl
    have y3 : ((({ data := #[45, 45, 45, 117] } : ByteArray)[3]).toNat : Int) = 117 := rfl
    rcases (show (v / 2097152 % 32 ≠ 0) ∨ (v / 2097152 % 32 = 0 ∧ v / 65536 % 32 ≠ 0) ∨ (v / 2097152 % 32 = 0 ∧ v / 65536 % 32 = 0) by omega) with h0 | ⟨h0, h1⟩ | ⟨h0, h1⟩
    · obtain ⟨q0, q1, q2⟩ := dec_bad HO.out (by omega)
      unfold decV
      rw [q0, q1, q2, q2, q2, q2]
      have g0 : (v / 2097152 % 32 != 0) = true := by simpa using h0
      clear hl0 hf0 hf1 hf2 hf3 q0 q1 q2 h0
      go_enter Tryz.func32, Tryz.ntmps32
      go_wp2_with (go_at_call 63; ((with_reducible refine (refShape_is _ _).mono ?_); rintro e w1 ⟨rfl, rfl⟩); rw [HS.out])
      exact bodyPost_ret (v := .tuple #[.agg #[.int .i64 0, .int .i64 0, .int .i64 0, .int .i64 0, .int .i64 0], .int .i64 3]) (by simp [results, Tryz.results32, go_sem]) rfl ⟨rfl, ((Below.refl _ _).alloc (Nat.le_refl _) _).alloc (by simp) _⟩
    · obtain ⟨q0, q1, q2⟩ := dec_bad HO.out (by omega)
      unfold decV
      rw [q0, q1, q2, q2, q2, q2]
      have g0 : (v / 2097152 % 32 != 0) = false := by simpa using h0
      have g1 : (v / 65536 % 32 != 0) = true := by simpa using h1
      clear hl0 hf0 hf1 hf2 hf3 q0 q1 q2 h0 h1
      go_enter Tryz.func32, Tryz.ntmps32
      go_wp2_with (go_at_call 63; ((with_reducible refine (refShape_is _ _).mono ?_); rintro e w1 ⟨rfl, rfl⟩); rw [HS.out])
      exact bodyPost_ret (v := .tuple #[.agg #[.int .i64 0, .int .i64 0, .int .i64 0, .int .i64 0, .int .i64 0], .int .i64 3]) (by simp [results, Tryz.results32, go_sem]) rfl ⟨rfl, ((Below.refl _ _).alloc (Nat.le_refl _) _).alloc (by simp) _⟩
    · obtain ⟨q0, q1, q2⟩ := dec_ok HO.out (by omega)
      unfold decV
      rw [q0, q1, q2, q2, q2, q2, show cF v 0 = 0 by omega, show cF v 1 = 0 by omega, show cF v 2 = 0 by omega, show cF v 3 = v % 65536 by omega]
      have g0 : (v / 2097152 % 32 != 0) = false := by simpa using h0
      have g1 : (v / 65536 % 32 != 0) = false := by simpa using h1
      clear hl0 hf0 hf1 hf2 hf3 q0 q1 q2 h0 h1
      go_enter Tryz.func32, Tryz.ntmps32
      go_wp2_with (go_at_call 63; ((with_reducible refine (refShape_is _ _).mono ?_); rintro e w1 ⟨rfl, rfl⟩); rw [HS.out])
      exact bodyPost_ret (v := .tuple #[.agg #[.int .i64 (v / 67108864), .int .i64 (0), .int .i64 (0), .int .i64 (0), .int .i64 (v % 65536)], .int .i64 0]) (by simp [results, Tryz.results32, go_sem]; simp only [bne_eq_false_iff_eq] at *; omega) rfl ⟨rfl, ((Below.refl _ _).alloc (Nat.le_refl _) _).alloc (by simp) _⟩
  · rw [r0, r1, r2, r3] at hl0
    rw [r0] at hf0 e0
    rw [r1] at hf1 e1
    rw [r2] at hf2 e2
    rw [r3] at hf3 e3
    simp only [fB_a, fB_n, fR_a, fR_n] at hl0 hf0 hf1 hf2 hf3
    obtain rfl := u8_of e0
    obtain rfl := u8_of e1
    obtain rfl := u8_of e2
    obtain rfl := u8_of e3
    clear e0 e1 e2 e3 r0 r1 r2 r3
    have y0 : ((({ data := #[45, 97, 45, 45] } : ByteArray)[0]).toNat : Int) = 45 := rfl
    have y1 : ((({ data := #[45, 97, 45, 45] } : ByteArray)[1]).toNat : Int) = 97 := rfl
    have y2 : ((({ data := #[45, 97, 45, 45] } : ByteArray)[2]).toNat : Int) = 45 := rfl
    have y3 : ((({ data := #[45, 97, 45, 45] } : ByteArray)[3]).toNat : Int) = 45 := rfl
    rcases (show (v % 65536 ≠ 0) ∨ (v % 65536 = 0 ∧ v / 2097152 % 32 ≠ 0) ∨ (v % 65536 = 0 ∧ v / 2097152 % 32 = 0) by omega) with h0 | ⟨h0, h1⟩ | ⟨h0, h1⟩
    · obtain ⟨q0, q1, q2⟩ := dec_bad HO.out (by omega)
      unfold decV
      rw [q0, q1, q2, q2, q2, q2]
      have g0 : (v % 65536 != 0) = true := by simpa using h0
      clear hl0 hf0 hf1 hf2 hf3 q0 q1 q2 h0
      go_enter Tryz.func32, Tryz.ntmps32
      go_wp2_with (go_at_call 63; ((with_reducible refine (refShape_is _ _).mono ?_); rintro e w1 ⟨rfl, rfl⟩); rw [HS.out])
      exact bodyPost_ret (v := .tuple #[.agg #[.int .i64 0, .int .i64 0, .int .i64 0, .int .i64 0, .int .i64 0], .int .i64 3]) (by simp [results, Tryz.results32, go_sem]) rfl ⟨rfl, ((Below.refl _ _).alloc (Nat.le_refl _) _).alloc (by simp) _⟩
    · obtain ⟨q0, q1, q2⟩ := dec_bad HO.out (by omega)
      unfold decV
      rw [q0, q1, q2, q2, q2, q2]
      have g0 : (v % 65536 != 0) = false := by simpa using h0
      have g1 : (v / 2097152 % 32 != 0) = true := by simpa using h1
      clear hl0 hf0 hf1 hf2 hf3 q0 q1 q2 h0 h1
      go_enter Tryz.func32, Tryz.ntmps32
      go_wp2_with (go_at_call 63; ((with_reducible refine (refShape_is _ _).mono ?_); rintro e w1 ⟨rfl, rfl⟩); rw [HS.out])
      exact bodyPost_ret (v := .tuple #[.agg #[.int .i64 0, .int .i64 0, .int .i64 0, .int .i64 0, .int .i64 0], .int .i64 3]) (by simp [results, Tryz.results32, go_sem]) rfl ⟨rfl, ((Below.refl _ _).alloc (Nat.le_refl _) _).alloc (by simp) _⟩
    · obtain ⟨q0, q1, q2⟩ := dec_ok HO.out (by omega)
      unfold decV
      rw [q0, q1, q2, q2, q2, q2, show cF v 0 = 0 by omega, show cF v 1 = v / 65536 % 32 by omega, show cF v 2 = 0 by omega, show cF v 3 = 0 by omega]
      have g0 : (v % 65536 != 0) = false := by simpa using h0
      have g1 : (v / 2097152 % 32 != 0) = false := by simpa using h1
      clear hl0 hf0 hf1 hf2 hf3 q0 q1 q2 h0 h1
      go_enter Tryz.func32, Tryz.ntmps32
      go_wp2_with (go_at_call 63; ((with_reducible refine (refShape_is _ _).mono ?_); rintro e w1 ⟨rfl, rfl⟩); rw [HS.out])
      exact bodyPost_ret (v := .tuple #[.agg #[.int .i64 (v / 67108864), .int .i64 (0), .int .i64 (v / 65536 % 32), .int .i64 (0), .int .i64 (0)], .int .i64 0]) (by simp [results, Tryz.results32, go_sem]; simp only [bne_eq_false_iff_eq] at *; omega) rfl ⟨rfl, ((Below.refl _ _).alloc (Nat.le_refl _) _).alloc (by simp) _⟩
  · rw [r0, r1, r2, r3] at hl0
    rw [r0] at hf0 e0
    rw [r1] at hf1 e1
    rw [r2] at hf2 e2
    rw [r3] at hf3 e3
    simp only [fB_n, fR_n] at hl0 hf0 hf1 hf2 hf3
    obtain rfl := u8_of e0
    obtain rfl := u8_of e1
    obtain rfl := u8_of e2
    obtain rfl := u8_of e3
    clear e0 e1 e2 e3 r0 r1 r2 r3
    have y0 : ((({ data := #[45, 45, 45, 45] } : ByteArray)[0]).toNat : Int) = 45 := rfl
    have y1 : ((({ data := #[45, 45, 45, 45] } : ByteArray)[1]).toNat : Int) = 45 := rfl
    have y2 : ((({ data := #[45, 45, 45, 45] } : ByteArray)[2]).toNat : Int) = 45 := rfl
    have y3 : ((({ data := #[45, 45, 45, 45] } : ByteArray)[3]).toNat : Int) = 45 := rfl
    rcases (show (v % 65536 ≠ 0) ∨ (v % 65536 = 0 ∧ v / 2097152 % 32 ≠ 0) ∨ (v % 65536 = 0 ∧ v / 2097152 % 32 = 0 ∧ v / 65536 % 32 ≠ 0) ∨ (v % 65536 = 0 ∧ v / 2097152 % 32 = 0 ∧ v / 65536 % 32 = 0) by omega) with h0 | ⟨h0, h1⟩ | ⟨h0, h1, h2⟩ | ⟨h0, h1, h2⟩
    · obtain ⟨q0, q1, q2⟩ := dec_bad HO.out (by omega)
      unfold decV
      rw [q0, q1, q2, q2, q2, q2]
      have g0 : (v % 65536 != 0) = true := by simpa using h0
      clear hl0 hf0 hf1 hf2 hf3 q0 q1 q2 h0
      go_enter Tryz.func32, Tryz.ntmps32
      go_wp2_with (go_at_call 63; ((with_reducible refine (refShape_is _ _).mono ?_); rintro e w1 ⟨rfl, rfl⟩); rw [HS.out])
      exact bodyPost_ret (v := .tuple #[.agg #[.int .i64 0, .int .i64 0, .int .i64 0, .int .i64 0, .int .i64 0], .int .i64 3]) (by simp [results, Tryz.results32, go_sem]) rfl ⟨rfl, ((Below.refl _ _).alloc (Nat.le_refl _) _).alloc (by simp) _⟩
    · obtain ⟨q0, q1, q2⟩ := dec_bad HO.out (by omega)
      unfold decV
      rw [q0, q1, q2, q2, q2, q2]
      have g0 : (v % 65536 != 0) = false := by simpa using h0
      have g1 : (v / 2097152 % 32 != 0) = true := by simpa using h1
      clear hl0 hf0 hf1 hf2 hf3 q0 q1 q2 h0 h1
      go_enter Tryz.func32, Tryz.ntmps32
      go_wp2_with (go_at_call 63; ((with_reducible refine (refShape_is _ _).mono ?_); rintro e w1 ⟨rfl, rfl⟩); rw [HS.out])
      exact bodyPost_ret (v := .tuple #[.agg #[.int .i64 0, .int .i64 0, .int .i64 0, .int .i64 0, .int .i64 0], .int .i64 3]) (by simp [results, Tryz.results32, go_sem]) rfl ⟨rfl, ((Below.refl _ _).alloc (Nat.le_refl _) _).alloc (by simp) _⟩
    · obtain ⟨q0, q1, q2⟩ := dec_bad HO.out (by omega)
      unfold decV
      rw [q0, q1, q2, q2, q2, q2]
      have g0 : (v % 65536 != 0) = false := by simpa using h0
      have g1 : (v / 2097152 % 32 != 0) = false := by simpa using h1
      have g2 : (v / 65536 % 32 != 0) = true := by simpa using h2
      clear hl0 hf0 hf1 hf2 hf3 q0 q1 q2 h0 h1 h2
      go_enter Tryz.func32, Tryz.ntmps32
      go_wp2_with (go_at_call 63; ((with_reducible refine (refShape_is _ _).mono ?_); rintro e w1 ⟨rfl, rfl⟩); rw [HS.out])
      exact bodyPost_ret (v := .tuple #[.agg #[.int .i64 0, .int .i64 0, .int .i64 0, .int .i64 0, .int .i64 0], .int .i64 3]) (by simp [results, Tryz.results32, go_sem]) rfl ⟨rfl, ((Below.refl _ _).alloc (Nat.le_refl _) _).alloc (by simp) _⟩
    · obtain ⟨q0, q1, q2⟩ := dec_ok HO.out (by omega)
      unfold decV
      rw [q0, q1, q2, q2, q2, q2, show cF v 0 = 0 by omega, show cF v 1 = 0 by omega, show cF v 2 = 0 by omega, show cF v 3 = 0 by omega]
      have g0 : (v % 65536 != 0) = false := by simpa using h0
      have g1 : (v / 2097152 % 32 != 0) = false := by simpa using h1
      have g2 : (v / 65536 % 32 != 0) = false := by simpa using h2
      clear hl0 hf0 hf1 hf2 hf3 q0 q1 q2 h0 h1 h2
      go_enter Tryz.func32, Tryz.ntmps32
      go_wp2_with (go_at_call 63; ((with_reducible refine (refShape_is _ _).mono ?_); rintro e w1 ⟨rfl, rfl⟩); rw [HS.out])
      exact bodyPost_ret (v := .tuple #[.agg #[.int .i64 (v / 67108864), .int .i64 (0), .int .i64 (0), .int .i64 (0), .int .i64 (0)], .int .i64 0]) (by simp [results, Tryz.results32, go_sem]; simp only [bne_eq_false_iff_eq] at *; omega) rfl ⟨rfl, ((Below.refl _ _).alloc (Nat.le_refl _) _).alloc (by simp) _⟩

end Go.Proofs.YtekhgidbnpfmnaaGreatDoor
