/- What package alu's Do answers. Conditions: the numbers are of the parameters' kinds. -/
import Derived.Test.YtdphiobmjdiefaaAluA
namespace Go.Proofs.Ytdphiobmjdiefaa
open Go.RowKit

theorem nil2 : ∀ w : World, Sem.run Try.prog (binOp BinOp.neq 47 Value.nilFunc Value.nilFunc) w = .ok (.bool false) w := fun _ => by kernel_rfl
theorem nil1 : ∀ w : World, Sem.run Try.prog (binOp BinOp.neq 79 Value.nilFunc Value.nilFunc) w = .ok (.bool false) w := fun _ => by kernel_rfl
theorem fun2 (fn : Fn) : ∀ w : World, Sem.run Try.prog (binOp BinOp.neq 47 (Value.func fn #[] #[]) Value.nilFunc) w = .ok (.bool true) w := fun _ => by kernel_rfl
theorem fun1 (fn : Fn) : ∀ w : World, Sem.run Try.prog (binOp BinOp.neq 79 (Value.func fn #[] #[]) Value.nilFunc) w = .ok (.bool true) w := fun _ => by kernel_rfl

theorem doNone_is (op a b : Int) (w : World) (h : op < 1 ∨ 30 < op) :
    Calls Try.prog 48 #[.int .i64 op, .int .i32 a, .int .i32 b] w fun e w' => e = .returned (.tuple #[.int .i32 0, .bool false]) ∧ w = w' := by
  have E1 := Lib.hid (twoF_out (op := op) (by omega))
  have E2 := Lib.hid (oneF_out (op := op) (by omega))
  have E3 := Lib.hid (show op < 22 ∨ 23 < op ∨ b = 0 by omega)
  clear h
  have z2 := nil2
  have z1 := nil1
  go_enter Try.func48, Try.ntmps48
  go_wp2_with (first
    | (go_at_call 49; refine (ofTwo_is _ _ _ E1.out).mono ?_; rintro e w' ⟨rfl, rfl⟩)
    | (go_at_call 50; refine (ofOne_is _ _ _ E2.out).mono ?_; rintro e w' ⟨rfl, rfl⟩)
    | (go_at_call 51; refine (divided_is _ _ _ _ E3.out).mono ?_; rintro e w' ⟨rfl, rfl⟩))
  go_returns
  exact ⟨rfl, rfl⟩
theorem doDiv0_is (op a : Int) (w : World) (h : op = 22 ∨ op = 23) :
    Calls Try.prog 48 #[.int .i64 op, .int .i32 a, .int .i32 0] w fun e w' => e = .returned (.tuple #[.int .i32 0, .bool false]) ∧ w = w' := by
  have E1 := Lib.hid (twoF_out (op := op) (by omega))
  have E2 := Lib.hid (oneF_out (op := op) (by omega))
  clear h
  have z2 := nil2
  have z1 := nil1
  go_enter Try.func48, Try.ntmps48
  go_wp2_with (first
    | (go_at_call 49; refine (ofTwo_is _ _ _ E1.out).mono ?_; rintro e w' ⟨rfl, rfl⟩)
    | (go_at_call 50; refine (ofOne_is _ _ _ E2.out).mono ?_; rintro e w' ⟨rfl, rfl⟩)
    | (go_at_call 51; refine (divided_is _ _ _ _ (Or.inr (Or.inr rfl))).mono ?_; rintro e w' ⟨rfl, rfl⟩))
  go_returns
  exact ⟨rfl, rfl⟩
theorem doDiv_is (op a b : Int) (w : World) (h : op = 22 ∨ op = 23) (hb : (b == 0) = false) (hn : ¬ b = 0) :
    Calls Try.prog 48 #[.int .i64 op, .int .i32 a, .int .i32 b] w fun e w' => e = .returned (.tuple #[.int .i32 (wTwo op a b), .bool true]) ∧ w = w' := by
  rcases h with rfl | rfl
  · have z2 := nil2
    have z1 := nil1
    go_enter Try.func48, Try.ntmps48
    go_wp2_with (first
      | (go_at_call 49; refine (ofTwo_is 22 .nilFunc _ (twoF_out (by omega))).mono ?_; rintro e w' ⟨rfl, rfl⟩)
      | (go_at_call 50; refine (ofOne_is 22 .nilFunc _ (oneF_out (by omega))).mono ?_; rintro e w' ⟨rfl, rfl⟩)
      | (go_at_call 51; refine (divided_22 _ _ _ hb hn).mono ?_; rintro e w' ⟨rfl, rfl⟩))
    go_returns
    exact ⟨rfl, rfl⟩
  · have z2 := nil2
    have z1 := nil1
    go_enter Try.func48, Try.ntmps48
    go_wp2_with (first
      | (go_at_call 49; refine (ofTwo_is 23 .nilFunc _ (twoF_out (by omega))).mono ?_; rintro e w' ⟨rfl, rfl⟩)
      | (go_at_call 50; refine (ofOne_is 23 .nilFunc _ (oneF_out (by omega))).mono ?_; rintro e w' ⟨rfl, rfl⟩)
      | (go_at_call 51; refine (divided_23 _ _ _ hb hn).mono ?_; rintro e w' ⟨rfl, rfl⟩))
    go_returns
    exact ⟨rfl, rfl⟩
set_option maxHeartbeats 1000000 in
theorem doOne_is (op a b : Int) (w : World) (h1 : 24 ≤ op) (h2 : op ≤ 30) (a1 : -2147483648 ≤ a) (a2 : a ≤ 2147483647) :
    Calls Try.prog 48 #[.int .i64 op, .int .i32 a, .int .i32 b] w fun e w' => e = .returned (.tuple #[.int .i32 (wOne op a), .bool true]) ∧ Below w.heap.size w w' := by
  have hb := Below.refl w.heap.size w
  have hB := Nat.le_refl w.heap.size
  rcases (show op = 24 ∨ op = 25 ∨ op = 26 ∨ op = 27 ∨ op = 28 ∨ op = 29 ∨ op = 30 by omega) with rfl | rfl | rfl | rfl | rfl | rfl | rfl
  all_goals clear h1 h2
  · have z2 := nil2
    have z1 := fun1
    go_enter Try.func48, Try.ntmps48
    go_wp2_with (first
      | (go_at_call 49; refine (ofTwo_is 24 .nilFunc _ (twoF_out (by omega))).mono ?_; rintro e w' ⟨rfl, rfl⟩)
      | (go_at_call 50; refine (ofOne_is 24 (.func (.func 73) #[] #[]) _ rfl).mono ?_; rintro e w' ⟨rfl, rfl⟩)
      | (go_at_call 73; refine (mclz_is _ _).mono ?_; rintro e w' ⟨rfl, rfl⟩))
    go_returns
    exact ⟨rfl, hb⟩
  · have z2 := nil2
    have z1 := fun1
    go_enter Try.func48, Try.ntmps48
    go_wp2_with (first
      | (go_at_call 49; refine (ofTwo_is 25 .nilFunc _ (twoF_out (by omega))).mono ?_; rintro e w' ⟨rfl, rfl⟩)
      | (go_at_call 50; refine (ofOne_is 25 (.func (.func 74) #[] #[]) _ rfl).mono ?_; rintro e w' ⟨rfl, rfl⟩)
      | (go_at_call 74; refine (keep (mneg_is _ _ a1 a2) hb hB).mono ?_; rintro e w' ⟨rfl, hb, hB⟩))
    go_returns
    exact ⟨rfl, hb⟩
  · have z2 := nil2
    have z1 := fun1
    go_enter Try.func48, Try.ntmps48
    go_wp2_with (first
      | (go_at_call 49; refine (ofTwo_is 26 .nilFunc _ (twoF_out (by omega))).mono ?_; rintro e w' ⟨rfl, rfl⟩)
      | (go_at_call 50; refine (ofOne_is 26 (.func (.func 75) #[] #[]) _ rfl).mono ?_; rintro e w' ⟨rfl, rfl⟩)
      | (go_at_call 75; refine (keep (mabs_is _ _ a1 a2) hb hB).mono ?_; rintro e w' ⟨rfl, hb, hB⟩))
    go_returns
    exact ⟨rfl, hb⟩
  · have z2 := nil2
    have z1 := fun1
    go_enter Try.func48, Try.ntmps48
    go_wp2_with (first
      | (go_at_call 49; refine (ofTwo_is 27 .nilFunc _ (twoF_out (by omega))).mono ?_; rintro e w' ⟨rfl, rfl⟩)
      | (go_at_call 50; refine (ofOne_is 27 (.func (.func 76) #[] #[]) _ rfl).mono ?_; rintro e w' ⟨rfl, rfl⟩)
      | (go_at_call 76; refine (mmask_is _ _ a1 a2).mono ?_; rintro e w' ⟨rfl, rfl⟩))
    go_returns
    exact ⟨rfl, hb⟩
  · have z2 := nil2
    have z1 := fun1
    go_enter Try.func48, Try.ntmps48
    go_wp2_with (first
      | (go_at_call 49; refine (ofTwo_is 28 .nilFunc _ (twoF_out (by omega))).mono ?_; rintro e w' ⟨rfl, rfl⟩)
      | (go_at_call 50; refine (ofOne_is 28 (.func (.func 77) #[] #[]) _ rfl).mono ?_; rintro e w' ⟨rfl, rfl⟩)
      | (go_at_call 77; refine (msign_is _ _ a1 a2).mono ?_; rintro e w' ⟨rfl, rfl⟩))
    go_returns
    exact ⟨rfl, hb⟩
  · have z2 := nil2
    have z1 := fun1
    go_enter Try.func48, Try.ntmps48
    go_wp2_with (first
      | (go_at_call 49; refine (ofTwo_is 29 .nilFunc _ (twoF_out (by omega))).mono ?_; rintro e w' ⟨rfl, rfl⟩)
      | (go_at_call 50; refine (ofOne_is 29 (.func (.func 78) #[] #[]) _ rfl).mono ?_; rintro e w' ⟨rfl, rfl⟩)
      | (go_at_call 78; refine (mhalf_is _ _).mono ?_; rintro e w' ⟨rfl, rfl⟩))
    go_returns
    exact ⟨rfl, hb⟩
  · have z2 := nil2
    have z1 := fun1
    go_enter Try.func48, Try.ntmps48
    go_wp2_with (first
      | (go_at_call 49; refine (ofTwo_is 30 .nilFunc _ (twoF_out (by omega))).mono ?_; rintro e w' ⟨rfl, rfl⟩)
      | (go_at_call 50; refine (ofOne_is 30 (.func (.func 79) #[] #[]) _ rfl).mono ?_; rintro e w' ⟨rfl, rfl⟩)
      | (go_at_call 79; refine (mhigh_is _ _).mono ?_; rintro e w' ⟨rfl, rfl⟩))
    go_returns
    exact ⟨rfl, hb.alloc hB _⟩

set_option maxHeartbeats 1000000 in
theorem doTwo_is (op a b : Int) (w : World) (h1 : 1 ≤ op) (h2 : op ≤ 21) (a1 : -2147483648 ≤ a) (a2 : a ≤ 2147483647) (b1 : -2147483648 ≤ b) (b2 : b ≤ 2147483647) :
    Calls Try.prog 48 #[.int .i64 op, .int .i32 a, .int .i32 b] w fun e w' => e = .returned (.tuple #[.int .i32 (wTwo op a b), .bool true]) ∧ Below w.heap.size w w' := by
  have hb := Below.refl w.heap.size w
  have hB := Nat.le_refl w.heap.size
  rcases (show op = 1 ∨ op = 2 ∨ op = 3 ∨ op = 4 ∨ op = 5 ∨ op = 6 ∨ op = 7 ∨ op = 8 ∨ op = 9 ∨ op = 10 ∨ op = 11 ∨ op = 12 ∨ op = 13 ∨ op = 14 ∨ op = 15 ∨ op = 16 ∨ op = 17 ∨ op = 18 ∨ op = 19 ∨ op = 20 ∨ op = 21 by omega) with rfl | rfl | rfl | rfl | rfl | rfl | rfl | rfl | rfl | rfl | rfl | rfl | rfl | rfl | rfl | rfl | rfl | rfl | rfl | rfl | rfl
  all_goals clear h1 h2
  · have z2 := fun2
    go_enter Try.func48, Try.ntmps48
    go_wp2_with (first
      | (go_at_call 49; refine (ofTwo_is 1 (.func (.func 52) #[] #[]) _ rfl).mono ?_; rintro e w' ⟨rfl, rfl⟩)
      | (go_at_call 52; refine (aadd_is _ _ _).mono ?_; rintro e w' ⟨rfl, rfl⟩))
    go_returns
    exact ⟨rfl, hb⟩
  · have z2 := fun2
    go_enter Try.func48, Try.ntmps48
    go_wp2_with (first
      | (go_at_call 49; refine (ofTwo_is 2 (.func (.func 53) #[] #[]) _ rfl).mono ?_; rintro e w' ⟨rfl, rfl⟩)
      | (go_at_call 53; refine (asub_is _ _ _).mono ?_; rintro e w' ⟨rfl, rfl⟩))
    go_returns
    exact ⟨rfl, hb⟩
  · have z2 := fun2
    go_enter Try.func48, Try.ntmps48
    go_wp2_with (first
      | (go_at_call 49; refine (ofTwo_is 3 (.func (.func 54) #[] #[]) _ rfl).mono ?_; rintro e w' ⟨rfl, rfl⟩)
      | (go_at_call 54; refine (keep (add_is _ _ _ a1 a2 b1 b2) hb hB).mono ?_; rintro e w' ⟨rfl, hb, hB⟩))
    go_returns
    exact ⟨rfl, hb⟩
  · have z2 := fun2
    go_enter Try.func48, Try.ntmps48
    go_wp2_with (first
      | (go_at_call 49; refine (ofTwo_is 4 (.func (.func 55) #[] #[]) _ rfl).mono ?_; rintro e w' ⟨rfl, rfl⟩)
      | (go_at_call 55; refine (keep (sub_is _ _ _ a1 a2 b1 b2) hb hB).mono ?_; rintro e w' ⟨rfl, hb, hB⟩))
    go_returns
    exact ⟨rfl, hb⟩
  · have z2 := fun2
    go_enter Try.func48, Try.ntmps48
    go_wp2_with (first
      | (go_at_call 49; refine (ofTwo_is 5 (.func (.func 56) #[] #[]) _ rfl).mono ?_; rintro e w' ⟨rfl, rfl⟩)
      | (go_at_call 56; refine (aand_is _ _ _).mono ?_; rintro e w' ⟨rfl, rfl⟩))
    go_returns
    exact ⟨rfl, hb⟩
  · have z2 := fun2
    go_enter Try.func48, Try.ntmps48
    go_wp2_with (first
      | (go_at_call 49; refine (ofTwo_is 6 (.func (.func 57) #[] #[]) _ rfl).mono ?_; rintro e w' ⟨rfl, rfl⟩)
      | (go_at_call 57; refine (aor_is _ _ _).mono ?_; rintro e w' ⟨rfl, rfl⟩))
    go_returns
    exact ⟨rfl, hb⟩
  · have z2 := fun2
    go_enter Try.func48, Try.ntmps48
    go_wp2_with (first
      | (go_at_call 49; refine (ofTwo_is 7 (.func (.func 58) #[] #[]) _ rfl).mono ?_; rintro e w' ⟨rfl, rfl⟩)
      | (go_at_call 58; refine (axor_is _ _ _).mono ?_; rintro e w' ⟨rfl, rfl⟩))
    go_returns
    exact ⟨rfl, hb⟩
  · have z2 := fun2
    go_enter Try.func48, Try.ntmps48
    go_wp2_with (first
      | (go_at_call 49; refine (ofTwo_is 8 (.func (.func 59) #[] #[]) _ rfl).mono ?_; rintro e w' ⟨rfl, rfl⟩)
      | (go_at_call 59; refine (abic_is _ _ _).mono ?_; rintro e w' ⟨rfl, rfl⟩))
    go_returns
    exact ⟨rfl, hb⟩
  · have z2 := fun2
    go_enter Try.func48, Try.ntmps48
    go_wp2_with (first
      | (go_at_call 49; refine (ofTwo_is 9 (.func (.func 60) #[] #[]) _ rfl).mono ?_; rintro e w' ⟨rfl, rfl⟩)
      | (go_at_call 60; refine (shl_is _ _ _).mono ?_; rintro e w' ⟨rfl, rfl⟩))
    go_returns
    exact ⟨rfl, hb⟩
  · have z2 := fun2
    go_enter Try.func48, Try.ntmps48
    go_wp2_with (first
      | (go_at_call 49; refine (ofTwo_is 10 (.func (.func 61) #[] #[]) _ rfl).mono ?_; rintro e w' ⟨rfl, rfl⟩)
      | (go_at_call 61; refine (shr_is _ _ _).mono ?_; rintro e w' ⟨rfl, rfl⟩))
    go_returns
    exact ⟨rfl, hb⟩
  · have z2 := fun2
    go_enter Try.func48, Try.ntmps48
    go_wp2_with (first
      | (go_at_call 49; refine (ofTwo_is 11 (.func (.func 62) #[] #[]) _ rfl).mono ?_; rintro e w' ⟨rfl, rfl⟩)
      | (go_at_call 62; refine (sar_is _ _ _).mono ?_; rintro e w' ⟨rfl, rfl⟩))
    go_returns
    exact ⟨rfl, hb.alloc hB _⟩
  · have z2 := fun2
    go_enter Try.func48, Try.ntmps48
    go_wp2_with (first
      | (go_at_call 49; refine (ofTwo_is 12 (.func (.func 63) #[] #[]) _ rfl).mono ?_; rintro e w' ⟨rfl, rfl⟩)
      | (go_at_call 63; refine (rol_is _ _ _).mono ?_; rintro e w' ⟨rfl, rfl⟩))
    go_returns
    exact ⟨rfl, hb⟩
  · have z2 := fun2
    go_enter Try.func48, Try.ntmps48
    go_wp2_with (first
      | (go_at_call 49; refine (ofTwo_is 13 (.func (.func 64) #[] #[]) _ rfl).mono ?_; rintro e w' ⟨rfl, rfl⟩)
      | (go_at_call 64; refine (less_is _ _ _ a1 a2 b1 b2).mono ?_; rintro e w' ⟨rfl, rfl⟩))
    go_returns
    exact ⟨rfl, hb.alloc hB _⟩
  · have z2 := fun2
    go_enter Try.func48, Try.ntmps48
    go_wp2_with (first
      | (go_at_call 49; refine (ofTwo_is 14 (.func (.func 65) #[] #[]) _ rfl).mono ?_; rintro e w' ⟨rfl, rfl⟩)
      | (go_at_call 65; refine (under_is _ _ _).mono ?_; rintro e w' ⟨rfl, rfl⟩))
    go_returns
    exact ⟨rfl, hb.alloc hB _⟩
  · have z2 := fun2
    go_enter Try.func48, Try.ntmps48
    go_wp2_with (first
      | (go_at_call 49; refine (ofTwo_is 15 (.func (.func 66) #[] #[]) _ rfl).mono ?_; rintro e w' ⟨rfl, rfl⟩)
      | (go_at_call 66; refine (same_is _ _ _ a1 a2 b1 b2).mono ?_; rintro e w' ⟨rfl, rfl⟩))
    go_returns
    exact ⟨rfl, hb.alloc hB _⟩
  · have z2 := fun2
    go_enter Try.func48, Try.ntmps48
    go_wp2_with (first
      | (go_at_call 49; refine (ofTwo_is 16 (.func (.func 67) #[] #[]) _ rfl).mono ?_; rintro e w' ⟨rfl, rfl⟩)
      | (go_at_call 67; refine (min_is _ _ _ a1 a2 b1 b2).mono ?_; rintro e w' ⟨rfl, rfl⟩))
    go_returns
    exact ⟨rfl, hb.alloc hB _⟩
  · have z2 := fun2
    go_enter Try.func48, Try.ntmps48
    go_wp2_with (first
      | (go_at_call 49; refine (ofTwo_is 17 (.func (.func 68) #[] #[]) _ rfl).mono ?_; rintro e w' ⟨rfl, rfl⟩)
      | (go_at_call 68; refine (max_is _ _ _ a1 a2 b1 b2).mono ?_; rintro e w' ⟨rfl, rfl⟩))
    go_returns
    exact ⟨rfl, hb.alloc hB _⟩
  · have z2 := fun2
    go_enter Try.func48, Try.ntmps48
    go_wp2_with (first
      | (go_at_call 49; refine (ofTwo_is 18 (.func (.func 69) #[] #[]) _ rfl).mono ?_; rintro e w' ⟨rfl, rfl⟩)
      | (go_at_call 69; refine (keep (mull_is _ _ _ a1 a2 b1 b2) hb hB).mono ?_; rintro e w' ⟨rfl, hb, hB⟩))
    go_returns
    exact ⟨rfl, hb⟩
  · have z2 := fun2
    go_enter Try.func48, Try.ntmps48
    go_wp2_with (first
      | (go_at_call 49; refine (ofTwo_is 19 (.func (.func 70) #[] #[]) _ rfl).mono ?_; rintro e w' ⟨rfl, rfl⟩)
      | (go_at_call 70; refine (keep (mulh_is _ _ _ a1 a2 b1 b2) hb hB).mono ?_; rintro e w' ⟨rfl, hb, hB⟩))
    go_returns
    exact ⟨rfl, hb⟩
  · have z2 := fun2
    go_enter Try.func48, Try.ntmps48
    go_wp2_with (first
      | (go_at_call 49; refine (ofTwo_is 20 (.func (.func 71) #[] #[]) _ rfl).mono ?_; rintro e w' ⟨rfl, rfl⟩)
      | (go_at_call 71; refine (keep (mulq_is _ _ _ a1 a2 b1 b2) hb hB).mono ?_; rintro e w' ⟨rfl, hb, hB⟩))
    go_returns
    exact ⟨rfl, hb⟩
  · have z2 := fun2
    go_enter Try.func48, Try.ntmps48
    go_wp2_with (first
      | (go_at_call 49; refine (ofTwo_is 21 (.func (.func 72) #[] #[]) _ rfl).mono ?_; rintro e w' ⟨rfl, rfl⟩)
      | (go_at_call 72; refine (keep (mulr_is _ _ _ a1 a2 b1 b2) hb hB).mono ?_; rintro e w' ⟨rfl, hb, hB⟩))
    go_returns
    exact ⟨rfl, hb⟩

theorem do_is (op a b : Int) (w : World) (a1 : -2147483648 ≤ a) (a2 : a ≤ 2147483647) (b1 : -2147483648 ≤ b) (b2 : b ≤ 2147483647) :
    Calls Try.prog 48 #[.int .i64 op, .int .i32 a, .int .i32 b] w fun e w' => e = .returned (.tuple #[.int .i32 (wDo op a b), .bool (wDoes op b)]) ∧ Below w.heap.size w w' := by
  by_cases h0 : op < 1 ∨ 30 < op
  · rw [wDo_none (wDoes_out h0), wDoes_out h0]
    exact (doNone_is op a b w h0).mono fun e w' ⟨he, hw⟩ => ⟨he, hw ▸ Below.refl _ _⟩
  by_cases h1 : op ≤ 21
  · have hd := wDoes_in (op := op) (b := b) (by omega) (by omega) (by omega) (by omega)
    rw [wDo_two hd (by omega), hd]
    exact doTwo_is op a b w (by omega) h1 a1 a2 b1 b2
  by_cases h2 : 24 ≤ op
  · have hd := wDoes_in (op := op) (b := b) (by omega) (by omega) (by omega) (by omega)
    rw [wDo_one hd (by omega), hd]
    exact doOne_is op a b w h2 (by omega) a1 a2
  have h3 : op = 22 ∨ op = 23 := by omega
  by_cases hz : b = 0
  · subst hz
    rw [wDo_none (wDoes_0 h3), wDoes_0 h3]
    exact (doDiv0_is op a w h3).mono fun e w' ⟨he, hw⟩ => ⟨he, hw ▸ Below.refl _ _⟩
  · have hd := wDoes_div h3 hz
    rw [wDo_two hd (by omega), hd]
    exact (doDiv_is op a b w h3 (by simpa using hz) hz).mono fun e w' ⟨he, hw⟩ => ⟨he, hw ▸ Below.refl _ _⟩
end Go.Proofs.Ytdphiobmjdiefaa
