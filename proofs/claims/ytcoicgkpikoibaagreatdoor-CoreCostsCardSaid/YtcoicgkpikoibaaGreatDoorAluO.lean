/- What package alu's Do answers. Conditions: the numbers are of the parameters' kinds. -/
import Derived.Test.YtcoicgkpikoibaaGreatDoorAluA
namespace Go.Proofs.YtcoicgkpikoibaaGreatDoor
open Go.RowKit

theorem nil2 : ∀ w : World, Sem.run Tryz.prog (binOp BinOp.neq 112 Value.nilFunc Value.nilFunc) w = .ok (.bool false) w := fun _ => by kernel_rfl
theorem nil1 : ∀ w : World, Sem.run Tryz.prog (binOp BinOp.neq 135 Value.nilFunc Value.nilFunc) w = .ok (.bool false) w := fun _ => by kernel_rfl
theorem fun2 (fn : Fn) : ∀ w : World, Sem.run Tryz.prog (binOp BinOp.neq 112 (Value.func fn #[] #[]) Value.nilFunc) w = .ok (.bool true) w := fun _ => by kernel_rfl
theorem fun1 (fn : Fn) : ∀ w : World, Sem.run Tryz.prog (binOp BinOp.neq 135 (Value.func fn #[] #[]) Value.nilFunc) w = .ok (.bool true) w := fun _ => by kernel_rfl

theorem doNone_is (op a b : Int) (w : World) (h : op < 1 ∨ 30 < op) :
    Calls Tryz.prog 104 #[.int .i64 op, .int .i32 a, .int .i32 b] w fun e w' => e = .returned (.tuple #[.int .i32 0, .bool false]) ∧ w = w' := by
  have E1 := Lib.hid (twoF_out (op := op) (by omega))
  have E2 := Lib.hid (oneF_out (op := op) (by omega))
  have E3 := Lib.hid (show op < 22 ∨ 23 < op ∨ b = 0 by omega)
  clear h
  have z2 := nil2
  have z1 := nil1
  go_enter Tryz.func104, Tryz.ntmps104
  go_wp2_with (first
    | (go_at_call 117; refine (ofTwo_is _ _ _ E1.out).mono ?_; rintro e w' ⟨rfl, rfl⟩)
    | (go_at_call 118; refine (ofOne_is _ _ _ E2.out).mono ?_; rintro e w' ⟨rfl, rfl⟩)
    | (go_at_call 119; refine (divided_is _ _ _ _ E3.out).mono ?_; rintro e w' ⟨rfl, rfl⟩))
  go_returns
  exact ⟨rfl, rfl⟩
theorem doDiv0_is (op a : Int) (w : World) (h : op = 22 ∨ op = 23) :
    Calls Tryz.prog 104 #[.int .i64 op, .int .i32 a, .int .i32 0] w fun e w' => e = .returned (.tuple #[.int .i32 0, .bool false]) ∧ w = w' := by
  have E1 := Lib.hid (twoF_out (op := op) (by omega))
  have E2 := Lib.hid (oneF_out (op := op) (by omega))
  clear h
  have z2 := nil2
  have z1 := nil1
  go_enter Tryz.func104, Tryz.ntmps104
  go_wp2_with (first
    | (go_at_call 117; refine (ofTwo_is _ _ _ E1.out).mono ?_; rintro e w' ⟨rfl, rfl⟩)
    | (go_at_call 118; refine (ofOne_is _ _ _ E2.out).mono ?_; rintro e w' ⟨rfl, rfl⟩)
    | (go_at_call 119; refine (divided_is _ _ _ _ (Or.inr (Or.inr rfl))).mono ?_; rintro e w' ⟨rfl, rfl⟩))
  go_returns
  exact ⟨rfl, rfl⟩
theorem doDiv_is (op a b : Int) (w : World) (h : op = 22 ∨ op = 23) (hb : (b == 0) = false) (hn : ¬ b = 0) :
    Calls Tryz.prog 104 #[.int .i64 op, .int .i32 a, .int .i32 b] w fun e w' => e = .returned (.tuple #[.int .i32 (wTwo op a b), .bool true]) ∧ w = w' := by
  rcases h with rfl | rfl
  · have z2 := nil2
    have z1 := nil1
    go_enter Tryz.func104, Tryz.ntmps104
    go_wp2_with (first
      | (go_at_call 117; refine (ofTwo_is 22 .nilFunc _ (twoF_out (by omega))).mono ?_; rintro e w' ⟨rfl, rfl⟩)
      | (go_at_call 118; refine (ofOne_is 22 .nilFunc _ (oneF_out (by omega))).mono ?_; rintro e w' ⟨rfl, rfl⟩)
      | (go_at_call 119; refine (divided_22 _ _ _ hb hn).mono ?_; rintro e w' ⟨rfl, rfl⟩))
    go_returns
    exact ⟨rfl, rfl⟩
  · have z2 := nil2
    have z1 := nil1
    go_enter Tryz.func104, Tryz.ntmps104
    go_wp2_with (first
      | (go_at_call 117; refine (ofTwo_is 23 .nilFunc _ (twoF_out (by omega))).mono ?_; rintro e w' ⟨rfl, rfl⟩)
      | (go_at_call 118; refine (ofOne_is 23 .nilFunc _ (oneF_out (by omega))).mono ?_; rintro e w' ⟨rfl, rfl⟩)
      | (go_at_call 119; refine (divided_23 _ _ _ hb hn).mono ?_; rintro e w' ⟨rfl, rfl⟩))
    go_returns
    exact ⟨rfl, rfl⟩
set_option maxHeartbeats 1000000 in
theorem doOne_is (op a b : Int) (w : World) (h1 : 24 ≤ op) (h2 : op ≤ 30) (a1 : -2147483648 ≤ a) (a2 : a ≤ 2147483647) :
    Calls Tryz.prog 104 #[.int .i64 op, .int .i32 a, .int .i32 b] w fun e w' => e = .returned (.tuple #[.int .i32 (wOne op a), .bool true]) ∧ Below w.heap.size w w' := by
  have hb := Below.refl w.heap.size w
  have hB := Nat.le_refl w.heap.size
  rcases (show op = 24 ∨ op = 25 ∨ op = 26 ∨ op = 27 ∨ op = 28 ∨ op = 29 ∨ op = 30 by omega) with rfl | rfl | rfl | rfl | rfl | rfl | rfl
  all_goals clear h1 h2
  · have z2 := nil2
    have z1 := fun1
    go_enter Tryz.func104, Tryz.ntmps104
    go_wp2_with (first
      | (go_at_call 117; refine (ofTwo_is 24 .nilFunc _ (twoF_out (by omega))).mono ?_; rintro e w' ⟨rfl, rfl⟩)
      | (go_at_call 118; refine (ofOne_is 24 (.func (.func 143) #[] #[]) _ rfl).mono ?_; rintro e w' ⟨rfl, rfl⟩)
      | (go_at_call 143; refine (mclz_is _ _).mono ?_; rintro e w' ⟨rfl, rfl⟩))
    go_returns
    exact ⟨rfl, hb⟩
  · have z2 := nil2
    have z1 := fun1
    go_enter Tryz.func104, Tryz.ntmps104
    go_wp2_with (first
      | (go_at_call 117; refine (ofTwo_is 25 .nilFunc _ (twoF_out (by omega))).mono ?_; rintro e w' ⟨rfl, rfl⟩)
      | (go_at_call 118; refine (ofOne_is 25 (.func (.func 144) #[] #[]) _ rfl).mono ?_; rintro e w' ⟨rfl, rfl⟩)
      | (go_at_call 144; refine (keep (mneg_is _ _ a1 a2) hb hB).mono ?_; rintro e w' ⟨rfl, hb, hB⟩))
    go_returns
    exact ⟨rfl, hb⟩
  · have z2 := nil2
    have z1 := fun1
    go_enter Tryz.func104, Tryz.ntmps104
    go_wp2_with (first
      | (go_at_call 117; refine (ofTwo_is 26 .nilFunc _ (twoF_out (by omega))).mono ?_; rintro e w' ⟨rfl, rfl⟩)
      | (go_at_call 118; refine (ofOne_is 26 (.func (.func 145) #[] #[]) _ rfl).mono ?_; rintro e w' ⟨rfl, rfl⟩)
      | (go_at_call 145; refine (keep (mabs_is _ _ a1 a2) hb hB).mono ?_; rintro e w' ⟨rfl, hb, hB⟩))
    go_returns
    exact ⟨rfl, hb⟩
  · have z2 := nil2
    have z1 := fun1
    go_enter Tryz.func104, Tryz.ntmps104
    go_wp2_with (first
      | (go_at_call 117; refine (ofTwo_is 27 .nilFunc _ (twoF_out (by omega))).mono ?_; rintro e w' ⟨rfl, rfl⟩)
      | (go_at_call 118; refine (ofOne_is 27 (.func (.func 146) #[] #[]) _ rfl).mono ?_; rintro e w' ⟨rfl, rfl⟩)
      | (go_at_call 146; refine (mmask_is _ _ a1 a2).mono ?_; rintro e w' ⟨rfl, rfl⟩))
    go_returns
    exact ⟨rfl, hb⟩
  · have z2 := nil2
    have z1 := fun1
    go_enter Tryz.func104, Tryz.ntmps104
    go_wp2_with (first
      | (go_at_call 117; refine (ofTwo_is 28 .nilFunc _ (twoF_out (by omega))).mono ?_; rintro e w' ⟨rfl, rfl⟩)
      | (go_at_call 118; refine (ofOne_is 28 (.func (.func 115) #[] #[]) _ rfl).mono ?_; rintro e w' ⟨rfl, rfl⟩)
      | (go_at_call 115; refine (msign_is _ _ a1 a2).mono ?_; rintro e w' ⟨rfl, rfl⟩))
    go_returns
    exact ⟨rfl, hb⟩
  · have z2 := nil2
    have z1 := fun1
    go_enter Tryz.func104, Tryz.ntmps104
    go_wp2_with (first
      | (go_at_call 117; refine (ofTwo_is 29 .nilFunc _ (twoF_out (by omega))).mono ?_; rintro e w' ⟨rfl, rfl⟩)
      | (go_at_call 118; refine (ofOne_is 29 (.func (.func 147) #[] #[]) _ rfl).mono ?_; rintro e w' ⟨rfl, rfl⟩)
      | (go_at_call 147; refine (mhalf_is _ _).mono ?_; rintro e w' ⟨rfl, rfl⟩))
    go_returns
    exact ⟨rfl, hb⟩
  · have z2 := nil2
    have z1 := fun1
    go_enter Tryz.func104, Tryz.ntmps104
    go_wp2_with (first
      | (go_at_call 117; refine (ofTwo_is 30 .nilFunc _ (twoF_out (by omega))).mono ?_; rintro e w' ⟨rfl, rfl⟩)
      | (go_at_call 118; refine (ofOne_is 30 (.func (.func 148) #[] #[]) _ rfl).mono ?_; rintro e w' ⟨rfl, rfl⟩)
      | (go_at_call 148; refine (mhigh_is _ _).mono ?_; rintro e w' ⟨rfl, rfl⟩))
    go_returns
    exact ⟨rfl, hb.alloc hB _⟩

set_option maxHeartbeats 1000000 in
theorem doTwo_is (op a b : Int) (w : World) (h1 : 1 ≤ op) (h2 : op ≤ 21) (a1 : -2147483648 ≤ a) (a2 : a ≤ 2147483647) (b1 : -2147483648 ≤ b) (b2 : b ≤ 2147483647) :
    Calls Tryz.prog 104 #[.int .i64 op, .int .i32 a, .int .i32 b] w fun e w' => e = .returned (.tuple #[.int .i32 (wTwo op a b), .bool true]) ∧ Below w.heap.size w w' := by
  have hb := Below.refl w.heap.size w
  have hB := Nat.le_refl w.heap.size
  rcases (show op = 1 ∨ op = 2 ∨ op = 3 ∨ op = 4 ∨ op = 5 ∨ op = 6 ∨ op = 7 ∨ op = 8 ∨ op = 9 ∨ op = 10 ∨ op = 11 ∨ op = 12 ∨ op = 13 ∨ op = 14 ∨ op = 15 ∨ op = 16 ∨ op = 17 ∨ op = 18 ∨ op = 19 ∨ op = 20 ∨ op = 21 by omega) with rfl | rfl | rfl | rfl | rfl | rfl | rfl | rfl | rfl | rfl | rfl | rfl | rfl | rfl | rfl | rfl | rfl | rfl | rfl | rfl | rfl
  all_goals clear h1 h2
  · have z2 := fun2
    go_enter Tryz.func104, Tryz.ntmps104
    go_wp2_with (first
      | (go_at_call 117; refine (ofTwo_is 1 (.func (.func 122) #[] #[]) _ rfl).mono ?_; rintro e w' ⟨rfl, rfl⟩)
      | (go_at_call 122; refine (aadd_is _ _ _).mono ?_; rintro e w' ⟨rfl, rfl⟩))
    go_returns
    exact ⟨rfl, hb⟩
  · have z2 := fun2
    go_enter Tryz.func104, Tryz.ntmps104
    go_wp2_with (first
      | (go_at_call 117; refine (ofTwo_is 2 (.func (.func 123) #[] #[]) _ rfl).mono ?_; rintro e w' ⟨rfl, rfl⟩)
      | (go_at_call 123; refine (asub_is _ _ _).mono ?_; rintro e w' ⟨rfl, rfl⟩))
    go_returns
    exact ⟨rfl, hb⟩
  · have z2 := fun2
    go_enter Tryz.func104, Tryz.ntmps104
    go_wp2_with (first
      | (go_at_call 117; refine (ofTwo_is 3 (.func (.func 124) #[] #[]) _ rfl).mono ?_; rintro e w' ⟨rfl, rfl⟩)
      | (go_at_call 124; refine (keep (add_is _ _ _ a1 a2 b1 b2) hb hB).mono ?_; rintro e w' ⟨rfl, hb, hB⟩))
    go_returns
    exact ⟨rfl, hb⟩
  · have z2 := fun2
    go_enter Tryz.func104, Tryz.ntmps104
    go_wp2_with (first
      | (go_at_call 117; refine (ofTwo_is 4 (.func (.func 125) #[] #[]) _ rfl).mono ?_; rintro e w' ⟨rfl, rfl⟩)
      | (go_at_call 125; refine (keep (sub_is _ _ _ a1 a2 b1 b2) hb hB).mono ?_; rintro e w' ⟨rfl, hb, hB⟩))
    go_returns
    exact ⟨rfl, hb⟩
  · have z2 := fun2
    go_enter Tryz.func104, Tryz.ntmps104
    go_wp2_with (first
      | (go_at_call 117; refine (ofTwo_is 5 (.func (.func 126) #[] #[]) _ rfl).mono ?_; rintro e w' ⟨rfl, rfl⟩)
      | (go_at_call 126; refine (aand_is _ _ _).mono ?_; rintro e w' ⟨rfl, rfl⟩))
    go_returns
    exact ⟨rfl, hb⟩
  · have z2 := fun2
    go_enter Tryz.func104, Tryz.ntmps104
    go_wp2_with (first
      | (go_at_call 117; refine (ofTwo_is 6 (.func (.func 127) #[] #[]) _ rfl).mono ?_; rintro e w' ⟨rfl, rfl⟩)
      | (go_at_call 127; refine (aor_is _ _ _).mono ?_; rintro e w' ⟨rfl, rfl⟩))
    go_returns
    exact ⟨rfl, hb⟩
  · have z2 := fun2
    go_enter Tryz.func104, Tryz.ntmps104
    go_wp2_with (first
      | (go_at_call 117; refine (ofTwo_is 7 (.func (.func 128) #[] #[]) _ rfl).mono ?_; rintro e w' ⟨rfl, rfl⟩)
      | (go_at_call 128; refine (axor_is _ _ _).mono ?_; rintro e w' ⟨rfl, rfl⟩))
    go_returns
    exact ⟨rfl, hb⟩
  · have z2 := fun2
    go_enter Tryz.func104, Tryz.ntmps104
    go_wp2_with (first
      | (go_at_call 117; refine (ofTwo_is 8 (.func (.func 129) #[] #[]) _ rfl).mono ?_; rintro e w' ⟨rfl, rfl⟩)
      | (go_at_call 129; refine (abic_is _ _ _).mono ?_; rintro e w' ⟨rfl, rfl⟩))
    go_returns
    exact ⟨rfl, hb⟩
  · have z2 := fun2
    go_enter Tryz.func104, Tryz.ntmps104
    go_wp2_with (first
      | (go_at_call 117; refine (ofTwo_is 9 (.func (.func 130) #[] #[]) _ rfl).mono ?_; rintro e w' ⟨rfl, rfl⟩)
      | (go_at_call 130; refine (shl_is _ _ _).mono ?_; rintro e w' ⟨rfl, rfl⟩))
    go_returns
    exact ⟨rfl, hb⟩
  · have z2 := fun2
    go_enter Tryz.func104, Tryz.ntmps104
    go_wp2_with (first
      | (go_at_call 117; refine (ofTwo_is 10 (.func (.func 131) #[] #[]) _ rfl).mono ?_; rintro e w' ⟨rfl, rfl⟩)
      | (go_at_call 131; refine (shr_is _ _ _).mono ?_; rintro e w' ⟨rfl, rfl⟩))
    go_returns
    exact ⟨rfl, hb⟩
  · have z2 := fun2
    go_enter Tryz.func104, Tryz.ntmps104
    go_wp2_with (first
      | (go_at_call 117; refine (ofTwo_is 11 (.func (.func 132) #[] #[]) _ rfl).mono ?_; rintro e w' ⟨rfl, rfl⟩)
      | (go_at_call 132; refine (sar_is _ _ _).mono ?_; rintro e w' ⟨rfl, rfl⟩))
    go_returns
    exact ⟨rfl, hb.alloc hB _⟩
  · have z2 := fun2
    go_enter Tryz.func104, Tryz.ntmps104
    go_wp2_with (first
      | (go_at_call 117; refine (ofTwo_is 12 (.func (.func 133) #[] #[]) _ rfl).mono ?_; rintro e w' ⟨rfl, rfl⟩)
      | (go_at_call 133; refine (rol_is _ _ _).mono ?_; rintro e w' ⟨rfl, rfl⟩))
    go_returns
    exact ⟨rfl, hb⟩
  · have z2 := fun2
    go_enter Tryz.func104, Tryz.ntmps104
    go_wp2_with (first
      | (go_at_call 117; refine (ofTwo_is 13 (.func (.func 134) #[] #[]) _ rfl).mono ?_; rintro e w' ⟨rfl, rfl⟩)
      | (go_at_call 134; refine (less_is _ _ _ a1 a2 b1 b2).mono ?_; rintro e w' ⟨rfl, rfl⟩))
    go_returns
    exact ⟨rfl, hb.alloc hB _⟩
  · have z2 := fun2
    go_enter Tryz.func104, Tryz.ntmps104
    go_wp2_with (first
      | (go_at_call 117; refine (ofTwo_is 14 (.func (.func 135) #[] #[]) _ rfl).mono ?_; rintro e w' ⟨rfl, rfl⟩)
      | (go_at_call 135; refine (under_is _ _ _).mono ?_; rintro e w' ⟨rfl, rfl⟩))
    go_returns
    exact ⟨rfl, hb.alloc hB _⟩
  · have z2 := fun2
    go_enter Tryz.func104, Tryz.ntmps104
    go_wp2_with (first
      | (go_at_call 117; refine (ofTwo_is 15 (.func (.func 136) #[] #[]) _ rfl).mono ?_; rintro e w' ⟨rfl, rfl⟩)
      | (go_at_call 136; refine (same_is _ _ _ a1 a2 b1 b2).mono ?_; rintro e w' ⟨rfl, rfl⟩))
    go_returns
    exact ⟨rfl, hb.alloc hB _⟩
  · have z2 := fun2
    go_enter Tryz.func104, Tryz.ntmps104
    go_wp2_with (first
      | (go_at_call 117; refine (ofTwo_is 16 (.func (.func 137) #[] #[]) _ rfl).mono ?_; rintro e w' ⟨rfl, rfl⟩)
      | (go_at_call 137; refine (min_is _ _ _ a1 a2 b1 b2).mono ?_; rintro e w' ⟨rfl, rfl⟩))
    go_returns
    exact ⟨rfl, hb.alloc hB _⟩
  · have z2 := fun2
    go_enter Tryz.func104, Tryz.ntmps104
    go_wp2_with (first
      | (go_at_call 117; refine (ofTwo_is 17 (.func (.func 138) #[] #[]) _ rfl).mono ?_; rintro e w' ⟨rfl, rfl⟩)
      | (go_at_call 138; refine (max_is _ _ _ a1 a2 b1 b2).mono ?_; rintro e w' ⟨rfl, rfl⟩))
    go_returns
    exact ⟨rfl, hb.alloc hB _⟩
  · have z2 := fun2
    go_enter Tryz.func104, Tryz.ntmps104
    go_wp2_with (first
      | (go_at_call 117; refine (ofTwo_is 18 (.func (.func 139) #[] #[]) _ rfl).mono ?_; rintro e w' ⟨rfl, rfl⟩)
      | (go_at_call 139; refine (keep (mull_is _ _ _ a1 a2 b1 b2) hb hB).mono ?_; rintro e w' ⟨rfl, hb, hB⟩))
    go_returns
    exact ⟨rfl, hb⟩
  · have z2 := fun2
    go_enter Tryz.func104, Tryz.ntmps104
    go_wp2_with (first
      | (go_at_call 117; refine (ofTwo_is 19 (.func (.func 140) #[] #[]) _ rfl).mono ?_; rintro e w' ⟨rfl, rfl⟩)
      | (go_at_call 140; refine (keep (mulh_is _ _ _ a1 a2 b1 b2) hb hB).mono ?_; rintro e w' ⟨rfl, hb, hB⟩))
    go_returns
    exact ⟨rfl, hb⟩
  · have z2 := fun2
    go_enter Tryz.func104, Tryz.ntmps104
    go_wp2_with (first
      | (go_at_call 117; refine (ofTwo_is 20 (.func (.func 141) #[] #[]) _ rfl).mono ?_; rintro e w' ⟨rfl, rfl⟩)
      | (go_at_call 141; refine (keep (mulq_is _ _ _ a1 a2 b1 b2) hb hB).mono ?_; rintro e w' ⟨rfl, hb, hB⟩))
    go_returns
    exact ⟨rfl, hb⟩
  · have z2 := fun2
    go_enter Tryz.func104, Tryz.ntmps104
    go_wp2_with (first
      | (go_at_call 117; refine (ofTwo_is 21 (.func (.func 142) #[] #[]) _ rfl).mono ?_; rintro e w' ⟨rfl, rfl⟩)
      | (go_at_call 142; refine (keep (mulr_is _ _ _ a1 a2 b1 b2) hb hB).mono ?_; rintro e w' ⟨rfl, hb, hB⟩))
    go_returns
    exact ⟨rfl, hb⟩

theorem do_is (op a b : Int) (w : World) (a1 : -2147483648 ≤ a) (a2 : a ≤ 2147483647) (b1 : -2147483648 ≤ b) (b2 : b ≤ 2147483647) :
    Calls Tryz.prog 104 #[.int .i64 op, .int .i32 a, .int .i32 b] w fun e w' => e = .returned (.tuple #[.int .i32 (wDo op a b), .bool (wDoes op b)]) ∧ Below w.heap.size w w' := by
  by_cases h0 : op < 1 ∨ 30 < op
  · rw [wDo_none (wDoes_out h0), wDoes_out h0]
    exact (doNone_is op a b w h0).mono fun e w' ⟨he, hw⟩ => ⟨he, hw ▸ Below.refl _ _⟩
  by_cases h1 : op ≤ 21
  · have hd := wDoes_in (op := op) (b := b) (by omega) (by omega) (by omega) (by omega)
    rw [wDo_two hd (by omega), hd]
    exact doTwo_is op a b w (by omega) h1 a1 a2 b1 b2
  by_cases h2 : 24 ≤ op
  · have hd := wDoes_in (op := op) (b := b) (by omega) (by omega) (by omega) (by omega)
    rw [wDo_one hd (by omega), hd]
    exact doOne_is op a b w h2 (by omega) a1 a2
  have h3 : op = 22 ∨ op = 23 := by omega
  by_cases hz : b = 0
  · subst hz
    rw [wDo_none (wDoes_0 h3), wDoes_0 h3]
    exact (doDiv0_is op a w h3).mono fun e w' ⟨he, hw⟩ => ⟨he, hw ▸ Below.refl _ _⟩
  · have hd := wDoes_div h3 hz
    rw [wDo_two hd (by omega), hd]
    exact (doDiv_is op a b w h3 (by simpa using hz) hz).mono fun e w' ⟨he, hw⟩ => ⟨he, hw ▸ Below.refl _ _⟩
end Go.Proofs.YtcoicgkpikoibaaGreatDoor
