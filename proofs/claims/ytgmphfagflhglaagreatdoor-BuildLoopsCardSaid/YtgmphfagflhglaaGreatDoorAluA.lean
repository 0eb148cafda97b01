/- Package alu: contracts. -/
import Derived.Test.YtgmphfagflhglaaGreatDoorProg
import Derived.Test.YtgmphfagflhglaaGreatDoorNum
import Derived.Test.YtgmphfagflhglaaGreatDoorLayers
import Derived.Handy
import Derived.Lib.Hide
namespace Go.Proofs.YtgmphfagflhglaaGreatDoor
open Go.RowKit

def fnV (k : Nat) : Value := .func (.func k) #[] #[]
/-- The functions of two words, in the operations' order. -/
def twoL : List Nat := [95, 96, 97, 98, 99, 100, 101, 102, 103, 104, 105, 106, 107, 108, 109, 110, 111, 112, 113, 114, 115]
def oneL : List Nat := [116, 117, 118, 119, 84, 120, 121]
def twoF (op : Int) : Value := if 1 ≤ op ∧ op ≤ 21 then fnV (twoL.getD (op - 1).toNat 0) else .nilFunc
def oneF (op : Int) : Value := if 24 ≤ op ∧ op ≤ 30 then fnV (oneL.getD (op - 24).toNat 0) else .nilFunc
theorem twoF_out {op : Int} (h : ¬ (1 ≤ op ∧ op ≤ 21)) : twoF op = .nilFunc := by unfold twoF; rw [if_neg h]
theorem oneF_out {op : Int} (h : ¬ (24 ≤ op ∧ op ≤ 30)) : oneF op = .nilFunc := by unfold oneF; rw [if_neg h]

theorem ofTwo_is (op : Int) (F : Value) (w : World) (hF : twoF op = F) :
    Calls Tryz.prog 89 #[.int .i64 op] w fun e w' => e = .returned F ∧ w = w' := by
  have E := Lib.hid hF
  clear hF
  go_enter Tryz.func89, Tryz.ntmps89
  go_wp2
  all_goals go_ret
  all_goals refine ⟨?_, rfl⟩
  all_goals rw [← E.out]
  all_goals simp only [beq_iff_eq, beq_eq_false_iff_ne] at *
  all_goals first
    | (subst_vars; rfl)
    | (rw [twoF_out (by omega)]; rfl)
theorem ofOne_is (op : Int) (F : Value) (w : World) (hF : oneF op = F) :
    Calls Tryz.prog 90 #[.int .i64 op] w fun e w' => e = .returned F ∧ w = w' := by
  have E := Lib.hid hF
  clear hF
  go_enter Tryz.func90, Tryz.ntmps90
  go_wp2
  all_goals go_ret
  all_goals refine ⟨?_, rfl⟩
  all_goals rw [← E.out]
  all_goals simp only [beq_iff_eq, beq_eq_false_iff_ne] at *
  all_goals first
    | (subst_vars; rfl)
    | (rw [oneF_out (by omega)]; rfl)

theorem aadd_is (a b : Int) (w : World) :
    Calls Tryz.prog 95 #[.int .i32 a, .int .i32 b] w fun e w' => e = .returned (.int .i32 (wrap32 (a + b))) ∧ w = w' := by
  go_enter Tryz.func95, Tryz.ntmps95
  go_wp2
  go_ret
  exact ⟨rfl, rfl⟩
theorem asub_is (a b : Int) (w : World) :
    Calls Tryz.prog 96 #[.int .i32 a, .int .i32 b] w fun e w' => e = .returned (.int .i32 (wrap32 (a - b))) ∧ w = w' := by
  go_enter Tryz.func96, Tryz.ntmps96
  go_wp2
  go_ret
  exact ⟨rfl, rfl⟩
theorem aand_is (a b : Int) (w : World) :
    Calls Tryz.prog 99 #[.int .i32 a, .int .i32 b] w fun e w' => e = .returned (.int .i32 (wAnd a b)) ∧ w = w' := by
  go_enter Tryz.func99, Tryz.ntmps99
  go_wp2
  go_ret
  exact ⟨ret_int (bits_i32_and _ _), rfl⟩
theorem aor_is (a b : Int) (w : World) :
    Calls Tryz.prog 100 #[.int .i32 a, .int .i32 b] w fun e w' => e = .returned (.int .i32 (wOr a b)) ∧ w = w' := by
  go_enter Tryz.func100, Tryz.ntmps100
  go_wp2
  go_ret
  exact ⟨ret_int (bits_i32_or _ _), rfl⟩
theorem axor_is (a b : Int) (w : World) :
    Calls Tryz.prog 101 #[.int .i32 a, .int .i32 b] w fun e w' => e = .returned (.int .i32 (wXor a b)) ∧ w = w' := by
  go_enter Tryz.func101, Tryz.ntmps101
  go_wp2
  go_ret
  exact ⟨ret_int (bits_i32_xor _ _), rfl⟩
theorem abic_is (a b : Int) (w : World) :
    Calls Tryz.prog 102 #[.int .i32 a, .int .i32 b] w fun e w' => e = .returned (.int .i32 (wBic a b)) ∧ w = w' := by
  go_enter Tryz.func102, Tryz.ntmps102
  go_wp2
  go_ret
  exact ⟨ret_int (bits_i32_andNot _ _), rfl⟩
theorem aquo_is (a b : Int) (w : World) (hn : ¬ b = 0) :
    Calls Tryz.prog 122 #[.int .i32 a, .int .i32 b] w fun e w' => e = .returned (.int .i32 (wQuo a b)) ∧ w = w' := by
  go_enter Tryz.func122, Tryz.ntmps122
  go_wp2
  all_goals go_ret
  all_goals exact ⟨rfl, rfl⟩
theorem arest_is (a b : Int) (w : World) (hn : ¬ b = 0) :
    Calls Tryz.prog 123 #[.int .i32 a, .int .i32 b] w fun e w' => e = .returned (.int .i32 (wRest a b)) ∧ w = w' := by
  go_enter Tryz.func123, Tryz.ntmps123
  go_wp2
  all_goals go_ret
  all_goals exact ⟨rfl, rfl⟩

theorem mclz_is (x : Int) (w : World) :
    Calls Tryz.prog 116 #[.int .i32 x] w fun e w' => e = .returned (.int .i32 (wClz x)) ∧ w = w' := by
  go_enter Tryz.func116, Tryz.ntmps116
  go_wp2_with (go_at_call 85; refine (clz_is _ _).mono ?_; rintro e w' ⟨rfl, rfl⟩)
  go_ret
  exact ⟨rfl, rfl⟩
theorem mneg_is (x : Int) (w : World) (h1 : -2147483648 ≤ x) (h2 : x ≤ 2147483647) :
    Calls Tryz.prog 117 #[.int .i32 x] w fun e w' => e = .returned (.int .i32 (wCut (-x))) ∧ Below w.heap.size w w' := by
  go_enter Tryz.func117, Tryz.ntmps117
  go_wp2_with (go_at_call 139; refine (neg_is _ _ h1 h2).mono ?_; rintro e w' ⟨rfl, hb⟩)
  go_ret
  exact ⟨rfl, hb⟩
theorem mabs_is (x : Int) (w : World) (h1 : -2147483648 ≤ x) (h2 : x ≤ 2147483647) :
    Calls Tryz.prog 118 #[.int .i32 x] w fun e w' => e = .returned (.int .i32 (wAbs x)) ∧ Below w.heap.size w w' := by
  go_enter Tryz.func118, Tryz.ntmps118
  go_wp2_with (go_at_call 140; refine (abs_is _ _ h1 h2).mono ?_; rintro e w' ⟨rfl, hb⟩)
  go_ret
  exact ⟨rfl, hb⟩
theorem mmask_is (x : Int) (w : World) (h1 : -2147483648 ≤ x) (h2 : x ≤ 2147483647) :
    Calls Tryz.prog 119 #[.int .i32 x] w fun e w' => e = .returned (.int .i32 (wMask x)) ∧ w = w' := by
  go_enter Tryz.func119, Tryz.ntmps119
  go_wp2_with (go_at_call 141; refine (mask_is _ _ h1 h2).mono ?_; rintro e w' ⟨rfl, rfl⟩)
  go_ret
  exact ⟨rfl, rfl⟩
theorem msign_is (x : Int) (w : World) (h1 : -2147483648 ≤ x) (h2 : x ≤ 2147483647) :
    Calls Tryz.prog 84 #[.int .i32 x] w fun e w' => e = .returned (.int .i32 (wSign x)) ∧ w = w' := by
  go_enter Tryz.func84, Tryz.ntmps84
  go_wp2_with (go_at_call 92; refine (sign_is _ _ h1 h2).mono ?_; rintro e w' ⟨rfl, rfl⟩)
  go_ret
  exact ⟨rfl, rfl⟩
theorem mhalf_is (x : Int) (w : World) :
    Calls Tryz.prog 120 #[.int .i32 x] w fun e w' => e = .returned (.int .i32 (wrap16 x)) ∧ w = w' := by
  go_enter Tryz.func120, Tryz.ntmps120
  go_wp2_with (go_at_call 142; refine (half_is _ _ _ rfl).mono ?_; rintro e w' ⟨rfl, rfl⟩)
  go_ret
  exact ⟨rfl, rfl⟩
theorem mhigh_is (x : Int) (w : World) :
    Calls Tryz.prog 121 #[.int .i32 x] w fun e w' => e = .returned (.int .i32 (wSar x 16)) ∧ w.alloc (.cells #[.int .i32 x] 21) = w' := by
  go_enter Tryz.func121, Tryz.ntmps121
  go_wp2_with (go_at_call 105; refine (sar_is _ _ _).mono ?_; rintro e w' ⟨rfl, rfl⟩)
  go_ret
  exact ⟨rfl, rfl⟩
theorem abits_is (x : Int) (w : World) (h1 : -2147483648 ≤ x) (h2 : x ≤ 2147483647) :
    Calls Tryz.prog 79 #[.int .i32 x] w fun e w' => e = .returned (.int .i64 (wLen x)) ∧ w = w' := by
  have E := Lib.hid (len_clz h1 h2)
  have B := wClz_bd (wFlip x (wSign x))
  go_enter Tryz.func79, Tryz.ntmps79
  go_wp2_with (first
    | (go_at_call 84; refine (msign_is _ _ h1 h2).mono ?_; rintro e w' ⟨rfl, rfl⟩)
    | (go_at_call 83; refine (flip_is _ _ _).mono ?_; rintro e w' ⟨rfl, rfl⟩)
    | (go_at_call 85; refine (clz_is _ _).mono ?_; rintro e w' ⟨rfl, rfl⟩))
  go_ret
  exact ⟨ret_int E.out, rfl⟩

theorem divided_is (op a b : Int) (w : World) (h : op < 22 ∨ 23 < op ∨ b = 0) :
    Calls Tryz.prog 91 #[.int .i64 op, .int .i32 a, .int .i32 b] w fun e w' => e = .returned (.tuple #[.int .i32 0, .bool false]) ∧ w = w' := by
  rcases h with h | h | rfl
  all_goals
    go_enter Tryz.func91, Tryz.ntmps91
    go_wp2
    all_goals go_returns
    all_goals exact ⟨rfl, rfl⟩
theorem divided_22 (a b : Int) (w : World) (hb : (b == 0) = false) (hn : ¬ b = 0) :
    Calls Tryz.prog 91 #[.int .i64 22, .int .i32 a, .int .i32 b] w fun e w' => e = .returned (.tuple #[.int .i32 (wQuo a b), .bool true]) ∧ w = w' := by
  go_enter Tryz.func91, Tryz.ntmps91
  go_wp2_with (go_at_call 122; refine (aquo_is _ _ _ hn).mono ?_; rintro e w' ⟨rfl, rfl⟩)
  go_returns
  exact ⟨rfl, rfl⟩
theorem divided_23 (a b : Int) (w : World) (hb : (b == 0) = false) (hn : ¬ b = 0) :
    Calls Tryz.prog 91 #[.int .i64 23, .int .i32 a, .int .i32 b] w fun e w' => e = .returned (.tuple #[.int .i32 (wRest a b), .bool true]) ∧ w = w' := by
  go_enter Tryz.func91, Tryz.ntmps91
  go_wp2_with (go_at_call 123; refine (arest_is _ _ _ hn).mono ?_; rintro e w' ⟨rfl, rfl⟩)
  go_returns
  exact ⟨rfl, rfl⟩
theorem acost_is (op a : Int) (w : World) (h1 : -2147483648 ≤ a) (h2 : a ≤ 2147483647) (hc : ∀ i : Nat, i < 44 → w.cell? ⟨2, i, none⟩ = some (.int .i64 (costZ i))) :
    Calls Tryz.prog 73 #[.int .i64 op, .int .i32 a] w fun e w' => e = .returned (.int .i64 (wCostA op a)) ∧ w = w' := by
  have HC := Lib.hid hc
  clear hc
  have B := wLen_bd h1 h2
  rcases (show op = 22 ∨ op = 23 ∨ (¬ op = 22 ∧ ¬ op = 23) by omega) with rfl | rfl | ⟨n1, n2⟩
  · have E := Lib.hid (show wCost 22 + wLen a = wCostA 22 a from rfl)
    have e2 : wCost 22 = 2 := by decide +kernel
    go_enter Tryz.func73, Tryz.ntmps73
    go_wp2_with (first
      | (go_at_call 78; refine (cost_is _ _ HC.out).mono ?_; rintro e w' ⟨rfl, rfl⟩)
      | (go_at_call 79; refine (abits_is _ _ h1 h2).mono ?_; rintro e w' ⟨rfl, rfl⟩))
    go_ret
    exact ⟨ret_int E.out, rfl⟩
  · have E := Lib.hid (show wCost 23 + wLen a = wCostA 23 a from rfl)
    have e2 : wCost 23 = 2 := by decide +kernel
    go_enter Tryz.func73, Tryz.ntmps73
    go_wp2_with (first
      | (go_at_call 78; refine (cost_is _ _ HC.out).mono ?_; rintro e w' ⟨rfl, rfl⟩)
      | (go_at_call 79; refine (abits_is _ _ h1 h2).mono ?_; rintro e w' ⟨rfl, rfl⟩))
    go_ret
    exact ⟨ret_int E.out, rfl⟩
  · have E := Lib.hid (show wCost op = wCostA op a by unfold wCostA; rw [if_neg (by omega)]; omega)
    have m1 : (op == 22) = false := by simpa using n1
    have m2 : (op == 23) = false := by simpa using n2
    go_enter Tryz.func73, Tryz.ntmps73
    go_wp2_with (first
      | (go_at_call 78; refine (cost_is _ _ HC.out).mono ?_; rintro e w' ⟨rfl, rfl⟩))
    go_ret
    exact ⟨ret_int E.out, rfl⟩

theorem nil2 : ∀ w : World, Sem.run Tryz.prog (binOp BinOp.neq 175 Value.nilFunc Value.nilFunc) w = .ok (.bool false) w := fun _ => by kernel_rfl
theorem nil1 : ∀ w : World, Sem.run Tryz.prog (binOp BinOp.neq 182 Value.nilFunc Value.nilFunc) w = .ok (.bool false) w := fun _ => by kernel_rfl
theorem fun2 (fn : Fn) : ∀ w : World, Sem.run Tryz.prog (binOp BinOp.neq 175 (Value.func fn #[] #[]) Value.nilFunc) w = .ok (.bool true) w := fun _ => by kernel_rfl
theorem fun1 (fn : Fn) : ∀ w : World, Sem.run Tryz.prog (binOp BinOp.neq 182 (Value.func fn #[] #[]) Value.nilFunc) w = .ok (.bool true) w := fun _ => by kernel_rfl

theorem doNone_is (op a b : Int) (w : World) (h : op < 1 ∨ 30 < op) :
    Calls Tryz.prog 82 #[.int .i64 op, .int .i32 a, .int .i32 b] w fun e w' => e = .returned (.tuple #[.int .i32 0, .bool false]) ∧ w = w' := by
  have E1 := Lib.hid (twoF_out (op := op) (by omega))
  have E2 := Lib.hid (oneF_out (op := op) (by omega))
  have E3 := Lib.hid (show op < 22 ∨ 23 < op ∨ b = 0 by omega)
  clear h
  have z2 := nil2
  have z1 := nil1
  go_enter Tryz.func82, Tryz.ntmps82
  go_wp2_with (first
    | (go_at_call 89; refine (ofTwo_is _ _ _ E1.out).mono ?_; rintro e w' ⟨rfl, rfl⟩)
    | (go_at_call 90; refine (ofOne_is _ _ _ E2.out).mono ?_; rintro e w' ⟨rfl, rfl⟩)
    | (go_at_call 91; refine (divided_is _ _ _ _ E3.out).mono ?_; rintro e w' ⟨rfl, rfl⟩))
  go_returns
  exact ⟨rfl, rfl⟩
theorem doDiv0_is (op a : Int) (w : World) (h : op = 22 ∨ op = 23) :
    Calls Tryz.prog 82 #[.int .i64 op, .int .i32 a, .int .i32 0] w fun e w' => e = .returned (.tuple #[.int .i32 0, .bool false]) ∧ w = w' := by
  have E1 := Lib.hid (twoF_out (op := op) (by omega))
  have E2 := Lib.hid (oneF_out (op := op) (by omega))
  clear h
  have z2 := nil2
  have z1 := nil1
  go_enter Tryz.func82, Tryz.ntmps82
  go_wp2_with (first
    | (go_at_call 89; refine (ofTwo_is _ _ _ E1.out).mono ?_; rintro e w' ⟨rfl, rfl⟩)
    | (go_at_call 90; refine (ofOne_is _ _ _ E2.out).mono ?_; rintro e w' ⟨rfl, rfl⟩)
    | (go_at_call 91; refine (divided_is _ _ _ _ (Or.inr (Or.inr rfl))).mono ?_; rintro e w' ⟨rfl, rfl⟩))
  go_returns
  exact ⟨rfl, rfl⟩
theorem doDiv_is (op a b : Int) (w : World) (h : op = 22 ∨ op = 23) (hb : (b == 0) = false) (hn : ¬ b = 0) :
    Calls Tryz.prog 82 #[.int .i64 op, .int .i32 a, .int .i32 b] w fun e w' => e = .returned (.tuple #[.int .i32 (wTwo op a b), .bool true]) ∧ w = w' := by
  rcases h with rfl | rfl
  · have z2 := nil2
    have z1 := nil1
    go_enter Tryz.func82, Tryz.ntmps82
    go_wp2_with (first
      | (go_at_call 89; refine (ofTwo_is 22 .nilFunc _ (twoF_out (by omega))).mono ?_; rintro e w' ⟨rfl, rfl⟩)
      | (go_at_call 90; refine (ofOne_is 22 .nilFunc _ (oneF_out (by omega))).mono ?_; rintro e w' ⟨rfl, rfl⟩)
      | (go_at_call 91; refine (divided_22 _ _ _ hb hn).mono ?_; rintro e w' ⟨rfl, rfl⟩))
    go_returns
    exact ⟨rfl, rfl⟩
  · have z2 := nil2
    have z1 := nil1
    go_enter Tryz.func82, Tryz.ntmps82
    go_wp2_with (first
      | (go_at_call 89; refine (ofTwo_is 23 .nilFunc _ (twoF_out (by omega))).mono ?_; rintro e w' ⟨rfl, rfl⟩)
      | (go_at_call 90; refine (ofOne_is 23 .nilFunc _ (oneF_out (by omega))).mono ?_; rintro e w' ⟨rfl, rfl⟩)
      | (go_at_call 91; refine (divided_23 _ _ _ hb hn).mono ?_; rintro e w' ⟨rfl, rfl⟩))
    go_returns
    exact ⟨rfl, rfl⟩
set_option maxHeartbeats 1000000 in
theorem doOne_is (op a b : Int) (w : World) (h1 : 24 ≤ op) (h2 : op ≤ 30) (a1 : -2147483648 ≤ a) (a2 : a ≤ 2147483647) :
    Calls Tryz.prog 82 #[.int .i64 op, .int .i32 a, .int .i32 b] w fun e w' => e = .returned (.tuple #[.int .i32 (wOne op a), .bool true]) ∧ Below w.heap.size w w' := by
  have hb := Below.refl w.heap.size w
  have hB := Nat.le_refl w.heap.size
  rcases (show op = 24 ∨ op = 25 ∨ op = 26 ∨ op = 27 ∨ op = 28 ∨ op = 29 ∨ op = 30 by omega) with rfl | rfl | rfl | rfl | rfl | rfl | rfl
  all_goals clear h1 h2
  · have z2 := nil2
    have z1 := fun1
    go_enter Tryz.func82, Tryz.ntmps82
    go_wp2_with (first
      | (go_at_call 89; refine (ofTwo_is 24 .nilFunc _ (twoF_out (by omega))).mono ?_; rintro e w' ⟨rfl, rfl⟩)
      | (go_at_call 90; refine (ofOne_is 24 (.func (.func 116) #[] #[]) _ rfl).mono ?_; rintro e w' ⟨rfl, rfl⟩)
      | (go_at_call 116; refine (mclz_is _ _).mono ?_; rintro e w' ⟨rfl, rfl⟩))
    go_returns
    exact ⟨rfl, hb⟩
  · have z2 := nil2
    have z1 := fun1
    go_enter Tryz.func82, Tryz.ntmps82
    go_wp2_with (first
      | (go_at_call 89; refine (ofTwo_is 25 .nilFunc _ (twoF_out (by omega))).mono ?_; rintro e w' ⟨rfl, rfl⟩)
      | (go_at_call 90; refine (ofOne_is 25 (.func (.func 117) #[] #[]) _ rfl).mono ?_; rintro e w' ⟨rfl, rfl⟩)
      | (go_at_call 117; refine (keep (mneg_is _ _ a1 a2) hb hB).mono ?_; rintro e w' ⟨rfl, hb, hB⟩))
    go_returns
    exact ⟨rfl, hb⟩
  · have z2 := nil2
    have z1 := fun1
    go_enter Tryz.func82, Tryz.ntmps82
    go_wp2_with (first
      | (go_at_call 89; refine (ofTwo_is 26 .nilFunc _ (twoF_out (by omega))).mono ?_; rintro e w' ⟨rfl, rfl⟩)
      | (go_at_call 90; refine (ofOne_is 26 (.func (.func 118) #[] #[]) _ rfl).mono ?_; rintro e w' ⟨rfl, rfl⟩)
      | (go_at_call 118; refine (keep (mabs_is _ _ a1 a2) hb hB).mono ?_; rintro e w' ⟨rfl, hb, hB⟩))
    go_returns
    exact ⟨rfl, hb⟩
  · have z2 := nil2
    have z1 := fun1
    go_enter Tryz.func82, Tryz.ntmps82
    go_wp2_with (first
      | (go_at_call 89; refine (ofTwo_is 27 .nilFunc _ (twoF_out (by omega))).mono ?_; rintro e w' ⟨rfl, rfl⟩)
      | (go_at_call 90; refine (ofOne_is 27 (.func (.func 119) #[] #[]) _ rfl).mono ?_; rintro e w' ⟨rfl, rfl⟩)
      | (go_at_call 119; refine (mmask_is _ _ a1 a2).mono ?_; rintro e w' ⟨rfl, rfl⟩))
    go_returns
    exact ⟨rfl, hb⟩
  · have z2 := nil2
    have z1 := fun1
    go_enter Tryz.func82, Tryz.ntmps82
    go_wp2_with (first
      | (go_at_call 89; refine (ofTwo_is 28 .nilFunc _ (twoF_out (by omega))).mono ?_; rintro e w' ⟨rfl, rfl⟩)
      | (go_at_call 90; refine (ofOne_is 28 (.func (.func 84) #[] #[]) _ rfl).mono ?_; rintro e w' ⟨rfl, rfl⟩)
      | (go_at_call 84; refine (msign_is _ _ a1 a2).mono ?_; rintro e w' ⟨rfl, rfl⟩))
    go_returns
    exact ⟨rfl, hb⟩
  · have z2 := nil2
    have z1 := fun1
    go_enter Tryz.func82, Tryz.ntmps82
    go_wp2_with (first
      | (go_at_call 89; refine (ofTwo_is 29 .nilFunc _ (twoF_out (by omega))).mono ?_; rintro e w' ⟨rfl, rfl⟩)
      | (go_at_call 90; refine (ofOne_is 29 (.func (.func 120) #[] #[]) _ rfl).mono ?_; rintro e w' ⟨rfl, rfl⟩)
      | (go_at_call 120; refine (mhalf_is _ _).mono ?_; rintro e w' ⟨rfl, rfl⟩))
    go_returns
    exact ⟨rfl, hb⟩
  · have z2 := nil2
    have z1 := fun1
    go_enter Tryz.func82, Tryz.ntmps82
    go_wp2_with (first
      | (go_at_call 89; refine (ofTwo_is 30 .nilFunc _ (twoF_out (by omega))).mono ?_; rintro e w' ⟨rfl, rfl⟩)
      | (go_at_call 90; refine (ofOne_is 30 (.func (.func 121) #[] #[]) _ rfl).mono ?_; rintro e w' ⟨rfl, rfl⟩)
      | (go_at_call 121; refine (mhigh_is _ _).mono ?_; rintro e w' ⟨rfl, rfl⟩))
    go_returns
    exact ⟨rfl, hb.alloc hB _⟩

set_option maxHeartbeats 1000000 in
theorem doTwo_is (op a b : Int) (w : World) (h1 : 1 ≤ op) (h2 : op ≤ 21) (a1 : -2147483648 ≤ a) (a2 : a ≤ 2147483647) (b1 : -2147483648 ≤ b) (b2 : b ≤ 2147483647) :
    Calls Tryz.prog 82 #[.int .i64 op, .int .i32 a, .int .i32 b] w fun e w' => e = .returned (.tuple #[.int .i32 (wTwo op a b), .bool true]) ∧ Below w.heap.size w w' := by
  have hb := Below.refl w.heap.size w
  have hB := Nat.le_refl w.heap.size
  rcases (show op = 1 ∨ op = 2 ∨ op = 3 ∨ op = 4 ∨ op = 5 ∨ op = 6 ∨ op = 7 ∨ op = 8 ∨ op = 9 ∨ op = 10 ∨ op = 11 ∨ op = 12 ∨ op = 13 ∨ op = 14 ∨ op = 15 ∨ op = 16 ∨ op = 17 ∨ op = 18 ∨ op = 19 ∨ op = 20 ∨ op = 21 by omega) with rfl | rfl | rfl | rfl | rfl | rfl | rfl | rfl | rfl | rfl | rfl | rfl | rfl | rfl | rfl | rfl | rfl | rfl | rfl | rfl | rfl
  all_goals clear h1 h2
  · have z2 := fun2
    go_enter Tryz.func82, Tryz.ntmps82
    go_wp2_with (first
      | (go_at_call 89; refine (ofTwo_is 1 (.func (.func 95) #[] #[]) _ rfl).mono ?_; rintro e w' ⟨rfl, rfl⟩)
      | (go_at_call 95; refine (aadd_is _ _ _).mono ?_; rintro e w' ⟨rfl, rfl⟩))
    go_returns
    exact ⟨rfl, hb⟩
  · have z2 := fun2
    go_enter Tryz.func82, Tryz.ntmps82
    go_wp2_with (first
      | (go_at_call 89; refine (ofTwo_is 2 (.func (.func 96) #[] #[]) _ rfl).mono ?_; rintro e w' ⟨rfl, rfl⟩)
      | (go_at_call 96; refine (asub_is _ _ _).mono ?_; rintro e w' ⟨rfl, rfl⟩))
    go_returns
    exact ⟨rfl, hb⟩
  · have z2 := fun2
    go_enter Tryz.func82, Tryz.ntmps82
    go_wp2_with (first
      | (go_at_call 89; refine (ofTwo_is 3 (.func (.func 97) #[] #[]) _ rfl).mono ?_; rintro e w' ⟨rfl, rfl⟩)
      | (go_at_call 97; refine (keep (add_is _ _ _ a1 a2 b1 b2) hb hB).mono ?_; rintro e w' ⟨rfl, hb, hB⟩))
    go_returns
    exact ⟨rfl, hb⟩
  · have z2 := fun2
    go_enter Tryz.func82, Tryz.ntmps82
    go_wp2_with (first
      | (go_at_call 89; refine (ofTwo_is 4 (.func (.func 98) #[] #[]) _ rfl).mono ?_; rintro e w' ⟨rfl, rfl⟩)
      | (go_at_call 98; refine (keep (sub_is _ _ _ a1 a2 b1 b2) hb hB).mono ?_; rintro e w' ⟨rfl, hb, hB⟩))
    go_returns
    exact ⟨rfl, hb⟩
  · have z2 := fun2
    go_enter Tryz.func82, Tryz.ntmps82
    go_wp2_with (first
      | (go_at_call 89; refine (ofTwo_is 5 (.func (.func 99) #[] #[]) _ rfl).mono ?_; rintro e w' ⟨rfl, rfl⟩)
      | (go_at_call 99; refine (aand_is _ _ _).mono ?_; rintro e w' ⟨rfl, rfl⟩))
    go_returns
    exact ⟨rfl, hb⟩
  · have z2 := fun2
    go_enter Tryz.func82, Tryz.ntmps82
    go_wp2_with (first
      | (go_at_call 89; refine (ofTwo_is 6 (.func (.func 100) #[] #[]) _ rfl).mono ?_; rintro e w' ⟨rfl, rfl⟩)
      | (go_at_call 100; refine (aor_is _ _ _).mono ?_; rintro e w' ⟨rfl, rfl⟩))
    go_returns
    exact ⟨rfl, hb⟩
  · have z2 := fun2
    go_enter Tryz.func82, Tryz.ntmps82
    go_wp2_with (first
      | (go_at_call 89; refine (ofTwo_is 7 (.func (.func 101) #[] #[]) _ rfl).mono ?_; rintro e w' ⟨rfl, rfl⟩)
      | (go_at_call 101; refine (axor_is _ _ _).mono ?_; rintro e w' ⟨rfl, rfl⟩))
    go_returns
    exact ⟨rfl, hb⟩
  · have z2 := fun2
    go_enter Tryz.func82, Tryz.ntmps82
    go_wp2_with (first
      | (go_at_call 89; refine (ofTwo_is 8 (.func (.func 102) #[] #[]) _ rfl).mono ?_; rintro e w' ⟨rfl, rfl⟩)
      | (go_at_call 102; refine (abic_is _ _ _).mono ?_; rintro e w' ⟨rfl, rfl⟩))
    go_returns
    exact ⟨rfl, hb⟩
  · have z2 := fun2
    go_enter Tryz.func82, Tryz.ntmps82
    go_wp2_with (first
      | (go_at_call 89; refine (ofTwo_is 9 (.func (.func 103) #[] #[]) _ rfl).mono ?_; rintro e w' ⟨rfl, rfl⟩)
      | (go_at_call 103; refine (shl_is _ _ _).mono ?_; rintro e w' ⟨rfl, rfl⟩))
    go_returns
    exact ⟨rfl, hb⟩
  · have z2 := fun2
    go_enter Tryz.func82, Tryz.ntmps82
    go_wp2_with (first
      | (go_at_call 89; refine (ofTwo_is 10 (.func (.func 104) #[] #[]) _ rfl).mono ?_; rintro e w' ⟨rfl, rfl⟩)
      | (go_at_call 104; refine (shr_is _ _ _).mono ?_; rintro e w' ⟨rfl, rfl⟩))
    go_returns
    exact ⟨rfl, hb⟩
  · have z2 := fun2
    go_enter Tryz.func82, Tryz.ntmps82
    go_wp2_with (first
      | (go_at_call 89; refine (ofTwo_is 11 (.func (.func 105) #[] #[]) _ rfl).mono ?_; rintro e w' ⟨rfl, rfl⟩)
      | (go_at_call 105; refine (sar_is _ _ _).mono ?_; rintro e w' ⟨rfl, rfl⟩))
    go_returns
    exact ⟨rfl, hb.alloc hB _⟩
  · have z2 := fun2
    go_enter Tryz.func82, Tryz.ntmps82
    go_wp2_with (first
      | (go_at_call 89; refine (ofTwo_is 12 (.func (.func 106) #[] #[]) _ rfl).mono ?_; rintro e w' ⟨rfl, rfl⟩)
      | (go_at_call 106; refine (rol_is _ _ _).mono ?_; rintro e w' ⟨rfl, rfl⟩))
    go_returns
    exact ⟨rfl, hb⟩
  · have z2 := fun2
    go_enter Tryz.func82, Tryz.ntmps82
    go_wp2_with (first
      | (go_at_call 89; refine (ofTwo_is 13 (.func (.func 107) #[] #[]) _ rfl).mono ?_; rintro e w' ⟨rfl, rfl⟩)
      | (go_at_call 107; refine (less_is _ _ _ a1 a2 b1 b2).mono ?_; rintro e w' ⟨rfl, rfl⟩))
    go_returns
    exact ⟨rfl, hb.alloc hB _⟩
  · have z2 := fun2
    go_enter Tryz.func82, Tryz.ntmps82
    go_wp2_with (first
      | (go_at_call 89; refine (ofTwo_is 14 (.func (.func 108) #[] #[]) _ rfl).mono ?_; rintro e w' ⟨rfl, rfl⟩)
      | (go_at_call 108; refine (under_is _ _ _).mono ?_; rintro e w' ⟨rfl, rfl⟩))
    go_returns
    exact ⟨rfl, hb.alloc hB _⟩
  · have z2 := fun2
    go_enter Tryz.func82, Tryz.ntmps82
    go_wp2_with (first
      | (go_at_call 89; refine (ofTwo_is 15 (.func (.func 109) #[] #[]) _ rfl).mono ?_; rintro e w' ⟨rfl, rfl⟩)
      | (go_at_call 109; refine (same_is _ _ _ a1 a2 b1 b2).mono ?_; rintro e w' ⟨rfl, rfl⟩))
    go_returns
    exact ⟨rfl, hb.alloc hB _⟩
  · have z2 := fun2
    go_enter Tryz.func82, Tryz.ntmps82
    go_wp2_with (first
      | (go_at_call 89; refine (ofTwo_is 16 (.func (.func 110) #[] #[]) _ rfl).mono ?_; rintro e w' ⟨rfl, rfl⟩)
      | (go_at_call 110; refine (min_is _ _ _ a1 a2 b1 b2).mono ?_; rintro e w' ⟨rfl, rfl⟩))
    go_returns
    exact ⟨rfl, hb.alloc hB _⟩
  · have z2 := fun2
    go_enter Tryz.func82, Tryz.ntmps82
    go_wp2_with (first
      | (go_at_call 89; refine (ofTwo_is 17 (.func (.func 111) #[] #[]) _ rfl).mono ?_; rintro e w' ⟨rfl, rfl⟩)
      | (go_at_call 111; refine (max_is _ _ _ a1 a2 b1 b2).mono ?_; rintro e w' ⟨rfl, rfl⟩))
    go_returns
    exact ⟨rfl, hb.alloc hB _⟩
  · have z2 := fun2
    go_enter Tryz.func82, Tryz.ntmps82
    go_wp2_with (first
      | (go_at_call 89; refine (ofTwo_is 18 (.func (.func 112) #[] #[]) _ rfl).mono ?_; rintro e w' ⟨rfl, rfl⟩)
      | (go_at_call 112; refine (keep (mull_is _ _ _ a1 a2 b1 b2) hb hB).mono ?_; rintro e w' ⟨rfl, hb, hB⟩))
    go_returns
    exact ⟨rfl, hb⟩
  · have z2 := fun2
    go_enter Tryz.func82, Tryz.ntmps82
    go_wp2_with (first
      | (go_at_call 89; refine (ofTwo_is 19 (.func (.func 113) #[] #[]) _ rfl).mono ?_; rintro e w' ⟨rfl, rfl⟩)
      | (go_at_call 113; refine (keep (mulh_is _ _ _ a1 a2 b1 b2) hb hB).mono ?_; rintro e w' ⟨rfl, hb, hB⟩))
    go_returns
    exact ⟨rfl, hb⟩
  · have z2 := fun2
    go_enter Tryz.func82, Tryz.ntmps82
    go_wp2_with (first
      | (go_at_call 89; refine (ofTwo_is 20 (.func (.func 114) #[] #[]) _ rfl).mono ?_; rintro e w' ⟨rfl, rfl⟩)
      | (go_at_call 114; refine (keep (mulq_is _ _ _ a1 a2 b1 b2) hb hB).mono ?_; rintro e w' ⟨rfl, hb, hB⟩))
    go_returns
    exact ⟨rfl, hb⟩
  · have z2 := fun2
    go_enter Tryz.func82, Tryz.ntmps82
    go_wp2_with (first
      | (go_at_call 89; refine (ofTwo_is 21 (.func (.func 115) #[] #[]) _ rfl).mono ?_; rintro e w' ⟨rfl, rfl⟩)
      | (go_at_call 115; refine (keep (mulr_is _ _ _ a1 a2 b1 b2) hb hB).mono ?_; rintro e w' ⟨rfl, hb, hB⟩))
    go_returns
    exact ⟨rfl, hb⟩

theorem do_is (op a b : Int) (w : World) (a1 : -2147483648 ≤ a) (a2 : a ≤ 2147483647) (b1 : -2147483648 ≤ b) (b2 : b ≤ 2147483647) :
    Calls Tryz.prog 82 #[.int .i64 op, .int .i32 a, .int .i32 b] w fun e w' => e = .returned (.tuple #[.int .i32 (wDo op a b), .bool (wDoes op b)]) ∧ Below w.heap.size w w' := by
  by_cases h0 : op < 1 ∨ 30 < op
  · rw [wDo_none (wDoes_out h0), wDoes_out h0]
    exact (doNone_is op a b w h0).mono fun e w' ⟨he, hw⟩ => ⟨he, hw ▸ Below.refl _ _⟩
  by_cases h1 : op ≤ 21
  · have hd := wDoes_in (op := op) (b := b) (by omega) (by omega) (by omega) (by omega)
    rw [wDo_two hd (by omega), hd]
    exact doTwo_is op a b w (by omega) h1 a1 a2 b1 b2
  by_cases h2 : 24 ≤ op
  · have hd := wDoes_in (op := op) (b := b) (by omega) (by omega) (by omega) (by omega)
    rw [wDo_one hd (by omega), hd]
    exact doOne_is op a b w h2 (by omega) a1 a2
  have h3 : op = 22 ∨ op = 23 := by omega
  by_cases hz : b = 0
  · subst hz
    rw [wDo_none (wDoes_0 h3), wDoes_0 h3]
    exact (doDiv0_is op a w h3).mono fun e w' ⟨he, hw⟩ => ⟨he, hw ▸ Below.refl _ _⟩
  · have hd := wDoes_div h3 hz
    rw [wDo_two hd (by omega), hd]
    exact (doDiv_is op a b w h3 (by simpa using hz) hz).mono fun e w' ⟨he, hw⟩ => ⟨he, hw ▸ Below.refl _ _⟩

theorem do_v (op a b v : Int) (t : Bool) (w : World) (a1 : -2147483648 ≤ a) (a2 : a ≤ 2147483647) (b1 : -2147483648 ≤ b) (b2 : b ≤ 2147483647) (hv : wDo op a b = v) (ht : wDoes op b = t) :
    Calls Tryz.prog 82 #[.int .i64 op, .int .i32 a, .int .i32 b] w fun e w' => e = .returned (.tuple #[.int .i32 v, .bool t]) ∧ Below w.heap.size w w' := by
  subst hv ht; exact do_is op a b w a1 a2 b1 b2
theorem do_two {op a b : Int} (h1 : 1 ≤ op) (h2 : op ≤ 21) : wDo op a b = wTwo op a b := wDo_two (wDoes_in (by omega) (by omega) (by omega) (by omega)) (by omega)
theorem do_one {op a b : Int} (h1 : 24 ≤ op) (h2 : op ≤ 30) : wDo op a b = wOne op a := wDo_one (wDoes_in (by omega) (by omega) (by omega) (by omega)) (by omega)
theorem does_two {op b : Int} (h1 : 1 ≤ op) (h2 : op ≤ 21) : wDoes op b = true := wDoes_in (by omega) (by omega) (by omega) (by omega)
theorem does_one {op b : Int} (h1 : 24 ≤ op) (h2 : op ≤ 30) : wDoes op b = true := wDoes_in (by omega) (by omega) (by omega) (by omega)
/-- The masks of levels: 30 leaves out the lowest bit, and 32. -/
theorem and_30 {c : Int} (h1 : 0 ≤ c) (h2 : c ≤ 32) : wAnd c 30 = c % 32 / 2 * 2 := by
  obtain ⟨n, rfl⟩ : ∃ n : Nat, c = n := ⟨c.toNat, by omega⟩
  have : ((List.range 33).all fun i => decide (wAnd (i : Int) 30 = (i : Int) % 32 / 2 * 2)) = true := by decide +kernel
  simpa using List.all_eq_true.1 this n (List.mem_range.2 (by omega))

end Go.Proofs.YtgmphfagflhglaaGreatDoor
