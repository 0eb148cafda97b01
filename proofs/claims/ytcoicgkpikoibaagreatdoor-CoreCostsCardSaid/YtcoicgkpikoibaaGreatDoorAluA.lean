/- What package alu's functions answer. Conditions: the numbers are of the parameters' kinds. -/
import Derived.Test.YtcoicgkpikoibaaGreatDoorProg
import Derived.Test.YtcoicgkpikoibaaGreatDoorNum
import Derived.Test.YtcoicgkpikoibaaGreatDoorLayers
import Derived.Handy
import Derived.Lib.Hide
namespace Go.Proofs.YtcoicgkpikoibaaGreatDoor
open Go.RowKit

def fnV (k : Nat) : Value := .func (.func k) #[] #[]
/-- The functions of two words, in the operations' order. -/
def twoL : List Nat := [122, 123, 124, 125, 126, 127, 128, 129, 130, 131, 132, 133, 134, 135, 136, 137, 138, 139, 140, 141, 142]
def oneL : List Nat := [143, 144, 145, 146, 115, 147, 148]
def twoF (op : Int) : Value := if 1 ≤ op ∧ op ≤ 21 then fnV (twoL.getD (op - 1).toNat 0) else .nilFunc
def oneF (op : Int) : Value := if 24 ≤ op ∧ op ≤ 30 then fnV (oneL.getD (op - 24).toNat 0) else .nilFunc
theorem twoF_out {op : Int} (h : ¬ (1 ≤ op ∧ op ≤ 21)) : twoF op = .nilFunc := by unfold twoF; rw [if_neg h]
theorem oneF_out {op : Int} (h : ¬ (24 ≤ op ∧ op ≤ 30)) : oneF op = .nilFunc := by unfold oneF; rw [if_neg h]

theorem ofTwo_is (op : Int) (F : Value) (w : World) (hF : twoF op = F) :
    Calls Tryz.prog 117 #[.int .i64 op] w fun e w' => e = .returned F ∧ w = w' := by
  have E := Lib.hid hF
  clear hF
  go_enter Tryz.func117, Tryz.ntmps117
  go_wp2
  all_goals go_ret
  all_goals refine ⟨?_, rfl⟩
  all_goals rw [← E.out]
  all_goals simp only [beq_iff_eq, beq_eq_false_iff_ne] at *
  all_goals first
    | (subst_vars; rfl)
    | (rw [twoF_out (by omega)]; rfl)
theorem ofOne_is (op : Int) (F : Value) (w : World) (hF : oneF op = F) :
    Calls Tryz.prog 118 #[.int .i64 op] w fun e w' => e = .returned F ∧ w = w' := by
  have E := Lib.hid hF
  clear hF
  go_enter Tryz.func118, Tryz.ntmps118
  go_wp2
  all_goals go_ret
  all_goals refine ⟨?_, rfl⟩
  all_goals rw [← E.out]
  all_goals simp only [beq_iff_eq, beq_eq_false_iff_ne] at *
  all_goals first
    | (subst_vars; rfl)
    | (rw [oneF_out (by omega)]; rfl)

theorem aadd_is (a b : Int) (w : World) :
    Calls Tryz.prog 122 #[.int .i32 a, .int .i32 b] w fun e w' => e = .returned (.int .i32 (wrap32 (a + b))) ∧ w = w' := by
  go_enter Tryz.func122, Tryz.ntmps122
  go_wp2
  go_ret
  exact ⟨rfl, rfl⟩
theorem asub_is (a b : Int) (w : World) :
    Calls Tryz.prog 123 #[.int .i32 a, .int .i32 b] w fun e w' => e = .returned (.int .i32 (wrap32 (a - b))) ∧ w = w' := by
  go_enter Tryz.func123, Tryz.ntmps123
  go_wp2
  go_ret
  exact ⟨rfl, rfl⟩
theorem aand_is (a b : Int) (w : World) :
    Calls Tryz.prog 126 #[.int .i32 a, .int .i32 b] w fun e w' => e = .returned (.int .i32 (wAnd a b)) ∧ w = w' := by
  go_enter Tryz.func126, Tryz.ntmps126
  go_wp2
  go_ret
  exact ⟨ret_int (bits_i32_and _ _), rfl⟩
theorem aor_is (a b : Int) (w : World) :
    Calls Tryz.prog 127 #[.int .i32 a, .int .i32 b] w fun e w' => e = .returned (.int .i32 (wOr a b)) ∧ w = w' := by
  go_enter Tryz.func127, Tryz.ntmps127
  go_wp2
  go_ret
  exact ⟨ret_int (bits_i32_or _ _), rfl⟩
theorem axor_is (a b : Int) (w : World) :
    Calls Tryz.prog 128 #[.int .i32 a, .int .i32 b] w fun e w' => e = .returned (.int .i32 (wXor a b)) ∧ w = w' := by
  go_enter Tryz.func128, Tryz.ntmps128
  go_wp2
  go_ret
  exact ⟨ret_int (bits_i32_xor _ _), rfl⟩
theorem abic_is (a b : Int) (w : World) :
    Calls Tryz.prog 129 #[.int .i32 a, .int .i32 b] w fun e w' => e = .returned (.int .i32 (wBic a b)) ∧ w = w' := by
  go_enter Tryz.func129, Tryz.ntmps129
  go_wp2
  go_ret
  exact ⟨ret_int (bits_i32_andNot _ _), rfl⟩
theorem aquo_is (a b : Int) (w : World) (hn : ¬ b = 0) :
    Calls Tryz.prog 149 #[.int .i32 a, .int .i32 b] w fun e w' => e = .returned (.int .i32 (wQuo a b)) ∧ w = w' := by
  go_enter Tryz.func149, Tryz.ntmps149
  go_wp2
  all_goals go_ret
  all_goals exact ⟨rfl, rfl⟩
theorem arest_is (a b : Int) (w : World) (hn : ¬ b = 0) :
    Calls Tryz.prog 150 #[.int .i32 a, .int .i32 b] w fun e w' => e = .returned (.int .i32 (wRest a b)) ∧ w = w' := by
  go_enter Tryz.func150, Tryz.ntmps150
  go_wp2
  all_goals go_ret
  all_goals exact ⟨rfl, rfl⟩

theorem mclz_is (x : Int) (w : World) :
    Calls Tryz.prog 143 #[.int .i32 x] w fun e w' => e = .returned (.int .i32 (wClz x)) ∧ w = w' := by
  go_enter Tryz.func143, Tryz.ntmps143
  go_wp2_with (go_at_call 116; refine (clz_is _ _).mono ?_; rintro e w' ⟨rfl, rfl⟩)
  go_ret
  exact ⟨rfl, rfl⟩
theorem mneg_is (x : Int) (w : World) (h1 : -2147483648 ≤ x) (h2 : x ≤ 2147483647) :
    Calls Tryz.prog 144 #[.int .i32 x] w fun e w' => e = .returned (.int .i32 (wCut (-x))) ∧ Below w.heap.size w w' := by
  go_enter Tryz.func144, Tryz.ntmps144
  go_wp2_with (go_at_call 166; refine (neg_is _ _ h1 h2).mono ?_; rintro e w' ⟨rfl, hb⟩)
  go_ret
  exact ⟨rfl, hb⟩
theorem mabs_is (x : Int) (w : World) (h1 : -2147483648 ≤ x) (h2 : x ≤ 2147483647) :
    Calls Tryz.prog 145 #[.int .i32 x] w fun e w' => e = .returned (.int .i32 (wAbs x)) ∧ Below w.heap.size w w' := by
  go_enter Tryz.func145, Tryz.ntmps145
  go_wp2_with (go_at_call 167; refine (abs_is _ _ h1 h2).mono ?_; rintro e w' ⟨rfl, hb⟩)
  go_ret
  exact ⟨rfl, hb⟩
theorem mmask_is (x : Int) (w : World) (h1 : -2147483648 ≤ x) (h2 : x ≤ 2147483647) :
    Calls Tryz.prog 146 #[.int .i32 x] w fun e w' => e = .returned (.int .i32 (wMask x)) ∧ w = w' := by
  go_enter Tryz.func146, Tryz.ntmps146
  go_wp2_with (go_at_call 168; refine (mask_is _ _ h1 h2).mono ?_; rintro e w' ⟨rfl, rfl⟩)
  go_ret
  exact ⟨rfl, rfl⟩
theorem msign_is (x : Int) (w : World) (h1 : -2147483648 ≤ x) (h2 : x ≤ 2147483647) :
    Calls Tryz.prog 115 #[.int .i32 x] w fun e w' => e = .returned (.int .i32 (wSign x)) ∧ w = w' := by
  go_enter Tryz.func115, Tryz.ntmps115
  go_wp2_with (go_at_call 120; refine (sign_is _ _ h1 h2).mono ?_; rintro e w' ⟨rfl, rfl⟩)
  go_ret
  exact ⟨rfl, rfl⟩
theorem mhalf_is (x : Int) (w : World) :
    Calls Tryz.prog 147 #[.int .i32 x] w fun e w' => e = .returned (.int .i32 (wrap16 x)) ∧ w = w' := by
  go_enter Tryz.func147, Tryz.ntmps147
  go_wp2_with (go_at_call 169; refine (half_is _ _ _ rfl).mono ?_; rintro e w' ⟨rfl, rfl⟩)
  go_ret
  exact ⟨rfl, rfl⟩
theorem mhigh_is (x : Int) (w : World) :
    Calls Tryz.prog 148 #[.int .i32 x] w fun e w' => e = .returned (.int .i32 (wSar x 16)) ∧ w.alloc (.cells #[.int .i32 x] 21) = w' := by
  go_enter Tryz.func148, Tryz.ntmps148
  go_wp2_with (go_at_call 132; refine (sar_is _ _ _).mono ?_; rintro e w' ⟨rfl, rfl⟩)
  go_ret
  exact ⟨rfl, rfl⟩
theorem abits_is (x : Int) (w : World) (h1 : -2147483648 ≤ x) (h2 : x ≤ 2147483647) :
    Calls Tryz.prog 103 #[.int .i32 x] w fun e w' => e = .returned (.int .i64 (wLen x)) ∧ w = w' := by
  have E := Lib.hid (len_clz h1 h2)
  have B := wClz_bd (wFlip x (wSign x))
  go_enter Tryz.func103, Tryz.ntmps103
  go_wp2_with (first
    | (go_at_call 115; refine (msign_is _ _ h1 h2).mono ?_; rintro e w' ⟨rfl, rfl⟩)
    | (go_at_call 114; refine (flip_is _ _ _).mono ?_; rintro e w' ⟨rfl, rfl⟩)
    | (go_at_call 116; refine (clz_is _ _).mono ?_; rintro e w' ⟨rfl, rfl⟩))
  go_ret
  exact ⟨ret_int E.out, rfl⟩

theorem divided_is (op a b : Int) (w : World) (h : op < 22 ∨ 23 < op ∨ b = 0) :
    Calls Tryz.prog 119 #[.int .i64 op, .int .i32 a, .int .i32 b] w fun e w' => e = .returned (.tuple #[.int .i32 0, .bool false]) ∧ w = w' := by
  rcases h with h | h | rfl
  all_goals
    go_enter Tryz.func119, Tryz.ntmps119
    go_wp2
    all_goals go_returns
    all_goals exact ⟨rfl, rfl⟩
theorem divided_22 (a b : Int) (w : World) (hb : (b == 0) = false) (hn : ¬ b = 0) :
    Calls Tryz.prog 119 #[.int .i64 22, .int .i32 a, .int .i32 b] w fun e w' => e = .returned (.tuple #[.int .i32 (wQuo a b), .bool true]) ∧ w = w' := by
  go_enter Tryz.func119, Tryz.ntmps119
  go_wp2_with (go_at_call 149; refine (aquo_is _ _ _ hn).mono ?_; rintro e w' ⟨rfl, rfl⟩)
  go_returns
  exact ⟨rfl, rfl⟩
theorem divided_23 (a b : Int) (w : World) (hb : (b == 0) = false) (hn : ¬ b = 0) :
    Calls Tryz.prog 119 #[.int .i64 23, .int .i32 a, .int .i32 b] w fun e w' => e = .returned (.tuple #[.int .i32 (wRest a b), .bool true]) ∧ w = w' := by
  go_enter Tryz.func119, Tryz.ntmps119
  go_wp2_with (go_at_call 150; refine (arest_is _ _ _ hn).mono ?_; rintro e w' ⟨rfl, rfl⟩)
  go_returns
  exact ⟨rfl, rfl⟩
theorem acost_is (op a : Int) (w : World) (h1 : -2147483648 ≤ a) (h2 : a ≤ 2147483647) (hc : ∀ i : Nat, i < 44 → w.cell? ⟨1, i, none⟩ = some (.int .i64 (costZ i))) :
    Calls Tryz.prog 65 #[.int .i64 op, .int .i32 a] w fun e w' => e = .returned (.int .i64 (wCostA op a)) ∧ w = w' := by
  have HC := Lib.hid hc
  clear hc
  have B := wLen_bd h1 h2
  rcases (show op = 22 ∨ op = 23 ∨ (¬ op = 22 ∧ ¬ op = 23) by omega) with rfl | rfl | ⟨n1, n2⟩
  · have E := Lib.hid (show wCost 22 + wLen a = wCostA 22 a from rfl)
    have e2 : wCost 22 = 2 := by decide +kernel
    go_enter Tryz.func65, Tryz.ntmps65
    go_wp2_with (first
      | (go_at_call 102; refine (cost_is _ _ HC.out).mono ?_; rintro e w' ⟨rfl, rfl⟩)
      | (go_at_call 103; refine (abits_is _ _ h1 h2).mono ?_; rintro e w' ⟨rfl, rfl⟩))
    go_ret
    exact ⟨ret_int E.out, rfl⟩
  · have E := Lib.hid (show wCost 23 + wLen a = wCostA 23 a from rfl)
    have e2 : wCost 23 = 2 := by decide +kernel
    go_enter Tryz.func65, Tryz.ntmps65
    go_wp2_with (first
      | (go_at_call 102; refine (cost_is _ _ HC.out).mono ?_; rintro e w' ⟨rfl, rfl⟩)
      | (go_at_call 103; refine (abits_is _ _ h1 h2).mono ?_; rintro e w' ⟨rfl, rfl⟩))
    go_ret
    exact ⟨ret_int E.out, rfl⟩
  · have E := Lib.hid (show wCost op = wCostA op a by unfold wCostA; rw [if_neg (by omega)]; omega)
    have m1 : (op == 22) = false := by simpa using n1
    have m2 : (op == 23) = false := by simpa using n2
    go_enter Tryz.func65, Tryz.ntmps65
    go_wp2_with (first
      | (go_at_call 102; refine (cost_is _ _ HC.out).mono ?_; rintro e w' ⟨rfl, rfl⟩))
    go_ret
    exact ⟨ret_int E.out, rfl⟩
end Go.Proofs.YtcoicgkpikoibaaGreatDoor
