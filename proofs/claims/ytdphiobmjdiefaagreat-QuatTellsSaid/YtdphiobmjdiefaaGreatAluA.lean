/- What package alu's functions answer. Conditions: the numbers are of the parameters' kinds. -/
import Derived.Test.YtdphiobmjdiefaaGreatProg
import Derived.Test.YtdphiobmjdiefaaGreatNum
import Derived.Test.YtdphiobmjdiefaaGreatLayers
import Derived.Handy
import Derived.Lib.Hide
namespace Go.Proofs.YtdphiobmjdiefaaGreat
open Go.RowKit

def fnV (k : Nat) : Value := .func (.func k) #[] #[]
/-- The functions of two words, in the operations' order. -/
def twoL : List Nat := [77, 78, 79, 80, 81, 82, 83, 84, 85, 86, 87, 88, 89, 90, 91, 92, 93, 94, 95, 96, 97]
def oneL : List Nat := [98, 99, 100, 101, 102, 103, 104]
def twoF (op : Int) : Value := if 1 ≤ op ∧ op ≤ 21 then fnV (twoL.getD (op - 1).toNat 0) else .nilFunc
def oneF (op : Int) : Value := if 24 ≤ op ∧ op ≤ 30 then fnV (oneL.getD (op - 24).toNat 0) else .nilFunc
theorem twoF_out {op : Int} (h : ¬ (1 ≤ op ∧ op ≤ 21)) : twoF op = .nilFunc := by unfold twoF; rw [if_neg h]
theorem oneF_out {op : Int} (h : ¬ (24 ≤ op ∧ op ≤ 30)) : oneF op = .nilFunc := by unfold oneF; rw [if_neg h]

theorem ofTwo_is (op : Int) (F : Value) (w : World) (hF : twoF op = F) :
    Calls Tryz.prog 74 #[.int .i64 op] w fun e w' => e = .returned F ∧ w = w' := by
  have E := Lib.hid hF
  clear hF
  go_enter Tryz.func74, Tryz.ntmps74
  go_wp2
  all_goals go_ret
  all_goals refine ⟨?_, rfl⟩
  all_goals rw [← E.out]
  all_goals simp only [beq_iff_eq, beq_eq_false_iff_ne] at *
  all_goals first
    | (subst_vars; rfl)
    | (rw [twoF_out (by omega)]; rfl)
theorem ofOne_is (op : Int) (F : Value) (w : World) (hF : oneF op = F) :
    Calls Tryz.prog 75 #[.int .i64 op] w fun e w' => e = .returned F ∧ w = w' := by
  have E := Lib.hid hF
  clear hF
  go_enter Tryz.func75, Tryz.ntmps75
  go_wp2
  all_goals go_ret
  all_goals refine ⟨?_, rfl⟩
  all_goals rw [← E.out]
  all_goals simp only [beq_iff_eq, beq_eq_false_iff_ne] at *
  all_goals first
    | (subst_vars; rfl)
    | (rw [oneF_out (by omega)]; rfl)

theorem aadd_is (a b : Int) (w : World) :
    Calls Tryz.prog 77 #[.int .i32 a, .int .i32 b] w fun e w' => e = .returned (.int .i32 (wrap32 (a + b))) ∧ w = w' := by
  go_enter Tryz.func77, Tryz.ntmps77
  go_wp2
  go_ret
  exact ⟨rfl, rfl⟩
theorem asub_is (a b : Int) (w : World) :
    Calls Tryz.prog 78 #[.int .i32 a, .int .i32 b] w fun e w' => e = .returned (.int .i32 (wrap32 (a - b))) ∧ w = w' := by
  go_enter Tryz.func78, Tryz.ntmps78
  go_wp2
  go_ret
  exact ⟨rfl, rfl⟩
theorem aand_is (a b : Int) (w : World) :
    Calls Tryz.prog 81 #[.int .i32 a, .int .i32 b] w fun e w' => e = .returned (.int .i32 (wAnd a b)) ∧ w = w' := by
  go_enter Tryz.func81, Tryz.ntmps81
  go_wp2
  go_ret
  exact ⟨ret_int (bits_i32_and _ _), rfl⟩
theorem aor_is (a b : Int) (w : World) :
    Calls Tryz.prog 82 #[.int .i32 a, .int .i32 b] w fun e w' => e = .returned (.int .i32 (wOr a b)) ∧ w = w' := by
  go_enter Tryz.func82, Tryz.ntmps82
  go_wp2
  go_ret
  exact ⟨ret_int (bits_i32_or _ _), rfl⟩
theorem axor_is (a b : Int) (w : World) :
    Calls Tryz.prog 83 #[.int .i32 a, .int .i32 b] w fun e w' => e = .returned (.int .i32 (wXor a b)) ∧ w = w' := by
  go_enter Tryz.func83, Tryz.ntmps83
  go_wp2
  go_ret
  exact ⟨ret_int (bits_i32_xor _ _), rfl⟩
theorem abic_is (a b : Int) (w : World) :
    Calls Tryz.prog 84 #[.int .i32 a, .int .i32 b] w fun e w' => e = .returned (.int .i32 (wBic a b)) ∧ w = w' := by
  go_enter Tryz.func84, Tryz.ntmps84
  go_wp2
  go_ret
  exact ⟨ret_int (bits_i32_andNot _ _), rfl⟩
theorem aquo_is (a b : Int) (w : World) (hn : ¬ b = 0) :
    Calls Tryz.prog 105 #[.int .i32 a, .int .i32 b] w fun e w' => e = .returned (.int .i32 (wQuo a b)) ∧ w = w' := by
  go_enter Tryz.func105, Tryz.ntmps105
  go_wp2
  all_goals go_ret
  all_goals exact ⟨rfl, rfl⟩
theorem arest_is (a b : Int) (w : World) (hn : ¬ b = 0) :
    Calls Tryz.prog 106 #[.int .i32 a, .int .i32 b] w fun e w' => e = .returned (.int .i32 (wRest a b)) ∧ w = w' := by
  go_enter Tryz.func106, Tryz.ntmps106
  go_wp2
  all_goals go_ret
  all_goals exact ⟨rfl, rfl⟩

theorem mclz_is (x : Int) (w : World) :
    Calls Tryz.prog 98 #[.int .i32 x] w fun e w' => e = .returned (.int .i32 (wClz x)) ∧ w = w' := by
  go_enter Tryz.func98, Tryz.ntmps98
  go_wp2_with (go_at_call 121; refine (clz_is _ _).mono ?_; rintro e w' ⟨rfl, rfl⟩)
  go_ret
  exact ⟨rfl, rfl⟩
theorem mneg_is (x : Int) (w : World) (h1 : -2147483648 ≤ x) (h2 : x ≤ 2147483647) :
    Calls Tryz.prog 99 #[.int .i32 x] w fun e w' => e = .returned (.int .i32 (wCut (-x))) ∧ Below w.heap.size w w' := by
  go_enter Tryz.func99, Tryz.ntmps99
  go_wp2_with (go_at_call 122; refine (neg_is _ _ h1 h2).mono ?_; rintro e w' ⟨rfl, hb⟩)
  go_ret
  exact ⟨rfl, hb⟩
theorem mabs_is (x : Int) (w : World) (h1 : -2147483648 ≤ x) (h2 : x ≤ 2147483647) :
    Calls Tryz.prog 100 #[.int .i32 x] w fun e w' => e = .returned (.int .i32 (wAbs x)) ∧ Below w.heap.size w w' := by
  go_enter Tryz.func100, Tryz.ntmps100
  go_wp2_with (go_at_call 123; refine (abs_is _ _ h1 h2).mono ?_; rintro e w' ⟨rfl, hb⟩)
  go_ret
  exact ⟨rfl, hb⟩
theorem mmask_is (x : Int) (w : World) (h1 : -2147483648 ≤ x) (h2 : x ≤ 2147483647) :
    Calls Tryz.prog 101 #[.int .i32 x] w fun e w' => e = .returned (.int .i32 (wMask x)) ∧ w = w' := by
  go_enter Tryz.func101, Tryz.ntmps101
  go_wp2_with (go_at_call 124; refine (mask_is _ _ h1 h2).mono ?_; rintro e w' ⟨rfl, rfl⟩)
  go_ret
  exact ⟨rfl, rfl⟩
theorem msign_is (x : Int) (w : World) (h1 : -2147483648 ≤ x) (h2 : x ≤ 2147483647) :
    Calls Tryz.prog 102 #[.int .i32 x] w fun e w' => e = .returned (.int .i32 (wSign x)) ∧ w = w' := by
  go_enter Tryz.func102, Tryz.ntmps102
  go_wp2_with (go_at_call 125; refine (sign_is _ _ h1 h2).mono ?_; rintro e w' ⟨rfl, rfl⟩)
  go_ret
  exact ⟨rfl, rfl⟩
theorem mhalf_is (x : Int) (w : World) :
    Calls Tryz.prog 103 #[.int .i32 x] w fun e w' => e = .returned (.int .i32 (wrap16 x)) ∧ w = w' := by
  go_enter Tryz.func103, Tryz.ntmps103
  go_wp2_with (go_at_call 126; refine (half_is _ _ _ rfl).mono ?_; rintro e w' ⟨rfl, rfl⟩)
  go_ret
  exact ⟨rfl, rfl⟩
theorem mhigh_is (x : Int) (w : World) :
    Calls Tryz.prog 104 #[.int .i32 x] w fun e w' => e = .returned (.int .i32 (wSar x 16)) ∧ w.alloc (.cells #[.int .i32 x] 21) = w' := by
  go_enter Tryz.func104, Tryz.ntmps104
  go_wp2_with (go_at_call 87; refine (sar_is _ _ _).mono ?_; rintro e w' ⟨rfl, rfl⟩)
  go_ret
  exact ⟨rfl, rfl⟩
theorem divided_is (op a b : Int) (w : World) (h : op < 22 ∨ 23 < op ∨ b = 0) :
    Calls Tryz.prog 76 #[.int .i64 op, .int .i32 a, .int .i32 b] w fun e w' => e = .returned (.tuple #[.int .i32 0, .bool false]) ∧ w = w' := by
  rcases h with h | h | rfl
  all_goals
    go_enter Tryz.func76, Tryz.ntmps76
    go_wp2
    all_goals go_returns
    all_goals exact ⟨rfl, rfl⟩
theorem divided_22 (a b : Int) (w : World) (hb : (b == 0) = false) (hn : ¬ b = 0) :
    Calls Tryz.prog 76 #[.int .i64 22, .int .i32 a, .int .i32 b] w fun e w' => e = .returned (.tuple #[.int .i32 (wQuo a b), .bool true]) ∧ w = w' := by
  go_enter Tryz.func76, Tryz.ntmps76
  go_wp2_with (go_at_call 105; refine (aquo_is _ _ _ hn).mono ?_; rintro e w' ⟨rfl, rfl⟩)
  go_returns
  exact ⟨rfl, rfl⟩
theorem divided_23 (a b : Int) (w : World) (hb : (b == 0) = false) (hn : ¬ b = 0) :
    Calls Tryz.prog 76 #[.int .i64 23, .int .i32 a, .int .i32 b] w fun e w' => e = .returned (.tuple #[.int .i32 (wRest a b), .bool true]) ∧ w = w' := by
  go_enter Tryz.func76, Tryz.ntmps76
  go_wp2_with (go_at_call 106; refine (arest_is _ _ _ hn).mono ?_; rintro e w' ⟨rfl, rfl⟩)
  go_returns
  exact ⟨rfl, rfl⟩
end Go.Proofs.YtdphiobmjdiefaaGreat
