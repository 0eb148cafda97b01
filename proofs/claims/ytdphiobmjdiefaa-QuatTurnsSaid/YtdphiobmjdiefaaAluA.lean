/- What package alu's functions answer. Conditions: the numbers are of the parameters' kinds. -/
import Derived.Test.YtdphiobmjdiefaaProg
import Derived.Test.YtdphiobmjdiefaaNum
import Derived.Test.YtdphiobmjdiefaaLayers
import Derived.Handy
import Derived.Lib.Hide
namespace Go.Proofs.Ytdphiobmjdiefaa
open Go.RowKit

def fnV (k : Nat) : Value := .func (.func k) #[] #[]
/-- The functions of two words, in the operations' order. -/
def twoL : List Nat := [52, 53, 54, 55, 56, 57, 58, 59, 60, 61, 62, 63, 64, 65, 66, 67, 68, 69, 70, 71, 72]
def oneL : List Nat := [73, 74, 75, 76, 77, 78, 79]
def twoF (op : Int) : Value := if 1 ≤ op ∧ op ≤ 21 then fnV (twoL.getD (op - 1).toNat 0) else .nilFunc
def oneF (op : Int) : Value := if 24 ≤ op ∧ op ≤ 30 then fnV (oneL.getD (op - 24).toNat 0) else .nilFunc
theorem twoF_out {op : Int} (h : ¬ (1 ≤ op ∧ op ≤ 21)) : twoF op = .nilFunc := by unfold twoF; rw [if_neg h]
theorem oneF_out {op : Int} (h : ¬ (24 ≤ op ∧ op ≤ 30)) : oneF op = .nilFunc := by unfold oneF; rw [if_neg h]

theorem ofTwo_is (op : Int) (F : Value) (w : World) (hF : twoF op = F) :
    Calls Try.prog 49 #[.int .i64 op] w fun e w' => e = .returned F ∧ w = w' := by
  have E := Lib.hid hF
  clear hF
  go_enter Try.func49, Try.ntmps49
  go_wp2
  all_goals go_ret
  all_goals refine ⟨?_, rfl⟩
  all_goals rw [← E.out]
  all_goals simp only [beq_iff_eq, beq_eq_false_iff_ne] at *
  all_goals first
    | (subst_vars; rfl)
    | (rw [twoF_out (by omega)]; rfl)
theorem ofOne_is (op : Int) (F : Value) (w : World) (hF : oneF op = F) :
    Calls Try.prog 50 #[.int .i64 op] w fun e w' => e = .returned F ∧ w = w' := by
  have E := Lib.hid hF
  clear hF
  go_enter Try.func50, Try.ntmps50
  go_wp2
  all_goals go_ret
  all_goals refine ⟨?_, rfl⟩
  all_goals rw [← E.out]
  all_goals simp only [beq_iff_eq, beq_eq_false_iff_ne] at *
  all_goals first
    | (subst_vars; rfl)
    | (rw [oneF_out (by omega)]; rfl)

theorem aadd_is (a b : Int) (w : World) :
    Calls Try.prog 52 #[.int .i32 a, .int .i32 b] w fun e w' => e = .returned (.int .i32 (wrap32 (a + b))) ∧ w = w' := by
  go_enter Try.func52, Try.ntmps52
  go_wp2
  go_ret
  exact ⟨rfl, rfl⟩
theorem asub_is (a b : Int) (w : World) :
    Calls Try.prog 53 #[.int .i32 a, .int .i32 b] w fun e w' => e = .returned (.int .i32 (wrap32 (a - b))) ∧ w = w' := by
  go_enter Try.func53, Try.ntmps53
  go_wp2
  go_ret
  exact ⟨rfl, rfl⟩
theorem aand_is (a b : Int) (w : World) :
    Calls Try.prog 56 #[.int .i32 a, .int .i32 b] w fun e w' => e = .returned (.int .i32 (wAnd a b)) ∧ w = w' := by
  go_enter Try.func56, Try.ntmps56
  go_wp2
  go_ret
  exact ⟨ret_int (bits_i32_and _ _), rfl⟩
theorem aor_is (a b : Int) (w : World) :
    Calls Try.prog 57 #[.int .i32 a, .int .i32 b] w fun e w' => e = .returned (.int .i32 (wOr a b)) ∧ w = w' := by
  go_enter Try.func57, Try.ntmps57
  go_wp2
  go_ret
  exact ⟨ret_int (bits_i32_or _ _), rfl⟩
theorem axor_is (a b : Int) (w : World) :
    Calls Try.prog 58 #[.int .i32 a, .int .i32 b] w fun e w' => e = .returned (.int .i32 (wXor a b)) ∧ w = w' := by
  go_enter Try.func58, Try.ntmps58
  go_wp2
  go_ret
  exact ⟨ret_int (bits_i32_xor _ _), rfl⟩
theorem abic_is (a b : Int) (w : World) :
    Calls Try.prog 59 #[.int .i32 a, .int .i32 b] w fun e w' => e = .returned (.int .i32 (wBic a b)) ∧ w = w' := by
  go_enter Try.func59, Try.ntmps59
  go_wp2
  go_ret
  exact ⟨ret_int (bits_i32_andNot _ _), rfl⟩
theorem aquo_is (a b : Int) (w : World) (hn : ¬ b = 0) :
    Calls Try.prog 80 #[.int .i32 a, .int .i32 b] w fun e w' => e = .returned (.int .i32 (wQuo a b)) ∧ w = w' := by
  go_enter Try.func80, Try.ntmps80
  go_wp2
  all_goals go_ret
  all_goals exact ⟨rfl, rfl⟩
theorem arest_is (a b : Int) (w : World) (hn : ¬ b = 0) :
    Calls Try.prog 81 #[.int .i32 a, .int .i32 b] w fun e w' => e = .returned (.int .i32 (wRest a b)) ∧ w = w' := by
  go_enter Try.func81, Try.ntmps81
  go_wp2
  all_goals go_ret
  all_goals exact ⟨rfl, rfl⟩

theorem mclz_is (x : Int) (w : World) :
    Calls Try.prog 73 #[.int .i32 x] w fun e w' => e = .returned (.int .i32 (wClz x)) ∧ w = w' := by
  go_enter Try.func73, Try.ntmps73
  go_wp2_with (go_at_call 96; refine (clz_is _ _).mono ?_; rintro e w' ⟨rfl, rfl⟩)
  go_ret
  exact ⟨rfl, rfl⟩
theorem mneg_is (x : Int) (w : World) (h1 : -2147483648 ≤ x) (h2 : x ≤ 2147483647) :
    Calls Try.prog 74 #[.int .i32 x] w fun e w' => e = .returned (.int .i32 (wCut (-x))) ∧ Below w.heap.size w w' := by
  go_enter Try.func74, Try.ntmps74
  go_wp2_with (go_at_call 97; refine (neg_is _ _ h1 h2).mono ?_; rintro e w' ⟨rfl, hb⟩)
  go_ret
  exact ⟨rfl, hb⟩
theorem mabs_is (x : Int) (w : World) (h1 : -2147483648 ≤ x) (h2 : x ≤ 2147483647) :
    Calls Try.prog 75 #[.int .i32 x] w fun e w' => e = .returned (.int .i32 (wAbs x)) ∧ Below w.heap.size w w' := by
  go_enter Try.func75, Try.ntmps75
  go_wp2_with (go_at_call 98; refine (abs_is _ _ h1 h2).mono ?_; rintro e w' ⟨rfl, hb⟩)
  go_ret
  exact ⟨rfl, hb⟩
theorem mmask_is (x : Int) (w : World) (h1 : -2147483648 ≤ x) (h2 : x ≤ 2147483647) :
    Calls Try.prog 76 #[.int .i32 x] w fun e w' => e = .returned (.int .i32 (wMask x)) ∧ w = w' := by
  go_enter Try.func76, Try.ntmps76
  go_wp2_with (go_at_call 99; refine (mask_is _ _ h1 h2).mono ?_; rintro e w' ⟨rfl, rfl⟩)
  go_ret
  exact ⟨rfl, rfl⟩
theorem msign_is (x : Int) (w : World) (h1 : -2147483648 ≤ x) (h2 : x ≤ 2147483647) :
    Calls Try.prog 77 #[.int .i32 x] w fun e w' => e = .returned (.int .i32 (wSign x)) ∧ w = w' := by
  go_enter Try.func77, Try.ntmps77
  go_wp2_with (go_at_call 100; refine (sign_is _ _ h1 h2).mono ?_; rintro e w' ⟨rfl, rfl⟩)
  go_ret
  exact ⟨rfl, rfl⟩
theorem mhalf_is (x : Int) (w : World) :
    Calls Try.prog 78 #[.int .i32 x] w fun e w' => e = .returned (.int .i32 (wrap16 x)) ∧ w = w' := by
  go_enter Try.func78, Try.ntmps78
  go_wp2_with (go_at_call 101; refine (half_is _ _ _ rfl).mono ?_; rintro e w' ⟨rfl, rfl⟩)
  go_ret
  exact ⟨rfl, rfl⟩
theorem mhigh_is (x : Int) (w : World) :
    Calls Try.prog 79 #[.int .i32 x] w fun e w' => e = .returned (.int .i32 (wSar x 16)) ∧ w.alloc (.cells #[.int .i32 x] 21) = w' := by
  go_enter Try.func79, Try.ntmps79
  go_wp2_with (go_at_call 62; refine (sar_is _ _ _).mono ?_; rintro e w' ⟨rfl, rfl⟩)
  go_ret
  exact ⟨rfl, rfl⟩
theorem divided_is (op a b : Int) (w : World) (h : op < 22 ∨ 23 < op ∨ b = 0) :
    Calls Try.prog 51 #[.int .i64 op, .int .i32 a, .int .i32 b] w fun e w' => e = .returned (.tuple #[.int .i32 0, .bool false]) ∧ w = w' := by
  rcases h with h | h | rfl
  all_goals
    go_enter Try.func51, Try.ntmps51
    go_wp2
    all_goals go_returns
    all_goals exact ⟨rfl, rfl⟩
theorem divided_22 (a b : Int) (w : World) (hb : (b == 0) = false) (hn : ¬ b = 0) :
    Calls Try.prog 51 #[.int .i64 22, .int .i32 a, .int .i32 b] w fun e w' => e = .returned (.tuple #[.int .i32 (wQuo a b), .bool true]) ∧ w = w' := by
  go_enter Try.func51, Try.ntmps51
  go_wp2_with (go_at_call 80; refine (aquo_is _ _ _ hn).mono ?_; rintro e w' ⟨rfl, rfl⟩)
  go_returns
  exact ⟨rfl, rfl⟩
theorem divided_23 (a b : Int) (w : World) (hb : (b == 0) = false) (hn : ¬ b = 0) :
    Calls Try.prog 51 #[.int .i64 23, .int .i32 a, .int .i32 b] w fun e w' => e = .returned (.tuple #[.int .i32 (wRest a b), .bool true]) ∧ w = w' := by
  go_enter Try.func51, Try.ntmps51
  go_wp2_with (go_at_call 81; refine (arest_is _ _ _ hn).mono ?_; rintro e w' ⟨rfl, rfl⟩)
  go_returns
  exact ⟨rfl, rfl⟩
end Go.Proofs.Ytdphiobmjdiefaa
