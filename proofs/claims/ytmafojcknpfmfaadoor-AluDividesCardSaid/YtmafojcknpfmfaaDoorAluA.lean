/- What package alu's functions answer. Conditions: the numbers are of the parameters' kinds. -/
import Derived.Test.YtmafojcknpfmfaaDoorProg
import Derived.Test.YtmafojcknpfmfaaDoorAluD
import Derived.Test.YtmafojcknpfmfaaDoorShiftA
import Derived.Test.YtmafojcknpfmfaaDoorPickA
import Derived.Test.YtmafojcknpfmfaaDoorSatA
import Derived.Test.YtmafojcknpfmfaaDoorFixA
import Derived.Test.YtmafojcknpfmfaaDoorOpsA
import Derived.Test.YtmafojcknpfmfaaDoorKeep
import Derived.Handy
import Derived.Lib.Hide
namespace Go.Proofs.YtmafojcknpfmfaaDoor
open Go.RowKit

def fnV (k : Nat) : Value := .func (.func k) #[] #[]
/-- The functions of two words, in the operations' order. -/
def twoL : List Nat := [16, 17, 18, 19, 20, 21, 22, 23, 24, 25, 26, 27, 28, 29, 30, 31, 32, 33, 34, 35, 36]
def oneL : List Nat := [37, 38, 39, 40, 41, 42, 43]
def twoF (op : Int) : Value := if 1 ≤ op ∧ op ≤ 21 then fnV (twoL.getD (op - 1).toNat 0) else .nilFunc
def oneF (op : Int) : Value := if 24 ≤ op ∧ op ≤ 30 then fnV (oneL.getD (op - 24).toNat 0) else .nilFunc
theorem twoF_out {op : Int} (h : ¬ (1 ≤ op ∧ op ≤ 21)) : twoF op = .nilFunc := by unfold twoF; rw [if_neg h]
theorem oneF_out {op : Int} (h : ¬ (24 ≤ op ∧ op ≤ 30)) : oneF op = .nilFunc := by unfold oneF; rw [if_neg h]

theorem ofTwo_is (op : Int) (F : Value) (w : World) (hF : twoF op = F) :
    Calls Tryd.prog 11 #[.int .i64 op] w fun e w' => e = .returned F ∧ w = w' := by
  have E := Lib.hid hF
  clear hF
  go_enter Tryd.func11, Tryd.ntmps11
  go_wp2
  all_goals go_ret
  all_goals refine ⟨?_, rfl⟩
  all_goals rw [← E.out]
  all_goals simp only [beq_iff_eq, beq_eq_false_iff_ne] at *
  all_goals first
    | (subst_vars; rfl)
    | (rw [twoF_out (by omega)]; rfl)
theorem ofOne_is (op : Int) (F : Value) (w : World) (hF : oneF op = F) :
    Calls Tryd.prog 12 #[.int .i64 op] w fun e w' => e = .returned F ∧ w = w' := by
  have E := Lib.hid hF
  clear hF
  go_enter Tryd.func12, Tryd.ntmps12
  go_wp2
  all_goals go_ret
  all_goals refine ⟨?_, rfl⟩
  all_goals rw [← E.out]
  all_goals simp only [beq_iff_eq, beq_eq_false_iff_ne] at *
  all_goals first
    | (subst_vars; rfl)
    | (rw [oneF_out (by omega)]; rfl)

theorem aadd_is (a b : Int) (w : World) :
    Calls Tryd.prog 16 #[.int .i32 a, .int .i32 b] w fun e w' => e = .returned (.int .i32 (wrap32 (a + b))) ∧ w = w' := by
  go_enter Tryd.func16, Tryd.ntmps16
  go_wp2
  go_ret
  exact ⟨rfl, rfl⟩
theorem asub_is (a b : Int) (w : World) :
    Calls Tryd.prog 17 #[.int .i32 a, .int .i32 b] w fun e w' => e = .returned (.int .i32 (wrap32 (a - b))) ∧ w = w' := by
  go_enter Tryd.func17, Tryd.ntmps17
  go_wp2
  go_ret
  exact ⟨rfl, rfl⟩
theorem aand_is (a b : Int) (w : World) :
    Calls Tryd.prog 20 #[.int .i32 a, .int .i32 b] w fun e w' => e = .returned (.int .i32 (wAnd a b)) ∧ w = w' := by
  go_enter Tryd.func20, Tryd.ntmps20
  go_wp2
  go_ret
  exact ⟨ret_int (bits_i32_and _ _), rfl⟩
theorem aor_is (a b : Int) (w : World) :
    Calls Tryd.prog 21 #[.int .i32 a, .int .i32 b] w fun e w' => e = .returned (.int .i32 (wOr a b)) ∧ w = w' := by
  go_enter Tryd.func21, Tryd.ntmps21
  go_wp2
  go_ret
  exact ⟨ret_int (bits_i32_or _ _), rfl⟩
theorem axor_is (a b : Int) (w : World) :
    Calls Tryd.prog 22 #[.int .i32 a, .int .i32 b] w fun e w' => e = .returned (.int .i32 (wXor a b)) ∧ w = w' := by
  go_enter Tryd.func22, Tryd.ntmps22
  go_wp2
  go_ret
  exact ⟨ret_int (bits_i32_xor _ _), rfl⟩
theorem abic_is (a b : Int) (w : World) :
    Calls Tryd.prog 23 #[.int .i32 a, .int .i32 b] w fun e w' => e = .returned (.int .i32 (wBic a b)) ∧ w = w' := by
  go_enter Tryd.func23, Tryd.ntmps23
  go_wp2
  go_ret
  exact ⟨ret_int (bits_i32_andNot _ _), rfl⟩
theorem aquo_is (a b : Int) (w : World) (hn : ¬ b = 0) :
    Calls Tryd.prog 44 #[.int .i32 a, .int .i32 b] w fun e w' => e = .returned (.int .i32 (wQuo a b)) ∧ w = w' := by
  go_enter Tryd.func44, Tryd.ntmps44
  go_wp2
  all_goals go_ret
  all_goals exact ⟨rfl, rfl⟩
theorem arest_is (a b : Int) (w : World) (hn : ¬ b = 0) :
    Calls Tryd.prog 45 #[.int .i32 a, .int .i32 b] w fun e w' => e = .returned (.int .i32 (wRest a b)) ∧ w = w' := by
  go_enter Tryd.func45, Tryd.ntmps45
  go_wp2
  all_goals go_ret
  all_goals exact ⟨rfl, rfl⟩

theorem mclz_is (x : Int) (w : World) :
    Calls Tryd.prog 37 #[.int .i32 x] w fun e w' => e = .returned (.int .i32 (wClz x)) ∧ w = w' := by
  go_enter Tryd.func37, Tryd.ntmps37
  go_wp2_with (go_at_call 47; refine (clz_is _ _).mono ?_; rintro e w' ⟨rfl, rfl⟩)
  go_ret
  exact ⟨rfl, rfl⟩
theorem mneg_is (x : Int) (w : World) (h1 : -2147483648 ≤ x) (h2 : x ≤ 2147483647) :
    Calls Tryd.prog 38 #[.int .i32 x] w fun e w' => e = .returned (.int .i32 (wCut (-x))) ∧ Below w.heap.size w w' := by
  go_enter Tryd.func38, Tryd.ntmps38
  go_wp2_with (go_at_call 62; refine (neg_is _ _ h1 h2).mono ?_; rintro e w' ⟨rfl, hb⟩)
  go_ret
  exact ⟨rfl, hb⟩
theorem mabs_is (x : Int) (w : World) (h1 : -2147483648 ≤ x) (h2 : x ≤ 2147483647) :
    Calls Tryd.prog 39 #[.int .i32 x] w fun e w' => e = .returned (.int .i32 (wAbs x)) ∧ Below w.heap.size w w' := by
  go_enter Tryd.func39, Tryd.ntmps39
  go_wp2_with (go_at_call 63; refine (abs_is _ _ h1 h2).mono ?_; rintro e w' ⟨rfl, hb⟩)
  go_ret
  exact ⟨rfl, hb⟩
theorem mmask_is (x : Int) (w : World) (h1 : -2147483648 ≤ x) (h2 : x ≤ 2147483647) :
    Calls Tryd.prog 40 #[.int .i32 x] w fun e w' => e = .returned (.int .i32 (wMask x)) ∧ w = w' := by
  go_enter Tryd.func40, Tryd.ntmps40
  go_wp2_with (go_at_call 64; refine (mask_is _ _ h1 h2).mono ?_; rintro e w' ⟨rfl, rfl⟩)
  go_ret
  exact ⟨rfl, rfl⟩
theorem msign_is (x : Int) (w : World) (h1 : -2147483648 ≤ x) (h2 : x ≤ 2147483647) :
    Calls Tryd.prog 41 #[.int .i32 x] w fun e w' => e = .returned (.int .i32 (wSign x)) ∧ w = w' := by
  go_enter Tryd.func41, Tryd.ntmps41
  go_wp2_with (go_at_call 65; refine (sign_is _ _ h1 h2).mono ?_; rintro e w' ⟨rfl, rfl⟩)
  go_ret
  exact ⟨rfl, rfl⟩
theorem mhalf_is (x : Int) (w : World) :
    Calls Tryd.prog 42 #[.int .i32 x] w fun e w' => e = .returned (.int .i32 (wrap16 x)) ∧ w = w' := by
  go_enter Tryd.func42, Tryd.ntmps42
  go_wp2_with (go_at_call 66; refine (half_is _ _ _ rfl).mono ?_; rintro e w' ⟨rfl, rfl⟩)
  go_ret
  exact ⟨rfl, rfl⟩
theorem mhigh_is (x : Int) (w : World) :
    Calls Tryd.prog 43 #[.int .i32 x] w fun e w' => e = .returned (.int .i32 (wSar x 16)) ∧ w.alloc (.cells #[.int .i32 x] 21) = w' := by
  go_enter Tryd.func43, Tryd.ntmps43
  go_wp2_with (go_at_call 26; refine (sar_is _ _ _).mono ?_; rintro e w' ⟨rfl, rfl⟩)
  go_ret
  exact ⟨rfl, rfl⟩
theorem abits_is (x : Int) (w : World) (h1 : -2147483648 ≤ x) (h2 : x ≤ 2147483647) :
    Calls Tryd.prog 15 #[.int .i32 x] w fun e w' => e = .returned (.int .i64 (wLen x)) ∧ w = w' := by
  have E := Lib.hid (len_clz h1 h2)
  have B := wClz_bd (wFlip x (wSign x))
  go_enter Tryd.func15, Tryd.ntmps15
  go_wp2_with (first
    | (go_at_call 41; refine (msign_is _ _ h1 h2).mono ?_; rintro e w' ⟨rfl, rfl⟩)
    | (go_at_call 46; refine (flip_is _ _ _).mono ?_; rintro e w' ⟨rfl, rfl⟩)
    | (go_at_call 47; refine (clz_is _ _).mono ?_; rintro e w' ⟨rfl, rfl⟩))
  go_ret
  exact ⟨ret_int E.out, rfl⟩

theorem divided_is (op a b : Int) (w : World) (h : op < 22 ∨ 23 < op ∨ b = 0) :
    Calls Tryd.prog 13 #[.int .i64 op, .int .i32 a, .int .i32 b] w fun e w' => e = .returned (.tuple #[.int .i32 0, .bool false]) ∧ w = w' := by
  rcases h with h | h | rfl
  all_goals
    go_enter Tryd.func13, Tryd.ntmps13
    go_wp2
    all_goals go_returns
    all_goals exact ⟨rfl, rfl⟩
theorem divided_22 (a b : Int) (w : World) (hb : (b == 0) = false) (hn : ¬ b = 0) :
    Calls Tryd.prog 13 #[.int .i64 22, .int .i32 a, .int .i32 b] w fun e w' => e = .returned (.tuple #[.int .i32 (wQuo a b), .bool true]) ∧ w = w' := by
  go_enter Tryd.func13, Tryd.ntmps13
  go_wp2_with (go_at_call 44; refine (aquo_is _ _ _ hn).mono ?_; rintro e w' ⟨rfl, rfl⟩)
  go_returns
  exact ⟨rfl, rfl⟩
theorem divided_23 (a b : Int) (w : World) (hb : (b == 0) = false) (hn : ¬ b = 0) :
    Calls Tryd.prog 13 #[.int .i64 23, .int .i32 a, .int .i32 b] w fun e w' => e = .returned (.tuple #[.int .i32 (wRest a b), .bool true]) ∧ w = w' := by
  go_enter Tryd.func13, Tryd.ntmps13
  go_wp2_with (go_at_call 45; refine (arest_is _ _ _ hn).mono ?_; rintro e w' ⟨rfl, rfl⟩)
  go_returns
  exact ⟨rfl, rfl⟩
theorem acost_is (op a : Int) (w : World) (h1 : -2147483648 ≤ a) (h2 : a ≤ 2147483647) (hc : ∀ i : Nat, i < 44 → w.cell? ⟨0, i, none⟩ = some (.int .i64 (costZ i))) :
    Calls Tryd.prog 10 #[.int .i64 op, .int .i32 a] w fun e w' => e = .returned (.int .i64 (wCostA op a)) ∧ w = w' := by
  have HC := Lib.hid hc
  clear hc
  have B := wLen_bd h1 h2
  rcases (show op = 22 ∨ op = 23 ∨ (¬ op = 22 ∧ ¬ op = 23) by omega) with rfl | rfl | ⟨n1, n2⟩
  · have E := Lib.hid (show wCost 22 + wLen a = wCostA 22 a from rfl)
    have e2 : wCost 22 = 2 := by decide +kernel
    go_enter Tryd.func10, Tryd.ntmps10
    go_wp2_with (first
      | (go_at_call 14; refine (cost_is _ _ HC.out).mono ?_; rintro e w' ⟨rfl, rfl⟩)
      | (go_at_call 15; refine (abits_is _ _ h1 h2).mono ?_; rintro e w' ⟨rfl, rfl⟩))
    go_ret
    exact ⟨ret_int E.out, rfl⟩
  · have E := Lib.hid (show wCost 23 + wLen a = wCostA 23 a from rfl)
    have e2 : wCost 23 = 2 := by decide +kernel
    go_enter Tryd.func10, Tryd.ntmps10
    go_wp2_with (first
      | (go_at_call 14; refine (cost_is _ _ HC.out).mono ?_; rintro e w' ⟨rfl, rfl⟩)
      | (go_at_call 15; refine (abits_is _ _ h1 h2).mono ?_; rintro e w' ⟨rfl, rfl⟩))
    go_ret
    exact ⟨ret_int E.out, rfl⟩
  · have E := Lib.hid (show wCost op = wCostA op a by unfold wCostA; rw [if_neg (by omega)]; omega)
    have m1 : (op == 22) = false := by simpa using n1
    have m2 : (op == 23) = false := by simpa using n2
    go_enter Tryd.func10, Tryd.ntmps10
    go_wp2_with (first
      | (go_at_call 14; refine (cost_is _ _ HC.out).mono ?_; rintro e w' ⟨rfl, rfl⟩))
    go_ret
    exact ⟨ret_int E.out, rfl⟩
end Go.Proofs.YtmafojcknpfmfaaDoor
