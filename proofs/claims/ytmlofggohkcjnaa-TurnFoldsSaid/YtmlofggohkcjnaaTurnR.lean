/- What the document's own plain answers for angles (package astrolaberef09) give: vectors and waves. Conditions: the numbers are of the kind int32. -/
import Derived.Test.YtmlofggohkcjnaaTabR
import Derived.Test.YtmlofggohkcjnaaRefs
import Derived.Test.YtmlofggohkcjnaaCircle
namespace Go.Proofs.Ytmlofggohkcjnaa
open Go.RowKit

theorem TabAt.cells {w1 : World} {g : Nat} (hc : ∀ i : Nat, i < 28 → w1.cell? ⟨g, i, none⟩ = some (.int .i32 (tab i))) (hg : g < w1.heap.size) {w' : World} (hb : Below w1.heap.size w1 w') {k : Nat} (hk : k < 28) :
    w'.cell? ⟨g, k, none⟩ = some (.int .i32 (tab k)) := (hb.cell hg).trans (hc k hk)

theorem wWvB_bd {a : Int} (h1 : -2147483648 ≤ a) (h2 : a ≤ 2147483647) : -2147483648 ≤ wWvB a ∧ wWvB a ≤ 2147483647 := by
  unfold wWvB wrap32; split
  · split <;> omega
  · omega

theorem wvC_bd {a : Int} (h1 : -536870912 ≤ a) (h2 : a ≤ 536870912) : ∀ k : Nat, -(1073741824 * ((k : Int) + 1)) ≤ wvC a k ∧ wvC a k ≤ 1073741824 * ((k : Int) + 1) := by
  intro k
  induction k with
  | zero => exact ⟨(by decide : (-(1073741824 * ((0 : Int) + 1)) : Int) ≤ 1073741824), (by decide : (1073741824 : Int) ≤ 1073741824 * (0 + 1))⟩
  | succ k ih =>
    have := wvY_bd h1 h2 (k + 1)
    show -(1073741824 * (((k + 1 : Nat) : Int) + 1)) ≤ wvC a k + wvY a (k + 1) ∧ wvC a k + wvY a (k + 1) ≤ 1073741824 * (((k + 1 : Nat) : Int) + 1)
    omega
theorem wvS_bd {a : Int} (h1 : -536870912 ≤ a) (h2 : a ≤ 536870912) : ∀ k : Nat, -(1073741824 * ((k : Int) + 1)) ≤ wvS a k ∧ wvS a k ≤ 1073741824 * ((k : Int) + 1) := by
  intro k
  induction k with
  | zero => exact ⟨(by omega : (-(1073741824 * ((0 : Int) + 1)) : Int) ≤ 2 * a), (by omega : 2 * a ≤ 1073741824 * ((0 : Int) + 1))⟩
  | succ k ih =>
    have := wvX_bd h1 h2 (k + 1)
    show -(1073741824 * (((k + 1 : Nat) : Int) + 1)) ≤ wvS a k + wvX a (k + 1) ∧ wvS a k + wvX a (k + 1) ≤ 1073741824 * (((k + 1 : Nat) : Int) + 1)
    omega
theorem tdiv_le {x m B : Int} (_hm : 1 ≤ m) (h1 : -B ≤ x) (h2 : x ≤ B) : -B ≤ x.tdiv m ∧ x.tdiv m ≤ B := by
  have t : (x.tdiv m).natAbs ≤ x.natAbs := by
    rw [Int.natAbs_tdiv]; exact Nat.div_le_self _ _
  omega

theorem nextT_neg (y w m n : Int) : nextT y w m n = -(((y * w).tdiv 1073741824).tdiv m).tdiv n := by unfold nextT; omega

set_option maxHeartbeats 1000000 in
theorem refWaves_is (a : Int) (w : World) (a1 : -536870912 ≤ a) (a2 : a ≤ 536870912) :
    Calls Try.prog 13 #[.int .i32 a] w fun e w' => e = .returned (.tuple #[.int .i64 (wvS a 5), .int .i64 (wvC a 5)]) ∧ w = w' := by
  have tt := abs_mul (a := 2 * a) (b := 2 * a) (A := 1073741824) (B := 1073741824) (by omega) (by omega) (by omega) (by omega)
  have tt0 : 0 ≤ 2 * a * (2 * a) := sq_nonneg (2 * a)
  have W := wvW_bd a1 a2
  obtain ⟨W1, W2, _⟩ := W
  have EW := Lib.hid (show 2 * a * (2 * a) / 1073741824 = wvW a from rfl)
  go_enter Try.func13, Try.ntmps13
  go_wp2
  rw [EW.out]
  go_loop [6, 7, 8, 9, 10] (fun ss sc sx sy i => ∃ j : Nat, j ≤ 5 ∧ i = .int .i64 ((j : Int) + 1) ∧ ss = .int .i64 (wvS a j) ∧ sc = .int .i64 (wvC a j) ∧ sx = .int .i64 (wvX a j) ∧ sy = .int .i64 (wvY a j)) (fun _ _ _ _ i => 6 - (intOf i).toNat)
  case atStart => exact ⟨0, by omega, rfl, rfl, rfl, rfl, rfl⟩
  case round =>
    obtain ⟨j, hj, rfl, rfl, rfl, rfl, rfl⟩ := hrel
    by_cases hlt : j < 5
    · have hlt' : (j : Int) + 1 ≤ 5 := by omega
      have SY := Lib.hid (show wvY a (j + 1) = nextT (wvY a j) (wvW a) (2 * ((j : Int) + 1) - 1) (2 * ((j : Int) + 1)) from rfl)
      have SX := Lib.hid (show wvX a (j + 1) = nextT (wvX a j) (wvW a) (2 * ((j : Int) + 1)) (2 * ((j : Int) + 1) + 1) from rfl)
      have SC := Lib.hid (show wvC a (j + 1) = wvC a j + wvY a (j + 1) from rfl)
      have SS := Lib.hid (show wvS a (j + 1) = wvS a j + wvX a (j + 1) from rfl)
      have c1 := wvC_bd a1 a2 j
      have c2 := wvS_bd a1 a2 j
      have d1 := wvY_bd a1 a2 j
      have d2 := wvX_bd a1 a2 j
      have p1 := abs_mul (a := wvY a j) (b := wvW a) (A := 1073741824) (B := 1073741824) d1.1 d1.2 (by omega) W2
      have p2 := abs_mul (a := wvX a j) (b := wvW a) (A := 1073741824) (B := 1073741824) d2.1 d2.2 (by omega) W2
      have m1 := tdiv_le (m := 1073741824) (by decide) p1.1 p1.2
      have m2 := tdiv_le (m := 1073741824) (by decide) p2.1 p2.2
      have n1 := tdiv_le (m := 2 * ((j : Int) + 1) - 1) (by omega) m1.1 m1.2
      have n2 := tdiv_le (m := 2 * ((j : Int) + 1)) (by omega) m2.1 m2.2
      have o1 := tdiv_le (m := 2 * ((j : Int) + 1)) (by omega) n1.1 n1.2
      have o2 := tdiv_le (m := 2 * ((j : Int) + 1) + 1) (by omega) n2.1 n2.2
      have e1 := wvY_bd a1 a2 (j + 1)
      have e2 := wvX_bd a1 a2 (j + 1)
      rw [SY.out] at e1
      rw [SX.out] at e2
      rw [nextT_neg] at e1 e2
      go_wp2
      go_round
      case rel => exact ⟨j + 1, by omega, by go_num, by rw [SS.out, SX.out, nextT_neg], by rw [SC.out, SY.out, nextT_neg], by rw [SX.out, nextT_neg], by rw [SY.out, nextT_neg]⟩
      case measure => simp [intOf]; omega
    · obtain rfl : j = 5 := by omega
      go_wp2
      go_returns
      exact ⟨rfl, rfl⟩

theorem w32_bd (x : Int) : -2147483648 ≤ wrap32 x ∧ wrap32 x ≤ 2147483647 := by unfold wrap32; omega
theorem refWaves_v (a s c : Int) (w : World) (a1 : -536870912 ≤ a) (a2 : a ≤ 536870912) (hs : wvS a 5 = s) (hc : wvC a 5 = c) :
    Calls Try.prog 13 #[.int .i32 a] w fun e w' => e = .returned (.tuple #[.int .i64 s, .int .i64 c]) ∧ w = w' := by
  subst hs hc; exact refWaves_is a w a1 a2
theorem wv_small {a : Int} (h1 : -536870912 ≤ a) (h2 : a ≤ 536870912) : (-3221225504 ≤ wvS a 5 ∧ wvS a 5 ≤ 3221225504) ∧ (-3221225504 ≤ wvC a 5 ∧ wvC a 5 ≤ 3221225504) := by
  have hfar : far = 935919873 := rfl
  have s := sin_near h1 h2
  have c := cos_near h1 h2
  have sb := sin_bd (a := a) (by omega) (by omega)
  have cb := cos_bd (a := a) (by omega) (by omega)
  have o := one_pos
  refine ⟨⟨?_, ?_⟩, ⟨?_, ?_⟩⟩
  all_goals
    refine cancel_mul o ?_
    omega
theorem refNear_true (a y x : Int) (w : World) (y0 : 0 ≤ y) (yx : y ≤ x) (x2 : x ≤ 2147483647) (a1 : -536870912 ≤ a) (a2 : a ≤ 536870912)
    (n1 : -(4096 * (x + y)) ≤ x * wvS a 5 - y * wvC a 5) (n2 : x * wvS a 5 - y * wvC a 5 ≤ 4096 * (x + y)) :
    Calls Try.prog 8 #[.int .i32 a, .int .i32 y, .int .i32 x] w fun e w' => e = .returned (.bool true) ∧ w = w' := by
  obtain ⟨sb, cb⟩ := wv_small a1 a2
  obtain ⟨s, hs⟩ : ∃ s, wvS a 5 = s := ⟨_, rfl⟩
  obtain ⟨c, hc⟩ : ∃ c, wvC a 5 = c := ⟨_, rfl⟩
  rw [hs, hc] at n1 n2
  rw [hs] at sb
  rw [hc] at cb
  have HS := Lib.hid hs
  have HC := Lib.hid hc
  clear hs hc
  have p1 := abs_mul (a := x) (b := s) (A := 2147483647) (B := 3221225504) (by omega) x2 sb.1 sb.2
  have p2 := abs_mul (a := y) (b := c) (A := 2147483647) (B := 3221225504) (by omega) (by omega) cb.1 cb.2
  by_cases hf : x * s - y * c < 0
  all_goals
    go_enter Try.func8, Try.ntmps8
    go_wp2_with (go_at_call 13; refine (refWaves_v _ s c _ a1 a2 HS.out HC.out).mono ?_; rintro e w1 ⟨rfl, rfl⟩)
    go_ret
    exact ⟨by first | rfl | (simp; omega), rfl⟩
theorem refRound_true (y x : Int) (w : World) (xb : -1073742336 ≤ x ∧ x ≤ 1073742336) (yb : -1073742336 ≤ y ∧ y ≤ 1073742336) (n1 : -1099511627776 < y * y + x * x - 1152921504606846976) (n2 : y * y + x * x - 1152921504606846976 < 1099511627776) :
    Calls Try.prog 11 #[.int .i32 y, .int .i32 x] w fun e w' => e = .returned (.bool true) ∧ w = w' := by
  have p1 := sq_nonneg x
  have p2 := sq_nonneg y
  go_enter Try.func11, Try.ntmps11
  go_wp2
  go_ret
  exact ⟨by first | rfl | (simp; omega), rfl⟩

end Go.Proofs.Ytmlofggohkcjnaa
