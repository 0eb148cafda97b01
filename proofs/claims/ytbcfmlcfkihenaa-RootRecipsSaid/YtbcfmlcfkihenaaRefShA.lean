/- What the document's own plain answers for shifted words (package astrolaberef02) give. -/
import Derived.Test.YtbcfmlcfkihenaaRefA
import Derived.Test.YtbcfmlcfkihenaaShiftD
import Derived.Test.YtbcfmlcfkihenaaRowM
namespace Go.Proofs.Ytbcfmlcfkihenaa
open Go.RowKit

/-- The lowest k bits of a row of bits, noughts above. -/
def biTo (b : BitVec 32) (k i : Nat) : Int := if i < k then bi b i else 0
theorem biTo_step (b : BitVec 32) (k : Nat) : row 32 .i64 (upd (biTo b k) k (bi b k)) = row 32 .i64 (biTo b (k + 1)) := by
  apply row_ext
  intro i _
  unfold upd biTo
  by_cases h : i = k
  · subst h; simp
  · by_cases h2 : i < k
    · simp [h, h2, Nat.lt_succ_of_lt h2]
    · simp [h, h2, show ¬ i < k + 1 by omega]
theorem biTo_32 (b : BitVec 32) : row 32 .i64 (biTo b 32) = row 32 .i64 (bi b) := row_ext _ fun i hi => by unfold biTo; rw [if_pos hi]
theorem biTo_0 (b : BitVec 32) : row 32 .i64 (biTo b 0) = row 32 .i64 fun _ => 0 := row_ext _ fun i _ => by unfold biTo; rw [if_neg (by omega)]

theorem info32 : (Try.prog.info? 46).map (·.size) = some 32 := by kernel_rfl

set_option maxHeartbeats 1000000 in
theorem refBits_is (x : Int) (w : World) (h1 : -2147483648 ≤ x) (h2 : x ≤ 2147483647) :
    Calls Try.prog 36 #[.int .i32 x] w fun e w' => e = .returned (.agg (row 32 .i64 (bi (wd x)))) ∧ (w.alloc (.cells (row 32 .i64 (bi (wd x))) 46)).alloc (.cells (row 32 .i64 (bi (wd x))) 46) = w' := by
  go_enter Try.func36, Try.ntmps36
  go_wp2_with (go_at_call 44; refine (refPlain_is x _ _ rfl (by omega) (by omega)).mono ?_; rintro e w' ⟨rfl, rfl⟩)
  rw [row_32]
  go_loopw [4, 5] (fun y i wr => ∃ k : Nat, k ≤ 32 ∧ i = .int .i64 k ∧ y = .int .i64 (x % 4294967296 / 2 ^ k) ∧ wr = (w.alloc (.cells (row 32 .i64 fun _ => 0) 46)).alloc (.cells (row 32 .i64 (biTo (wd x) k)) 46)) (fun _ i _ => 32 - (intOf i).toNat)
  case atStart => exact ⟨0, by omega, rfl, by simp, by rw [biTo_0]⟩
  case round =>
    obtain ⟨k, hk, rfl, rfl, rfl⟩ := hrel
    by_cases hlt : k < 32
    · have hlt' : (k : Int) < 32 := by omega
      have hy : 0 ≤ x % 4294967296 / 2 ^ k := Int.ediv_nonneg (by omega) (Int.pow_nonneg (by decide))
      have hy' : x % 4294967296 / 2 ^ k ≤ 4294967295 := Int.le_trans (Int.ediv_le_self _ (by omega)) (by omega)
      have hg := row_get .i64 (biTo (wd x) k) hlt
      go_wp2
      go_roundw
      case rel => exact ⟨k + 1, by omega, by go_num, by rw [pow_half], by rw [row_set, ← biTo_step, bi_wd]⟩
      case measure => simp [intOf]; omega
    · obtain rfl : k = 32 := by omega
      rw [biTo_32]
      go_wp2_with (first
        | (refine wpList_load_row rfl 46 _ rfl (w.heap.size + 1) rfl 46 _ (0, 0) _ (heap_at1 w _ _) Try.underlying46 rfl (by rw [row_size]; exact info32) ?_)
        | (refine wpList_store_row rfl 46 _ _ rfl w.heap.size (row 32 .i64 (bi (wd x))) rfl rfl 46 _ (heap_at0 w _ _) (by rw [row_size]; exact info32) (by rw [row_size, row_size]) (row_ones _ _ _) ?_))
      refine bodyPost_ret_by (results_cell_row rfl _ _ w.heap.size 46 (row 32 .i64 (bi (wd x))) (0, 0) _ rfl (setRow_heap _ _ _ _ _ _ (heap_at0 w _ _)) Try.underlying46 rfl (by rw [row_size]; exact info32)) rfl ⟨rfl, ?_⟩
      rw [setRow_alloc_past _ _ _ _ (by simp), setRow_alloc_new]

theorem refBy_is (n : Int) (w : World) (h1 : -2147483648 ≤ n) (h2 : n ≤ 2147483647) :
    Calls Try.prog 37 #[.int .i32 n] w fun e w' => e = .returned (.int .i64 (sn n)) ∧ w = w' := by
  go_enter Try.func37, Try.ntmps37
  go_wp2_with (go_at_call 43; refine (refMod_is n 32 _ _ (by omega) (by omega) rfl).mono ?_; rintro e w' ⟨rfl, rfl⟩)
  go_ret
  exact ⟨ret_int (by rw [sn_cast]), rfl⟩

set_option maxHeartbeats 1000000 in
theorem refOf_is (b : BitVec 32) (c : Array Value) (w : World) (hc : c = row 32 .i64 (bi b)) :
    Calls Try.prog 38 #[.agg c] w fun e w' => e = .returned (.int .i32 (sg b)) ∧ w.alloc (.cells (row 32 .i64 (bi b)) 46) = w' := by
  subst hc
  have H := Lib.hid (us_up b)
  go_enter Try.func38, Try.ntmps38
  go_wp2
  go_loop [3, 4] (fun n i => ∃ j : Nat, j ≤ 32 ∧ i = .int .i64 ((j : Int) - 1) ∧ n = .int .i64 (us b / 2 ^ j)) (fun _ i => (intOf i + 1).toNat)
  case atStart => exact ⟨32, by omega, rfl, by rw [us_top]⟩
  case round =>
    obtain ⟨j, hj, rfl, rfl⟩ := hrel
    have hp := us_pow b j
    by_cases h0 : 0 < j
    · obtain ⟨i, rfl⟩ : ∃ i, j = i + 1 := ⟨j - 1, by omega⟩
      have hg := row_get .i64 (bi b) (show i < 32 by omega)
      have hb := bi_bd b i
      have h1 : (0 : Int) ≤ (i : Int) := by omega
      go_wp2
      go_round
      case rel => exact ⟨i, by omega, rfl, by rw [H.out]⟩
      case measure => simp [intOf]
    · obtain rfl : j = 0 := by omega
      have e : ((0 : Nat) : Int) - 1 = -1 := by omega
      have e2 : us b / 2 ^ 0 = us b := by simp
      rw [e, e2]
      go_wp2_with (go_at_call 45; refine (refLow_is _ _ _ rfl).mono ?_; rintro e w' ⟨rfl, rfl⟩)
      go_ret
      exact ⟨ret_int (by rw [sg_us]), rfl⟩
end Go.Proofs.Ytbcfmlcfkihenaa
