/- What the document's own plain answers of layers 1 to 4 give. Conditions: the numbers are of the kinds of the parameters. -/
import Derived.Test.YtcoicgkpikoibaaGreatDoorLayers
import Derived.Test.YtcoicgkpikoibaaGreatDoorNum
import Derived.StillTailTactics
import Derived.Deep.RegionWith
import Derived.Test.YtcoicgkpikoibaaGreatDoorProg
import Derived.Handy
import Derived.Lib.Hide
namespace Go.Proofs.YtcoicgkpikoibaaGreatDoor
open Go.RowKit

theorem tmod_neg {x n : Int} (hn : 0 < n) (h : x.tmod n < 0) : x.tmod n + n = x % n := by
  have e := Int.tmod_eq_emod (a := x) (b := n)
  have h0 := Int.emod_nonneg x (show n ≠ 0 by omega)
  have h1 : ((n.natAbs : Nat) : Int) = n := by omega
  split at e
  · omega
  · omega

theorem tmod_pos {x n : Int} (hn : 0 < n) (h : ¬ x.tmod n < 0) : x.tmod n = x % n := by
  have e := Int.tmod_eq_emod (a := x) (b := n)
  have h0 := Int.emod_lt_of_pos x hn
  have h1 : ((n.natAbs : Nat) : Int) = n := by omega
  split at e
  · omega
  · omega

theorem tmod_gt {x n : Int} (hn : 0 < n) : -n < x.tmod n ∧ x.tmod n < n := by
  have e := Int.tmod_eq_emod (a := x) (b := n)
  have h0 := Int.emod_lt_of_pos x hn
  have h2 := Int.emod_nonneg x (show n ≠ 0 by omega)
  have h1 : ((n.natAbs : Nat) : Int) = n := by omega
  split at e
  · omega
  · rename_i hd
    have : x % n ≠ 0 := fun h => hd (Or.inr (Int.dvd_of_emod_eq_zero h))
    omega

theorem refMod_is (x n z : Int) (w : World) (hn : 0 < n) (hn' : n ≤ 4611686018427387904) (h : x % n = z) :
    Calls Tryz.prog 70 #[.int .i64 x, .int .i64 n] w fun e w' => e = .returned (.int .i64 z) ∧ w = w' := by
  subst h
  have hne : n ≠ 0 := by omega
  have hb := tmod_gt (x := x) hn
  by_cases hs : x.tmod n < 0
  · have e := Lib.hid (tmod_neg hn hs)
    go_enter Tryz.func70, Tryz.ntmps70
    go_wp2
    go_ret
    exact ⟨ret_int e.out, rfl⟩
  · have e := Lib.hid (tmod_pos hn hs)
    go_enter Tryz.func70, Tryz.ntmps70
    go_wp2
    go_ret
    exact ⟨ret_int e.out, rfl⟩
/-- 2 to the power of k. -/
def pw (k : Nat) : Int := 2 ^ k
theorem pw_succ (k : Nat) : pw (k + 1) = 2 * pw k := by unfold pw; rw [Int.pow_succ]; omega
theorem pw_pos (k : Nat) : 0 < pw k := Int.pow_pos (by decide)
theorem pw_mono {k m : Nat} (h : k ≤ m) : pw k ≤ pw m := by
  unfold pw
  have : 2 ^ k ≤ 2 ^ m := Nat.pow_le_pow_right (by decide) h
  exact_mod_cast this

/-- The lowest n bits, with a sign. -/
def sgn (x : Int) (n : Nat) : Int := if pw n / 2 ≤ x % pw n then x % pw n - pw n else x % pw n

theorem sgn_32 (x : Int) : sgn x 32 = wrap32 x := by
  have : pw 32 = 4294967296 := by decide
  unfold sgn wrap32
  rw [this]
  split <;> omega
theorem sgn_16 (x : Int) : sgn x 16 = wrap16 x := by
  have : pw 16 = 65536 := by decide
  unfold sgn wrap16
  rw [this]
  split <;> omega

theorem refSigned_is (x z : Int) (n : Nat) (w : World) (hn' : n ≤ 61) (h : sgn x n = z) :
    Calls Tryz.prog 48 #[.int .i64 x, .int .i64 n] w fun e w' => e = .returned (.int .i64 z) ∧ w = w' := by
  subst h
  go_enter Tryz.func48, Tryz.ntmps48
  go_wp2
  go_loop [5, 6] (fun m i => ∃ k : Nat, k ≤ n ∧ i = .int .i64 k ∧ m = .int .i64 (pw k)) (fun _ i => n - (intOf i).toNat)
  case atStart => exact ⟨0, by omega, rfl, rfl⟩
  case round =>
    obtain ⟨k, hk, rfl, rfl⟩ := hrel
    have p0 := pw_pos k
    have p1 : pw k ≤ 2305843009213693952 := pw_mono (m := 61) (by omega)
    by_cases hlt : k < n
    · have e := Lib.hid (pw_succ k)
      go_wp2
      go_round
      case rel => exact ⟨k + 1, by omega, by go_num, by rw [e.out]⟩
      case measure => simp [intOf]; omega
    · obtain rfl : k = n := by omega
      have q0 := Int.emod_nonneg x (show pw k ≠ 0 by omega)
      have q1 := Int.emod_lt_of_pos x p0
      by_cases ht : pw k / 2 ≤ x % pw k
      · have e := Lib.hid (show sgn x k = x % pw k - pw k by unfold sgn; rw [if_pos ht])
        go_wp2_with (go_at_call 70; refine (refMod_is x (pw k) _ _ (by omega) (by omega) rfl).mono ?_; rintro e w' ⟨rfl, rfl⟩)
        go_ret
        exact ⟨ret_int e.out.symm, rfl⟩
      · have e := Lib.hid (show sgn x k = x % pw k by unfold sgn; rw [if_neg ht])
        go_wp2_with (go_at_call 70; refine (refMod_is x (pw k) _ _ (by omega) (by omega) rfl).mono ?_; rintro e w' ⟨rfl, rfl⟩)
        go_ret
        exact ⟨ret_int e.out.symm, rfl⟩

theorem refLow_is (x z : Int) (w : World) (h : wrap32 x = z) :
    Calls Tryz.prog 32 #[.int .i64 x] w fun e w' => e = .returned (.int .i32 z) ∧ w = w' := by
  have hb : -2147483648 ≤ wrap32 x ∧ wrap32 x ≤ 2147483647 := by unfold wrap32; omega
  subst h
  go_enter Tryz.func32, Tryz.ntmps32
  go_wp2_with (go_at_call 48; refine (refSigned_is x (wrap32 x) 32 _ (by omega) (sgn_32 x)).mono ?_; rintro e w' ⟨rfl, rfl⟩)
  go_ret
  exact ⟨rfl, rfl⟩

theorem high_q (x : Int) : (x - x % 4294967296).tdiv 4294967296 = x / 4294967296 := by
  rw [Int.tdiv_eq_ediv_of_dvd ⟨x / 4294967296, by omega⟩]; omega

theorem refHigh_is (x z : Int) (w : World) (h1 : -9223372036854775808 ≤ x) (h2 : x ≤ 9223372036854775807) (h : x / 4294967296 = z) :
    Calls Tryz.prog 111 #[.int .i64 x] w fun e w' => e = .returned (.int .i32 z) ∧ w = w' := by
  subst h
  have e1 := high_q x
  go_enter Tryz.func111, Tryz.ntmps111
  go_wp2_with (go_at_call 70; refine (refMod_is x 4294967296 _ _ (by omega) (by omega) rfl).mono ?_; rintro e w' ⟨rfl, rfl⟩)
  go_ret
  exact ⟨rfl, rfl⟩

theorem refPlain_is (x z : Int) (w : World) (h : x % 4294967296 = z) (h1 : -2147483648 ≤ x) (h2 : x ≤ 2147483647) :
    Calls Tryz.prog 110 #[.int .i32 x] w fun e w' => e = .returned (.int .i64 z) ∧ w = w' := by
  subst h
  go_enter Tryz.func110, Tryz.ntmps110
  go_wp2_with (go_at_call 70; refine (refMod_is x 4294967296 _ _ (by omega) (by omega) rfl).mono ?_; rintro e w' ⟨rfl, rfl⟩)
  go_ret
  exact ⟨rfl, rfl⟩

theorem refHalf_is (x z : Int) (w : World) (h1 : -2147483648 ≤ x) (h2 : x ≤ 2147483647) (h : wrap16 x = z) :
    Calls Tryz.prog 76 #[.int .i32 x] w fun e w' => e = .returned (.int .i32 z) ∧ w = w' := by
  have hb : -32768 ≤ wrap16 x ∧ wrap16 x ≤ 32767 := by unfold wrap16; omega
  subst h
  go_enter Tryz.func76, Tryz.ntmps76
  go_wp2_with (go_at_call 48; refine (refSigned_is x (wrap16 x) 16 _ (by omega) (sgn_16 x)).mono ?_; rintro e w' ⟨rfl, rfl⟩)
  go_ret
  exact ⟨rfl, rfl⟩

/-- The lowest k bits of a row of bits, noughts above. -/
def biTo (b : BitVec 32) (k i : Nat) : Int := if i < k then bi b i else 0
theorem biTo_step (b : BitVec 32) (k : Nat) : row 32 .i64 (upd (biTo b k) k (bi b k)) = row 32 .i64 (biTo b (k + 1)) := by
  apply row_ext
  intro i _
  unfold upd biTo
  by_cases h : i = k
  · subst h; simp
  · by_cases h2 : i < k
    · simp [h, h2, Nat.lt_succ_of_lt h2]
    · simp [h, h2, show ¬ i < k + 1 by omega]
theorem biTo_32 (b : BitVec 32) : row 32 .i64 (biTo b 32) = row 32 .i64 (bi b) := row_ext _ fun i hi => by unfold biTo; rw [if_pos hi]
theorem biTo_0 (b : BitVec 32) : row 32 .i64 (biTo b 0) = row 32 .i64 fun _ => 0 := row_ext _ fun i _ => by unfold biTo; rw [if_neg (by omega)]

theorem info32 : (Tryz.prog.info? 125).map (·.size) = some 32 := by kernel_rfl

set_option maxHeartbeats 1000000 in
theorem refBits_is (x : Int) (w : World) (h1 : -2147483648 ≤ x) (h2 : x ≤ 2147483647) :
    Calls Tryz.prog 105 #[.int .i32 x] w fun e w' => e = .returned (.agg (row 32 .i64 (bi (wd x)))) ∧ (w.alloc (.cells (row 32 .i64 (bi (wd x))) 125)).alloc (.cells (row 32 .i64 (bi (wd x))) 125) = w' := by
  go_enter Tryz.func105, Tryz.ntmps105
  go_wp2_with (go_at_call 110; refine (refPlain_is x _ _ rfl (by omega) (by omega)).mono ?_; rintro e w' ⟨rfl, rfl⟩)
  rw [row_32]
  go_loopw [4, 5] (fun y i wr => ∃ k : Nat, k ≤ 32 ∧ i = .int .i64 k ∧ y = .int .i64 (x % 4294967296 / 2 ^ k) ∧ wr = (w.alloc (.cells (row 32 .i64 fun _ => 0) 125)).alloc (.cells (row 32 .i64 (biTo (wd x) k)) 125)) (fun _ i _ => 32 - (intOf i).toNat)
  case atStart => exact ⟨0, by omega, rfl, by simp, by rw [biTo_0]⟩
  case round =>
    obtain ⟨k, hk, rfl, rfl, rfl⟩ := hrel
    by_cases hlt : k < 32
    · have hlt' : (k : Int) < 32 := by omega
      have hy : 0 ≤ x % 4294967296 / 2 ^ k := Int.ediv_nonneg (by omega) (Int.pow_nonneg (by decide))
      have hy' : x % 4294967296 / 2 ^ k ≤ 4294967295 := Int.le_trans (Int.ediv_le_self _ (by omega)) (by omega)
      have hg := row_get .i64 (biTo (wd x) k) hlt
      go_wp2
      go_roundw
      case rel => exact ⟨k + 1, by omega, by go_num, by rw [pow_half], by rw [row_set, ← biTo_step, bi_wd]⟩
      case measure => simp [intOf]; omega
    · obtain rfl : k = 32 := by omega
      rw [biTo_32]
      go_wp2_with (first
        | (refine wpList_load_row rfl 125 _ rfl (w.heap.size + 1) rfl 125 _ (0, 0) _ (heap_at1 w _ _) Tryz.underlying125 rfl (by rw [row_size]; exact info32) ?_)
        | (refine wpList_store_row rfl 125 _ _ rfl w.heap.size (row 32 .i64 (bi (wd x))) rfl rfl 125 _ (heap_at0 w _ _) (by rw [row_size]; exact info32) (by rw [row_size, row_size]) (row_ones _ _ _) ?_))
      refine bodyPost_ret_by (results_cell_row rfl _ _ w.heap.size 125 (row 32 .i64 (bi (wd x))) (0, 0) _ rfl (setRow_heap _ _ _ _ _ _ (heap_at0 w _ _)) Tryz.underlying125 rfl (by rw [row_size]; exact info32)) rfl ⟨rfl, ?_⟩
      rw [setRow_alloc_past _ _ _ _ (by simp), setRow_alloc_new]

theorem refBy_is (n : Int) (w : World) (h1 : -2147483648 ≤ n) (h2 : n ≤ 2147483647) :
    Calls Tryz.prog 108 #[.int .i32 n] w fun e w' => e = .returned (.int .i64 (sn n)) ∧ w = w' := by
  go_enter Tryz.func108, Tryz.ntmps108
  go_wp2_with (go_at_call 70; refine (refMod_is n 32 _ _ (by omega) (by omega) rfl).mono ?_; rintro e w' ⟨rfl, rfl⟩)
  go_ret
  exact ⟨ret_int (by rw [sn_cast]), rfl⟩

set_option maxHeartbeats 1000000 in
theorem refOf_is (b : BitVec 32) (c : Array Value) (w : World) (hc : c = row 32 .i64 (bi b)) :
    Calls Tryz.prog 109 #[.agg c] w fun e w' => e = .returned (.int .i32 (sg b)) ∧ w.alloc (.cells (row 32 .i64 (bi b)) 125) = w' := by
  subst hc
  have H := Lib.hid (us_up b)
  go_enter Tryz.func109, Tryz.ntmps109
  go_wp2
  go_loop [3, 4] (fun n i => ∃ j : Nat, j ≤ 32 ∧ i = .int .i64 ((j : Int) - 1) ∧ n = .int .i64 (us b / 2 ^ j)) (fun _ i => (intOf i + 1).toNat)
  case atStart => exact ⟨32, by omega, rfl, by rw [us_top]⟩
  case round =>
    obtain ⟨j, hj, rfl, rfl⟩ := hrel
    have hp := us_pow b j
    by_cases h0 : 0 < j
    · obtain ⟨i, rfl⟩ : ∃ i, j = i + 1 := ⟨j - 1, by omega⟩
      have hg := row_get .i64 (bi b) (show i < 32 by omega)
      have hb := bi_bd b i
      have h1 : (0 : Int) ≤ (i : Int) := by omega
      go_wp2
      go_round
      case rel => exact ⟨i, by omega, rfl, by rw [H.out]⟩
      case measure => simp [intOf]
    · obtain rfl : j = 0 := by omega
      have e : ((0 : Nat) : Int) - 1 = -1 := by omega
      have e2 : us b / 2 ^ 0 = us b := by simp
      rw [e, e2]
      go_wp2_with (go_at_call 32; refine (refLow_is _ _ _ rfl).mono ?_; rintro e w' ⟨rfl, rfl⟩)
      go_ret
      exact ⟨ret_int (by rw [sg_us]), rfl⟩

/-- What is filled from the place s on, up to the place k: bit i of f. -/
def rpart (f : Nat → Int) (s k i : Nat) : Int := if s ≤ i ∧ i < k then f i else 0
theorem rpart_step (f : Nat → Int) (s k : Nat) (h : s ≤ k) : row 32 .i64 (upd (rpart f s k) k (f k)) = row 32 .i64 (rpart f s (k + 1)) := by
  apply row_ext
  intro i _
  unfold upd rpart
  by_cases h1 : i = k
  · subst h1; simp [h]
  · by_cases h2 : i < k
    · simp [h1, h2, Nat.lt_succ_of_lt h2]
    · simp [h1, h2, show ¬ i < k + 1 by omega]
theorem rpart_0 (f : Nat → Int) (s : Nat) : row 32 .i64 (rpart f s s) = row 32 .i64 fun _ => 0 := row_ext _ fun i _ => by unfold rpart; rw [if_neg (by omega)]

set_option maxHeartbeats 1000000 in
theorem refShl_is (x n : Int) (w : World) (h1 : -2147483648 ≤ x) (h2 : x ≤ 2147483647) (h3 : -2147483648 ≤ n) (h4 : n ≤ 2147483647) :
    Calls Tryz.prog 81 #[.int .i32 x, .int .i32 n] w fun e w' => e = .returned (.int .i32 (wShl x n)) ∧ Below w.heap.size w w' := by
  have hs := sn_lt n
  go_enter Tryz.func81, Tryz.ntmps81
  go_wp2_with (first
    | (go_at_call 108; refine (refBy_is n _ h3 h4).mono ?_; rintro e w' ⟨rfl, rfl⟩)
    | (go_at_call 105; refine (refBits_is x _ h1 h2).mono ?_; rintro e w' ⟨rfl, rfl⟩)
    | (refine wpList_store_row rfl 125 _ _ rfl (w.heap.size + 3) (row 32 .i64 (bi (wd x))) rfl rfl 125 _ (heap_atn _ _ _ (by simp)) (by rw [row_size]; exact info32) (by rw [row_size]; rfl) (row_ones _ _ _) ?_; rw [setRow_atn _ _ _ _ _ (by simp), row_32]))
  go_loopw [7] (fun i wr => ∃ k : Nat, sn n ≤ k ∧ k ≤ 32 ∧ i = .int .i64 k ∧ wr = (((w.alloc (.cells (row 32 .i64 (rpart (fun i => bi (wd x) (i - sn n)) (sn n) k)) 125)).alloc (.cells (row 32 .i64 (bi (wd x))) 125)).alloc (.cells (row 32 .i64 (bi (wd x))) 125)).alloc (.cells (row 32 .i64 (bi (wd x))) 125)) (fun i _ => 32 - (intOf i).toNat)
  case atStart => exact ⟨sn n, by omega, by omega, rfl, by rw [rpart_0]⟩
  case round =>
    obtain ⟨k, hk0, hk, rfl, rfl⟩ := hrel
    have H := Lib.hid (rpart_step (fun i => bi (wd x) (i - sn n)) (sn n) k hk0)
    by_cases hlt : k < 32
    · have hlt' : (k : Int) < 32 := by omega
      have hg := row_get .i64 (rpart (fun i => bi (wd x) (i - sn n)) (sn n) k) hlt
      have hb := row_get .i64 (bi (wd x)) (show k - sn n < 32 by omega)
      go_wp2_with (go_at_call 108; refine (refBy_is n _ h3 h4).mono ?_; rintro e w' ⟨rfl, rfl⟩)
      go_roundw
      case rel => exact ⟨k + 1, by omega, by omega, by go_num, by rw [row_set, H.out]⟩
      case measure => simp [intOf]; omega
    · obtain rfl : k = 32 := by omega
      have E : row 32 .i64 (rpart (fun i => bi (wd x) (i - sn n)) (sn n) 32) = row 32 .i64 (bi (wd x <<< sn n)) :=
        row_ext _ fun i hi => by rw [bi_shl _ _ _ hi]; unfold rpart; simp [hi]
      rw [E]
      clear E
      go_wp2_with (first
        | (refine wpList_load_row rfl 125 _ rfl w.heap.size rfl 125 (row 32 .i64 (bi (wd x <<< sn n))) (0, 0) _ (by rw [heap_lt _ _ _ (by simp; omega), heap_lt _ _ _ (by simp; omega), heap_lt _ _ _ (by simp), heap_atn _ _ _ rfl]) Tryz.underlying125 rfl (by rw [row_size]; exact info32) ?_)
        | (go_at_call 109; refine (refOf_is (wd x <<< sn n) _ _ rfl).mono ?_; rintro e w' ⟨rfl, rfl⟩))
      go_ret
      exact ⟨rfl, (((((Below.refl _ _).alloc (Nat.le_refl _) _).alloc (by simp) _).alloc (by simp; omega) _).alloc (by simp; omega) _).alloc (by simp; omega) _⟩

/-- What is filled step by step, place j at the step p j: after k steps. -/
def fill (p : Nat → Nat) (f : Nat → Int) (k j : Nat) : Int := if p j < k then f (p j) else 0
theorem fill_step (p : Nat → Nat) (f : Nat → Int) (k q : Nat) (h : ∀ j, j < 32 → (p j = k ↔ j = q)) : row 32 .i64 (upd (fill p f k) q (f k)) = row 32 .i64 (fill p f (k + 1)) := by
  apply row_ext
  intro j hj
  unfold upd fill
  by_cases h1 : j = q
  · have h2 := (h j hj).2 h1
    simp [h1] at h2
    simp [h1, h2]
  · have h2 : ¬ p j = k := fun e => h1 ((h j hj).1 e)
    by_cases h3 : p j < k
    · simp [h1, h3, Nat.lt_succ_of_lt h3]
    · simp [h1, h3, show ¬ p j < k + 1 by omega]
theorem fill_0 (p : Nat → Nat) (f : Nat → Int) : row 32 .i64 (fill p f 0) = row 32 .i64 fun _ => 0 := row_ext _ fun i _ => by unfold fill; rw [if_neg (by omega)]

set_option maxHeartbeats 1000000 in
theorem refShr_is (x n : Int) (w : World) (h1 : -2147483648 ≤ x) (h2 : x ≤ 2147483647) (h3 : -2147483648 ≤ n) (h4 : n ≤ 2147483647) :
    Calls Tryz.prog 82 #[.int .i32 x, .int .i32 n] w fun e w' => e = .returned (.int .i32 (wShr x n)) ∧ Below w.heap.size w w' := by
  have hs := sn_lt n
  go_enter Tryz.func82, Tryz.ntmps82
  go_wp2_with (first
    | (go_at_call 105; refine (refBits_is x _ h1 h2).mono ?_; rintro e w' ⟨rfl, rfl⟩)
    | (refine wpList_store_row rfl 125 _ _ rfl (w.heap.size + 3) (row 32 .i64 (bi (wd x))) rfl rfl 125 _ (heap_atn _ _ _ (by simp)) (by rw [row_size]; exact info32) (by rw [row_size]; rfl) (row_ones _ _ _) ?_; rw [setRow_atn _ _ _ _ _ (by simp), row_32]))
  go_loopw [7] (fun i wr => ∃ k : Nat, k + sn n ≤ 32 ∧ i = .int .i64 k ∧ wr = (((w.alloc (.cells (row 32 .i64 (fill (fun j => j) (fun i => bi (wd x) (i + sn n)) k)) 125)).alloc (.cells (row 32 .i64 (bi (wd x))) 125)).alloc (.cells (row 32 .i64 (bi (wd x))) 125)).alloc (.cells (row 32 .i64 (bi (wd x))) 125)) (fun i _ => 32 - (intOf i).toNat)
  case atStart => exact ⟨0, by omega, rfl, by rw [fill_0]⟩
  case round =>
    obtain ⟨k, hk, rfl, rfl⟩ := hrel
    have H := Lib.hid (fill_step (fun j => j) (fun i => bi (wd x) (i + sn n)) k k (fun j _ => Iff.rfl))
    by_cases hlt : k + sn n < 32
    · have hlt' : (k : Int) + sn n < 32 := by omega
      have hg := row_get .i64 (fill (fun j => j) (fun i => bi (wd x) (i + sn n)) k) (show k < 32 by omega)
      have hb := row_get .i64 (bi (wd x)) hlt
      go_wp2_with (go_at_call 108; refine (refBy_is n _ h3 h4).mono ?_; rintro e w' ⟨rfl, rfl⟩)
      go_roundw
      case rel => exact ⟨k + 1, by omega, by go_num, by rw [row_set, H.out]⟩
      case measure => simp [intOf]; omega
    · have hge : ¬ (k : Int) + sn n < 32 := by omega
      have E : row 32 .i64 (fill (fun j => j) (fun i => bi (wd x) (i + sn n)) k) = row 32 .i64 (bi (wd x >>> sn n)) :=
        row_ext _ fun i hi => by
          rw [bi_shr]; unfold fill
          by_cases h : i < k
          · rw [if_pos h, if_pos (by omega)]
          · rw [if_neg h, if_neg (by omega)]
      rw [E]
      clear E
      go_wp2_with (first
        | (go_at_call 108; refine (refBy_is n _ h3 h4).mono ?_; rintro e w' ⟨rfl, rfl⟩)
        | (refine wpList_load_row rfl 125 _ rfl w.heap.size rfl 125 (row 32 .i64 (bi (wd x >>> sn n))) (0, 0) _ (by rw [heap_lt _ _ _ (by simp; omega), heap_lt _ _ _ (by simp; omega), heap_lt _ _ _ (by simp), heap_atn _ _ _ rfl]) Tryz.underlying125 rfl (by rw [row_size]; exact info32) ?_)
        | (go_at_call 109; refine (refOf_is (wd x >>> sn n) _ _ rfl).mono ?_; rintro e w' ⟨rfl, rfl⟩))
      go_ret
      exact ⟨rfl, (((((Below.refl _ _).alloc (Nat.le_refl _) _).alloc (by simp) _).alloc (by simp; omega) _).alloc (by simp; omega) _).alloc (by simp; omega) _⟩

/-- How many of the lowest k bits are 1. -/
def onesTo (b : BitVec 32) (k : Nat) : Int := (b.cpopNatRec k 0 : Int)
theorem onesTo_step (b : BitVec 32) (k : Nat) : onesTo b k + bi b k = onesTo b (k + 1) := by
  unfold onesTo
  rw [BitVec.cpopNatRec_succ, BitVec.cpopNatRec_eq (acc := 0 + _), bi_bit]
  simp
theorem onesTo_bd (b : BitVec 32) (k : Nat) : 0 ≤ onesTo b k ∧ onesTo b k ≤ 32 := by
  have := BitVec.cpopNatRec_zero_le b k
  unfold onesTo; omega
theorem onesTo_32 (x : Int) : onesTo (wd x) 32 = wOnes x := by
  unfold onesTo wOnes; rw [BitVec.toNat_cpop]

/-- The k highest bits are noughts. -/
theorem clz_none (x : Int) (h : us (wd x) / 2 ^ 0 = 0) : (32 : Int) = wClz x := by
  have e : wd x = 0#32 := by
    have h' : us (wd x) = 0 := by simpa using h
    apply us_inj
    rw [h']; decide
  unfold wClz; rw [e]; decide
theorem clz_of (b : BitVec 32) (k : Nat) (hk : k < 32) (h1 : us b / 2 ^ (32 - k) = 0) (h2 : bi b (31 - k) = 1) : (b.clz.toNat : Int) = k := by
  have hu := us_bd b
  have p1 : (0 : Int) < 2 ^ (32 - k) := Int.pow_pos (by decide)
  have p2 : (0 : Int) < 2 ^ (31 - k) := Int.pow_pos (by decide)
  have l1 : us b < 2 ^ (32 - k) := by
    refine Int.not_le.1 fun hle => ?_
    have h3 : 1 ≤ us b / 2 ^ (32 - k) := (Int.le_ediv_iff_mul_le p1).2 (by omega)
    omega
  have l2 : 2 ^ (31 - k) ≤ us b := by
    unfold bi at h2
    have h3 : 1 ≤ us b / 2 ^ (31 - k) := by
      have := Int.ediv_nonneg hu.1 (Int.le_of_lt p2)
      omega
    have := (Int.le_ediv_iff_mul_le p2).1 h3
    omega
  have n1 : b.toNat < 2 ^ (32 - k) := by unfold us at l1; exact_mod_cast l1
  have n2 : 2 ^ (31 - k) ≤ b.toNat := by unfold us at l2; exact_mod_cast l2
  have hne : b ≠ 0#32 := by
    intro h
    subst h
    have := Nat.two_pow_pos (31 - k)
    simp at n2
  have c1 := BitVec.two_pow_sub_clz_le_toNat_of_ne_zero (x := b) (by decide) hne
  have c2 := BitVec.toNat_lt_two_pow_sub_clz (x := b)
  have c3 : b.clz.toNat < 32 := by
    have h4 : b.clz.toNat < (32#32).toNat := (BitVec.clz_lt_iff_ne_zero (x := b)).2 hne
    have e : (32#32).toNat = 32 := rfl
    omega
  have e2 : 32 - 1 - b.clz.toNat = 31 - b.clz.toNat := by omega
  rw [e2] at c1
  have a1 : k ≤ b.clz.toNat := by
    apply Nat.le_of_not_lt; intro hlt
    have := Nat.pow_le_pow_right (n := 2) (by decide) (show 32 - k ≤ 31 - b.clz.toNat by omega)
    omega
  have a2 : b.clz.toNat ≤ k := by
    apply Nat.le_of_not_lt; intro hlt
    have := Nat.pow_le_pow_right (n := 2) (by decide) (show 32 - b.clz.toNat ≤ 31 - k by omega)
    omega
  omega

set_option maxHeartbeats 1000000 in
theorem refClz_is (x : Int) (w : World) (h1 : -2147483648 ≤ x) (h2 : x ≤ 2147483647) :
    Calls Tryz.prog 71 #[.int .i32 x] w fun e w' => e = .returned (.int .i32 (wClz x)) ∧ Below w.heap.size w w' := by
  go_enter Tryz.func71, Tryz.ntmps71
  go_wp2_with (first
    | (go_at_call 105; refine (refBits_is x _ h1 h2).mono ?_; rintro e w' ⟨rfl, rfl⟩)
    | (refine wpList_store_row rfl 125 _ _ rfl (w.heap.size + 2) (row 32 .i64 (bi (wd x))) rfl rfl 125 _ (heap_atn _ _ _ (by simp)) (by rw [row_size]; exact info32) (by rw [row_size]; rfl) (row_ones _ _ _) ?_; rw [setRow_atn _ _ _ _ _ (by simp)]))
  go_loop [4, 5] (fun n i => ∃ j : Nat, j ≤ 32 ∧ i = .int .i64 ((j : Int) - 1) ∧ n = .int .i32 (32 - (j : Int)) ∧ Hid (us (wd x) / 2 ^ j = 0)) (fun _ i => (intOf i + 1).toNat)
  case atStart => exact ⟨32, by omega, rfl, rfl, Lib.hid (us_top _)⟩
  case round =>
    obtain ⟨j, hj, rfl, rfl, hz⟩ := hrel
    by_cases h0 : 0 < j
    · obtain ⟨i, rfl⟩ : ∃ i, j = i + 1 := ⟨j - 1, by omega⟩
      have hg := row_get .i64 (bi (wd x)) (show i < 32 by omega)
      have hb := bi_bd (wd x) i
      have e1 : ((i + 1 : Nat) : Int) - 1 = (i : Int) := by omega
      have e2 : 32 - ((i + 1 : Nat) : Int) = 31 - (i : Int) := by omega
      rw [e1, e2]
      clear e1 e2
      by_cases hone : bi (wd x) i = 0
      · have hz' := Lib.hid (show us (wd x) / 2 ^ i = 0 by
          have e1 := us_up (wd x) i
          rw [hz.out, hone] at e1
          omega)
        rw [hone] at hg
        clear hone hb hz
        go_wp2
        go_round
        case rel => exact ⟨i, by omega, rfl, by go_num, hz'⟩
        case measure => simp [intOf]
      · have h1' : bi (wd x) i = 1 := by omega
        have H := Lib.hid (clz_of (wd x) (31 - i) (by omega) (by rw [show 32 - (31 - i) = i + 1 by omega]; exact hz.out) (by rw [show 31 - (31 - i) = i by omega]; exact h1'))
        rw [h1'] at hg
        clear hone hb h1' hz
        go_wp2
        go_ret
        exact ⟨ret_int (by have := H.out; unfold wClz; omega), (((Below.refl _ _).alloc (Nat.le_refl _) _).alloc (by simp) _).alloc (by simp; omega) _⟩
    · obtain rfl : j = 0 := by omega
      have H := Lib.hid (clz_none x hz.out)
      have e : ((0 : Nat) : Int) - 1 = -1 := by omega
      have e2 : 32 - ((0 : Nat) : Int) = 32 := by omega
      rw [e, e2]
      clear e e2 hz
      go_wp2
      go_ret
      exact ⟨ret_int H.out, (((Below.refl _ _).alloc (Nat.le_refl _) _).alloc (by simp) _).alloc (by simp; omega) _⟩

theorem drewN_heap (w : World) (d : Nat) : (w.drewN d).heap = w.heap := rfl

theorem setCell_drewN (w : World) (d : Nat) (a : Addr) (v : Value) : (w.drewN d).setCell a v = (w.setCell a v).drewN d := rfl
theorem drewN_drew (w : World) (d : Nat) : (w.drewN d).drew = w.drewN (d + 1) := rfl

theorem tdiv_exact (x m : Int) (hm : 0 < m) : (x - x % m).tdiv m = x / m := by
  have h : x - x % m = m * (x / m) := by have := Int.mul_ediv_add_emod x m; omega
  rw [h, Int.mul_tdiv_cancel_left _ (by omega)]

set_option maxHeartbeats 1000000 in
theorem refSar_is (x n : Int) (w : World) (h1 : -2147483648 ≤ x) (h2 : x ≤ 2147483647) (h3 : -2147483648 ≤ n) (h4 : n ≤ 2147483647) :
    Calls Tryz.prog 77 #[.int .i32 x, .int .i32 n] w fun e w' => e = .returned (.int .i32 (wSar x n)) ∧ w = w' := by
  have hs := sn_lt n
  have hw := wSar_bd x n
  have E := Lib.hid (wSar_eq (n := n) h1 h2)
  go_enter Tryz.func77, Tryz.ntmps77
  go_wp2
  go_loop [5, 6] (fun m i => ∃ k : Nat, k ≤ sn n ∧ i = .int .i64 k ∧ m = .int .i64 (pw k)) (fun _ i => sn n - (intOf i).toNat)
  case atStart => exact ⟨0, by omega, rfl, rfl⟩
  case round =>
    obtain ⟨k, hk, rfl, rfl⟩ := hrel
    have p0 := pw_pos k
    have p1 : pw k ≤ 2147483648 := pw_mono (m := 31) (by omega)
    by_cases hlt : k < sn n
    · have S := Lib.hid (pw_succ k)
      have hlt' : (k : Int) < sn n := by omega
      go_wp2_with (go_at_call 108; refine (refBy_is n _ h3 h4).mono ?_; rintro e w' ⟨rfl, rfl⟩)
      go_round
      case rel => exact ⟨k + 1, by omega, by go_num, by rw [S.out]⟩
      case measure => simp [intOf]; omega
    · have hkk : k = sn n := by omega
      have hge : ¬ (k : Int) < sn n := by omega
      have q0 := Int.emod_nonneg x (show pw k ≠ 0 by omega)
      have q1 := Int.emod_lt_of_pos x p0
      have T := Lib.hid (tdiv_exact x (pw k) p0)
      have E2 := Lib.hid (show x / pw k = wSar x n by rw [E.out, hkk]; rfl)
      clear hkk
      go_wp2_with (first
        | (go_at_call 108; refine (refBy_is n _ h3 h4).mono ?_; rintro e w' ⟨rfl, rfl⟩)
        | (go_at_call 70; refine (refMod_is x (pw k) _ _ (by omega) (by omega) rfl).mono ?_; rintro e w' ⟨rfl, rfl⟩))
      go_ret
      exact ⟨ret_int (by rw [T.out, E2.out]; exact IntWalk.wrap32_in _ hw), rfl⟩

set_option maxHeartbeats 1000000 in
set_option maxRecDepth 100000 in
theorem refRol_is (x n : Int) (w : World) (h1 : -2147483648 ≤ x) (h2 : x ≤ 2147483647) (h3 : -2147483648 ≤ n) (h4 : n ≤ 2147483647) :
    Calls Tryz.prog 83 #[.int .i32 x, .int .i32 n] w fun e w' => e = .returned (.int .i32 (wRol x n)) ∧ Below w.heap.size w w' := by
  have hs := sn_lt n
  go_enter Tryz.func83, Tryz.ntmps83
  go_wp2_with (first
    | (go_at_call 105; refine (refBits_is x _ h1 h2).mono ?_; rintro e w' ⟨rfl, rfl⟩)
    | (refine wpList_store_row rfl 125 _ _ rfl (w.heap.size + 3) (row 32 .i64 (bi (wd x))) rfl rfl 125 _ (heap_atn _ _ _ (by simp)) (by rw [row_size]; exact info32) (by rw [row_size]; rfl) (row_ones _ _ _) ?_; rw [setRow_atn _ _ _ _ _ (by simp), row_32]))
  go_loopw [7] (fun i wr => ∃ k d : Nat, k ≤ 32 ∧ i = .int .i64 k ∧ wr = ((((w.alloc (.cells (row 32 .i64 (fill (fun j => (j + (32 - sn n)) % 32) (bi (wd x)) k)) 125)).alloc (.cells (row 32 .i64 (bi (wd x))) 125)).alloc (.cells (row 32 .i64 (bi (wd x))) 125)).alloc (.cells (row 32 .i64 (bi (wd x))) 125)).drewN d) (fun i _ => 32 - (intOf i).toNat)
  case atStart => exact ⟨0, 0, by omega, rfl, by rw [fill_0]; rfl⟩
  case round =>
    obtain ⟨k, d, hk, rfl, rfl⟩ := hrel
    by_cases hlt : k < 32
    · have H := Lib.hid (fill_step (fun j => (j + (32 - sn n)) % 32) (bi (wd x)) k ((k + sn n) % 32) (fun j hj => by show (j + (32 - sn n)) % 32 = k ↔ _; omega))
      have hlt' : (k : Int) < 32 := by omega
      have hg := row_get .i64 (fill (fun j => (j + (32 - sn n)) % 32) (bi (wd x)) k) (show (k + sn n) % 32 < 32 by omega)
      have hb := row_get .i64 (bi (wd x)) hlt
      have s1 : IntKind.i64.wrap ((k : Int) + sn n) = (k : Int) + sn n := IntWalk.i64_in _ (by omega)
      have s2 : ((k : Int) + sn n).tmod 32 = ((k : Int) + sn n) % 32 := Int.tmod_eq_emod_of_nonneg (by omega)
      have s3 : 0 ≤ ((k : Int) + sn n) % 32 := by omega
      have s4 : ((k : Int) + sn n) % 32 < 32 := by omega
      have s5 : (((k : Int) + sn n) % 32).toNat = (k + sn n) % 32 := by omega
      go_wp2
      generalize hW : ((((w.alloc (.cells (row 32 .i64 (fill (fun j => (j + (32 - sn n)) % 32) (bi (wd x)) k)) 125)).alloc (.cells (row 32 .i64 (bi (wd x))) 125)).alloc (.cells (row 32 .i64 (bi (wd x))) 125)).alloc (.cells (row 32 .i64 (bi (wd x))) 125)).drewN d = W
      have c1 : W.cell? ⟨w.heap.size + 1 + 1 + 1, k, none⟩ = some (.int .i64 (bi (wd x) k)) := by subst hW; go_cell
      have c2 : W.cell? ⟨w.heap.size, (k + sn n) % 32, none⟩ = some (.int .i64 (fill (fun j => (j + (32 - sn n)) % 32) (bi (wd x)) k ((k + sn n) % 32))) := by subst hW; go_cell
      have c3 : W.frozen? ⟨w.heap.size, (k + sn n) % 32, none⟩ = false := by subst hW; go_cell
      clear hg hb
      refine wp_region_still_tail 9 (by kernel_rfl) (by kernel_rfl) ?_
      have HW := Lib.hid hW
      clear hW
      simp only [List.take_succ_cons, List.take_zero, List.drop_succ_cons, List.drop_zero]
      still_step
      still_step
      still_call ((refBy_is n _ h3 h4).mono fun _ _ h => ⟨h.1, h.2.symm⟩)
      still_step
      still_step
      still_step
      still_step
      still_step
      still_step
      refine wpStill_nil ?_
      go_wp2
      go_roundw
      case rel => exact ⟨k + 1, d + 1, by omega, by go_num, by rw [← HW.out, setCell_drewN, drewN_drew, World.setCell_alloc_past _ _ _ _ (by simp; omega), World.setCell_alloc_past _ _ _ _ (by simp; omega), World.setCell_alloc_past _ _ _ _ (by simp), World.setCell_alloc_at _ _ _ _ _ rfl, row_set, H.out]⟩
      case measure => simp [intOf]; omega
    · obtain rfl : k = 32 := by omega
      have E : row 32 .i64 (fill (fun j => (j + (32 - sn n)) % 32) (bi (wd x)) 32) = row 32 .i64 (bi ((wd x).rotateLeft (sn n))) :=
        row_ext _ fun i hi => by rw [bi_rol _ _ _ hs hi]; unfold fill; rw [if_pos (show (i + (32 - sn n)) % 32 < 32 by omega)]
      rw [E]
      clear E
      go_wp2_with (first
        | (refine wpList_load_row rfl 125 _ rfl w.heap.size rfl 125 (row 32 .i64 (bi ((wd x).rotateLeft (sn n)))) (0, 0) _ (show (World.drewN _ d).heap[w.heap.size]? = _ by rw [drewN_heap, heap_lt _ _ _ (by simp; omega), heap_lt _ _ _ (by simp; omega), heap_lt _ _ _ (by simp), heap_atn _ _ _ rfl]) Tryz.underlying125 rfl (by rw [row_size]; exact info32) ?_)
        | (go_at_call 109; refine (refOf_is ((wd x).rotateLeft (sn n)) _ _ rfl).mono ?_; rintro e w' ⟨rfl, rfl⟩))
      go_ret
      exact ⟨rfl, (below_drewN ((((((Below.refl _ _).alloc (Nat.le_refl _) _).alloc (by simp) _).alloc (by simp; omega) _).alloc (by simp; omega) _)) d).alloc (by simp; omega) _⟩

theorem refMask_is (x : Int) (w : World) :
    Calls Tryz.prog 74 #[.int .i32 x] w fun e w' => e = .returned (.int .i32 (wMask x)) ∧ w = w' := by
  by_cases h : x = 0
  · have E := Lib.hid (show wMask x = 0 by unfold wMask; rw [if_pos h])
    go_enter Tryz.func74, Tryz.ntmps74
    go_wp2_with go_in
    go_ret
    exact ⟨ret_int E.out.symm, rfl⟩
  · have E := Lib.hid (show wMask x = -1 by unfold wMask; rw [if_neg h])
    go_enter Tryz.func74, Tryz.ntmps74
    go_wp2_with go_in
    go_ret
    exact ⟨ret_int E.out.symm, rfl⟩
theorem refSign_is (x : Int) (w : World) :
    Calls Tryz.prog 75 #[.int .i32 x] w fun e w' => e = .returned (.int .i32 (wSign x)) ∧ w = w' := by
  by_cases h : x < 0
  · have E := Lib.hid (show wSign x = -1 by unfold wSign; rw [if_pos h])
    go_enter Tryz.func75, Tryz.ntmps75
    go_wp2_with go_in
    go_ret
    exact ⟨ret_int E.out.symm, rfl⟩
  · have E := Lib.hid (show wSign x = 0 by unfold wSign; rw [if_neg h])
    go_enter Tryz.func75, Tryz.ntmps75
    go_wp2_with go_in
    go_ret
    exact ⟨ret_int E.out.symm, rfl⟩
theorem refLess_is (a b : Int) (w : World) :
    Calls Tryz.prog 84 #[.int .i32 a, .int .i32 b] w fun e w' => e = .returned (.int .i32 (wLess a b)) ∧ w = w' := by
  by_cases h : a < b
  · have E := Lib.hid (show wLess a b = 1 by unfold wLess; rw [if_pos h])
    go_enter Tryz.func84, Tryz.ntmps84
    go_wp2_with go_in
    go_ret
    exact ⟨ret_int E.out.symm, rfl⟩
  · have E := Lib.hid (show wLess a b = 0 by unfold wLess; rw [if_neg h])
    go_enter Tryz.func84, Tryz.ntmps84
    go_wp2_with go_in
    go_ret
    exact ⟨ret_int E.out.symm, rfl⟩
theorem refSame_is (a b : Int) (w : World) :
    Calls Tryz.prog 86 #[.int .i32 a, .int .i32 b] w fun e w' => e = .returned (.int .i32 (wSame a b)) ∧ w = w' := by
  by_cases h : a = b
  · have E := Lib.hid (show wSame a b = 1 by unfold wSame; rw [if_pos h])
    go_enter Tryz.func86, Tryz.ntmps86
    go_wp2_with go_in
    go_ret
    exact ⟨ret_int E.out.symm, rfl⟩
  · have E := Lib.hid (show wSame a b = 0 by unfold wSame; rw [if_neg h])
    go_enter Tryz.func86, Tryz.ntmps86
    go_wp2_with go_in
    go_ret
    exact ⟨ret_int E.out.symm, rfl⟩
theorem refUnder_is (a b : Int) (w : World) (h1 : -2147483648 ≤ a) (h2 : a ≤ 2147483647) (h3 : -2147483648 ≤ b) (h4 : b ≤ 2147483647) :
    Calls Tryz.prog 85 #[.int .i32 a, .int .i32 b] w fun e w' => e = .returned (.int .i32 (wUnder a b)) ∧ w = w' := by
  by_cases h : a % 4294967296 < b % 4294967296
  · have E := Lib.hid (show wUnder a b = 1 by unfold wUnder; rw [if_pos h])
    go_enter Tryz.func85, Tryz.ntmps85
    go_wp2_with (first
      | (go_at_call 110; refine (refPlain_is _ _ _ rfl (by omega) (by omega)).mono ?_; rintro e w' ⟨rfl, rfl⟩)
      | go_in)
    go_ret
    exact ⟨ret_int E.out.symm, rfl⟩
  · have E := Lib.hid (show wUnder a b = 0 by unfold wUnder; rw [if_neg h])
    go_enter Tryz.func85, Tryz.ntmps85
    go_wp2_with (first
      | (go_at_call 110; refine (refPlain_is _ _ _ rfl (by omega) (by omega)).mono ?_; rintro e w' ⟨rfl, rfl⟩)
      | go_in)
    go_ret
    exact ⟨ret_int E.out.symm, rfl⟩
theorem refMin_is (a b : Int) (w : World) :
    Calls Tryz.prog 87 #[.int .i32 a, .int .i32 b] w fun e w' => e = .returned (.int .i32 (wMin a b)) ∧ w = w' := by
  by_cases h : a < b
  · have E := Lib.hid (show wMin a b = a by unfold wMin; rw [if_pos h])
    go_enter Tryz.func87, Tryz.ntmps87
    go_wp2
    go_ret
    exact ⟨ret_int E.out.symm, rfl⟩
  · have E := Lib.hid (show wMin a b = b by unfold wMin; rw [if_neg h])
    go_enter Tryz.func87, Tryz.ntmps87
    go_wp2
    go_ret
    exact ⟨ret_int E.out.symm, rfl⟩
theorem refMax_is (a b : Int) (w : World) :
    Calls Tryz.prog 88 #[.int .i32 a, .int .i32 b] w fun e w' => e = .returned (.int .i32 (wMax a b)) ∧ w = w' := by
  by_cases h : a < b
  · have E := Lib.hid (show wMax a b = b by unfold wMax; rw [if_pos h])
    go_enter Tryz.func88, Tryz.ntmps88
    go_wp2
    go_ret
    exact ⟨ret_int E.out.symm, rfl⟩
  · have E := Lib.hid (show wMax a b = a by unfold wMax; rw [if_neg h])
    go_enter Tryz.func88, Tryz.ntmps88
    go_wp2
    go_ret
    exact ⟨ret_int E.out.symm, rfl⟩

theorem refBits_b (x : Int) (w : World) (h1 : -2147483648 ≤ x) (h2 : x ≤ 2147483647) :
    Calls Tryz.prog 105 #[.int .i32 x] w fun e w' => e = .returned (.agg (row 32 .i64 (bi (wd x)))) ∧ Below w.heap.size w w' :=
  (refBits_is x w h1 h2).mono fun _ _ ⟨he, h⟩ => ⟨he, h ▸ ((Below.refl _ _).alloc (Nat.le_refl _) _).alloc (by rw [World.size_alloc]; omega) _⟩

/-- Which of both, bit by bit, up to the place k. -/
def selTo (m a b : BitVec 32) (k i : Nat) : Int := if i < k then bi (a &&& m ||| b &&& ~~~m) i else bi b i
theorem bi_sel (m a b : BitVec 32) (i : Nat) (hi : i < 32) : bi (a &&& m ||| b &&& ~~~m) i = if bi m i = 1 then bi a i else bi b i := by
  simp only [bi_bit, BitVec.getLsbD_or, BitVec.getLsbD_and, BitVec.getLsbD_not]
  cases m.getLsbD i <;> simp [hi]
theorem selTo_one (m a b : BitVec 32) (k : Nat) (hk : k < 32) (h : bi m k = 1) : row 32 .i64 (upd (selTo m a b k) k (bi a k)) = row 32 .i64 (selTo m a b (k + 1)) := by
  apply row_ext
  intro i hi
  unfold upd selTo
  by_cases h1 : i = k
  · subst h1; rw [if_pos rfl, if_pos (Nat.lt_succ_self _), bi_sel _ _ _ _ hk, if_pos h]
  · by_cases h2 : i < k
    · simp [h1, h2, Nat.lt_succ_of_lt h2]
    · simp [h1, h2, show ¬ i < k + 1 by omega]
theorem selTo_none (m a b : BitVec 32) (k : Nat) (hk : k < 32) (h : ¬ bi m k = 1) : row 32 .i64 (selTo m a b k) = row 32 .i64 (selTo m a b (k + 1)) := by
  apply row_ext
  intro i hi
  unfold selTo
  by_cases h1 : i = k
  · subst h1; rw [if_neg (Nat.lt_irrefl _), if_pos (Nat.lt_succ_self _), bi_sel _ _ _ _ hk, if_neg h]
  · by_cases h2 : i < k
    · simp [h2, Nat.lt_succ_of_lt h2]
    · simp [h2, show ¬ i < k + 1 by omega]
theorem selTo_0 (m a b : BitVec 32) : row 32 .i64 (selTo m a b 0) = row 32 .i64 (bi b) := row_ext _ fun i _ => by unfold selTo; rw [if_neg (by omega)]
theorem selTo_32 (m a b : BitVec 32) : row 32 .i64 (selTo m a b 32) = row 32 .i64 (bi (a &&& m ||| b &&& ~~~m)) := row_ext _ fun i hi => by unfold selTo; rw [if_pos hi]

/-- What is turned, bit by bit, up to the place k. -/
def xorTo (x m : BitVec 32) (k i : Nat) : Int := if i < k then bi (x ^^^ m) i else bi x i
theorem bi_xor (x m : BitVec 32) (i : Nat) : (bi x i + bi m i) % 2 = bi (x ^^^ m) i := by
  simp only [bi_bit, BitVec.getLsbD_xor]
  cases x.getLsbD i <;> cases m.getLsbD i <;> simp
theorem xorTo_at (x m : BitVec 32) (k : Nat) : xorTo x m k k = bi x k := by unfold xorTo; rw [if_neg (Nat.lt_irrefl _)]
theorem xorTo_step (x m : BitVec 32) (k : Nat) : row 32 .i64 (upd (xorTo x m k) k ((bi x k + bi m k) % 2)) = row 32 .i64 (xorTo x m (k + 1)) := by
  apply row_ext
  intro i _
  unfold upd xorTo
  by_cases h1 : i = k
  · subst h1; rw [if_pos rfl, if_pos (Nat.lt_succ_self _), bi_xor]
  · by_cases h2 : i < k
    · simp [h1, h2, Nat.lt_succ_of_lt h2]
    · simp [h1, h2, show ¬ i < k + 1 by omega]
theorem xorTo_0 (x m : BitVec 32) : row 32 .i64 (xorTo x m 0) = row 32 .i64 (bi x) := row_ext _ fun i _ => by unfold xorTo; rw [if_neg (by omega)]
theorem xorTo_32 (x m : BitVec 32) : row 32 .i64 (xorTo x m 32) = row 32 .i64 (bi (x ^^^ m)) := row_ext _ fun i hi => by unfold xorTo; rw [if_pos hi]

theorem refSat_is (x : Int) (w : World) :
    Calls Tryz.prog 106 #[.int .i64 x] w fun e w' => e = .returned (.int .i32 (wCut x)) ∧ w = w' := by
  go_enter Tryz.func106, Tryz.ntmps106
  go_wp2
  all_goals
    go_ret
    exact ⟨ret_int (by unfold wCut; omega), rfl⟩
theorem refAdd_is (a b : Int) (w : World) (h1 : -2147483648 ≤ a) (h2 : a ≤ 2147483647) (h3 : -2147483648 ≤ b) (h4 : b ≤ 2147483647) :
    Calls Tryz.prog 78 #[.int .i32 a, .int .i32 b] w fun e w' => e = .returned (.int .i32 (wCut (a + b))) ∧ w = w' := by
  go_enter Tryz.func78, Tryz.ntmps78
  go_wp2_with (go_at_call 106; refine (refSat_is _ _).mono ?_; rintro e w' ⟨rfl, rfl⟩)
  go_ret
  exact ⟨rfl, rfl⟩
theorem refSub_is (a b : Int) (w : World) (h1 : -2147483648 ≤ a) (h2 : a ≤ 2147483647) (h3 : -2147483648 ≤ b) (h4 : b ≤ 2147483647) :
    Calls Tryz.prog 79 #[.int .i32 a, .int .i32 b] w fun e w' => e = .returned (.int .i32 (wCut (a - b))) ∧ w = w' := by
  go_enter Tryz.func79, Tryz.ntmps79
  go_wp2_with (go_at_call 106; refine (refSat_is _ _).mono ?_; rintro e w' ⟨rfl, rfl⟩)
  go_ret
  exact ⟨rfl, rfl⟩
theorem refNeg_is (x : Int) (w : World) (h1 : -2147483648 ≤ x) (h2 : x ≤ 2147483647) :
    Calls Tryz.prog 72 #[.int .i32 x] w fun e w' => e = .returned (.int .i32 (wCut (-x))) ∧ w = w' := by
  have E := Lib.hid (show (0 : Int) - x = -x by omega)
  go_enter Tryz.func72, Tryz.ntmps72
  go_wp2_with (go_at_call 106; refine (refSat_is _ _).mono ?_; rintro e w' ⟨rfl, rfl⟩)
  go_ret
  exact ⟨ret_int (by first | rfl | rw [E.out]), rfl⟩
theorem refAbs_is (x : Int) (w : World) (h1 : -2147483648 ≤ x) (h2 : x ≤ 2147483647) :
    Calls Tryz.prog 73 #[.int .i32 x] w fun e w' => e = .returned (.int .i32 (wAbs x)) ∧ w = w' := by
  go_enter Tryz.func73, Tryz.ntmps73
  go_wp2_with (go_at_call 72; refine (refNeg_is _ _ h1 h2).mono ?_; rintro e w' ⟨rfl, rfl⟩)
  all_goals
    go_ret
    exact ⟨ret_int (by unfold wAbs; split <;> omega), rfl⟩
end Go.Proofs.YtcoicgkpikoibaaGreatDoor
