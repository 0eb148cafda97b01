/- What the document's own plain answers for shifted words (package astrolaberef02) give: the functions that move bits. Conditions: the numbers are of the kind int32. -/
import Derived.Test.YtbcfmlcfkihenaaRefShA
namespace Go.Proofs.Ytbcfmlcfkihenaa
open Go.RowKit

/-- What is filled from the place s on, up to the place k: bit i of f. -/
def rpart (f : Nat → Int) (s k i : Nat) : Int := if s ≤ i ∧ i < k then f i else 0
theorem rpart_step (f : Nat → Int) (s k : Nat) (h : s ≤ k) : row 32 .i64 (upd (rpart f s k) k (f k)) = row 32 .i64 (rpart f s (k + 1)) := by
  apply row_ext
  intro i _
  unfold upd rpart
  by_cases h1 : i = k
  · subst h1; simp [h]
  · by_cases h2 : i < k
    · simp [h1, h2, Nat.lt_succ_of_lt h2]
    · simp [h1, h2, show ¬ i < k + 1 by omega]
theorem rpart_0 (f : Nat → Int) (s : Nat) : row 32 .i64 (rpart f s s) = row 32 .i64 fun _ => 0 := row_ext _ fun i _ => by unfold rpart; rw [if_neg (by omega)]

set_option maxHeartbeats 1000000 in
theorem refShl_is (x n : Int) (w : World) (h1 : -2147483648 ≤ x) (h2 : x ≤ 2147483647) (h3 : -2147483648 ≤ n) (h4 : n ≤ 2147483647) :
    Calls Try.prog 25 #[.int .i32 x, .int .i32 n] w fun e w' => e = .returned (.int .i32 (wShl x n)) ∧ Below w.heap.size w w' := by
  have hs := sn_lt n
  go_enter Try.func25, Try.ntmps25
  go_wp2_with (first
    | (go_at_call 37; refine (refBy_is n _ h3 h4).mono ?_; rintro e w' ⟨rfl, rfl⟩)
    | (go_at_call 36; refine (refBits_is x _ h1 h2).mono ?_; rintro e w' ⟨rfl, rfl⟩)
    | (refine wpList_store_row rfl 46 _ _ rfl (w.heap.size + 3) (row 32 .i64 (bi (wd x))) rfl rfl 46 _ (heap_atn _ _ _ (by simp)) (by rw [row_size]; exact info32) (by rw [row_size]; rfl) (row_ones _ _ _) ?_; rw [setRow_atn _ _ _ _ _ (by simp), row_32]))
  go_loopw [7] (fun i wr => ∃ k : Nat, sn n ≤ k ∧ k ≤ 32 ∧ i = .int .i64 k ∧ wr = (((w.alloc (.cells (row 32 .i64 (rpart (fun i => bi (wd x) (i - sn n)) (sn n) k)) 46)).alloc (.cells (row 32 .i64 (bi (wd x))) 46)).alloc (.cells (row 32 .i64 (bi (wd x))) 46)).alloc (.cells (row 32 .i64 (bi (wd x))) 46)) (fun i _ => 32 - (intOf i).toNat)
  case atStart => exact ⟨sn n, by omega, by omega, rfl, by rw [rpart_0]⟩
  case round =>
    obtain ⟨k, hk0, hk, rfl, rfl⟩ := hrel
    have H := Lib.hid (rpart_step (fun i => bi (wd x) (i - sn n)) (sn n) k hk0)
    by_cases hlt : k < 32
    · have hlt' : (k : Int) < 32 := by omega
      have hg := row_get .i64 (rpart (fun i => bi (wd x) (i - sn n)) (sn n) k) hlt
      have hb := row_get .i64 (bi (wd x)) (show k - sn n < 32 by omega)
      go_wp2_with (go_at_call 37; refine (refBy_is n _ h3 h4).mono ?_; rintro e w' ⟨rfl, rfl⟩)
      go_roundw
      case rel => exact ⟨k + 1, by omega, by omega, by go_num, by rw [row_set, H.out]⟩
      case measure => simp [intOf]; omega
    · obtain rfl : k = 32 := by omega
      have E : row 32 .i64 (rpart (fun i => bi (wd x) (i - sn n)) (sn n) 32) = row 32 .i64 (bi (wd x <<< sn n)) :=
        row_ext _ fun i hi => by rw [bi_shl _ _ _ hi]; unfold rpart; simp [hi]
      rw [E]
      clear E
      go_wp2_with (first
        | (refine wpList_load_row rfl 46 _ rfl w.heap.size rfl 46 (row 32 .i64 (bi (wd x <<< sn n))) (0, 0) _ (by rw [heap_lt _ _ _ (by simp; omega), heap_lt _ _ _ (by simp; omega), heap_lt _ _ _ (by simp), heap_atn _ _ _ rfl]) Try.underlying46 rfl (by rw [row_size]; exact info32) ?_)
        | (go_at_call 38; refine (refOf_is (wd x <<< sn n) _ _ rfl).mono ?_; rintro e w' ⟨rfl, rfl⟩))
      go_ret
      exact ⟨rfl, (((((Below.refl _ _).alloc (Nat.le_refl _) _).alloc (by simp) _).alloc (by simp; omega) _).alloc (by simp; omega) _).alloc (by simp; omega) _⟩

/-- What is filled step by step, place j at the step p j: after k steps. -/
def fill (p : Nat → Nat) (f : Nat → Int) (k j : Nat) : Int := if p j < k then f (p j) else 0
theorem fill_step (p : Nat → Nat) (f : Nat → Int) (k q : Nat) (h : ∀ j, j < 32 → (p j = k ↔ j = q)) : row 32 .i64 (upd (fill p f k) q (f k)) = row 32 .i64 (fill p f (k + 1)) := by
  apply row_ext
  intro j hj
  unfold upd fill
  by_cases h1 : j = q
  · have h2 := (h j hj).2 h1
    simp [h1] at h2
    simp [h1, h2]
  · have h2 : ¬ p j = k := fun e => h1 ((h j hj).1 e)
    by_cases h3 : p j < k
    · simp [h1, h3, Nat.lt_succ_of_lt h3]
    · simp [h1, h3, show ¬ p j < k + 1 by omega]
theorem fill_0 (p : Nat → Nat) (f : Nat → Int) : row 32 .i64 (fill p f 0) = row 32 .i64 fun _ => 0 := row_ext _ fun i _ => by unfold fill; rw [if_neg (by omega)]

set_option maxHeartbeats 1000000 in
theorem refShr_is (x n : Int) (w : World) (h1 : -2147483648 ≤ x) (h2 : x ≤ 2147483647) (h3 : -2147483648 ≤ n) (h4 : n ≤ 2147483647) :
    Calls Try.prog 24 #[.int .i32 x, .int .i32 n] w fun e w' => e = .returned (.int .i32 (wShr x n)) ∧ Below w.heap.size w w' := by
  have hs := sn_lt n
  go_enter Try.func24, Try.ntmps24
  go_wp2_with (first
    | (go_at_call 36; refine (refBits_is x _ h1 h2).mono ?_; rintro e w' ⟨rfl, rfl⟩)
    | (refine wpList_store_row rfl 46 _ _ rfl (w.heap.size + 3) (row 32 .i64 (bi (wd x))) rfl rfl 46 _ (heap_atn _ _ _ (by simp)) (by rw [row_size]; exact info32) (by rw [row_size]; rfl) (row_ones _ _ _) ?_; rw [setRow_atn _ _ _ _ _ (by simp), row_32]))
  go_loopw [7] (fun i wr => ∃ k : Nat, k + sn n ≤ 32 ∧ i = .int .i64 k ∧ wr = (((w.alloc (.cells (row 32 .i64 (fill (fun j => j) (fun i => bi (wd x) (i + sn n)) k)) 46)).alloc (.cells (row 32 .i64 (bi (wd x))) 46)).alloc (.cells (row 32 .i64 (bi (wd x))) 46)).alloc (.cells (row 32 .i64 (bi (wd x))) 46)) (fun i _ => 32 - (intOf i).toNat)
  case atStart => exact ⟨0, by omega, rfl, by rw [fill_0]⟩
  case round =>
    obtain ⟨k, hk, rfl, rfl⟩ := hrel
    have H := Lib.hid (fill_step (fun j => j) (fun i => bi (wd x) (i + sn n)) k k (fun j _ => Iff.rfl))
    by_cases hlt : k + sn n < 32
    · have hlt' : (k : Int) + sn n < 32 := by omega
      have hg := row_get .i64 (fill (fun j => j) (fun i => bi (wd x) (i + sn n)) k) (show k < 32 by omega)
      have hb := row_get .i64 (bi (wd x)) hlt
      go_wp2_with (go_at_call 37; refine (refBy_is n _ h3 h4).mono ?_; rintro e w' ⟨rfl, rfl⟩)
      go_roundw
      case rel => exact ⟨k + 1, by omega, by go_num, by rw [row_set, H.out]⟩
      case measure => simp [intOf]; omega
    · have hge : ¬ (k : Int) + sn n < 32 := by omega
      have E : row 32 .i64 (fill (fun j => j) (fun i => bi (wd x) (i + sn n)) k) = row 32 .i64 (bi (wd x >>> sn n)) :=
        row_ext _ fun i hi => by
          rw [bi_shr]; unfold fill
          by_cases h : i < k
          · rw [if_pos h, if_pos (by omega)]
          · rw [if_neg h, if_neg (by omega)]
      rw [E]
      clear E
      go_wp2_with (first
        | (go_at_call 37; refine (refBy_is n _ h3 h4).mono ?_; rintro e w' ⟨rfl, rfl⟩)
        | (refine wpList_load_row rfl 46 _ rfl w.heap.size rfl 46 (row 32 .i64 (bi (wd x >>> sn n))) (0, 0) _ (by rw [heap_lt _ _ _ (by simp; omega), heap_lt _ _ _ (by simp; omega), heap_lt _ _ _ (by simp), heap_atn _ _ _ rfl]) Try.underlying46 rfl (by rw [row_size]; exact info32) ?_)
        | (go_at_call 38; refine (refOf_is (wd x >>> sn n) _ _ rfl).mono ?_; rintro e w' ⟨rfl, rfl⟩))
      go_ret
      exact ⟨rfl, (((((Below.refl _ _).alloc (Nat.le_refl _) _).alloc (by simp) _).alloc (by simp; omega) _).alloc (by simp; omega) _).alloc (by simp; omega) _⟩

end Go.Proofs.Ytbcfmlcfkihenaa
