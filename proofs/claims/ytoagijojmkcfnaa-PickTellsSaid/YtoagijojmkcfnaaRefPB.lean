/- What the document's own plain answers for which of two (package astrolaberef03) give: Sel and Flip, bit by bit. Conditions: the numbers are of the kind int32. -/
import Derived.Test.YtoagijojmkcfnaaRefPA
import Derived.Test.YtoagijojmkcfnaaRowT
import Derived.Test.YtoagijojmkcfnaaKeep
namespace Go.Proofs.Ytoagijojmkcfnaa
open Go.RowKit

theorem refBits_b (x : Int) (w : World) (h1 : -2147483648 ≤ x) (h2 : x ≤ 2147483647) :
    Calls Try.prog 28 #[.int .i32 x] w fun e w' => e = .returned (.agg (row 32 .i64 (bi (wd x)))) ∧ Below w.heap.size w w' :=
  (refBits_is x w h1 h2).mono fun _ _ ⟨he, h⟩ => ⟨he, h ▸ ((Below.refl _ _).alloc (Nat.le_refl _) _).alloc (by rw [World.size_alloc]; omega) _⟩

/-- Which of both, bit by bit, up to the place k. -/
def selTo (m a b : BitVec 32) (k i : Nat) : Int := if i < k then bi (a &&& m ||| b &&& ~~~m) i else bi b i
theorem bi_sel (m a b : BitVec 32) (i : Nat) (hi : i < 32) : bi (a &&& m ||| b &&& ~~~m) i = if bi m i = 1 then bi a i else bi b i := by
  simp only [bi_bit, BitVec.getLsbD_or, BitVec.getLsbD_and, BitVec.getLsbD_not]
  cases m.getLsbD i <;> simp [hi]
theorem selTo_one (m a b : BitVec 32) (k : Nat) (hk : k < 32) (h : bi m k = 1) : row 32 .i64 (upd (selTo m a b k) k (bi a k)) = row 32 .i64 (selTo m a b (k + 1)) := by
  apply row_ext
  intro i hi
  unfold upd selTo
  by_cases h1 : i = k
  · subst h1; rw [if_pos rfl, if_pos (Nat.lt_succ_self _), bi_sel _ _ _ _ hk, if_pos h]
  · by_cases h2 : i < k
    · simp [h1, h2, Nat.lt_succ_of_lt h2]
    · simp [h1, h2, show ¬ i < k + 1 by omega]
theorem selTo_none (m a b : BitVec 32) (k : Nat) (hk : k < 32) (h : ¬ bi m k = 1) : row 32 .i64 (selTo m a b k) = row 32 .i64 (selTo m a b (k + 1)) := by
  apply row_ext
  intro i hi
  unfold selTo
  by_cases h1 : i = k
  · subst h1; rw [if_neg (Nat.lt_irrefl _), if_pos (Nat.lt_succ_self _), bi_sel _ _ _ _ hk, if_neg h]
  · by_cases h2 : i < k
    · simp [h2, Nat.lt_succ_of_lt h2]
    · simp [h2, show ¬ i < k + 1 by omega]
theorem selTo_0 (m a b : BitVec 32) : row 32 .i64 (selTo m a b 0) = row 32 .i64 (bi b) := row_ext _ fun i _ => by unfold selTo; rw [if_neg (by omega)]
theorem selTo_32 (m a b : BitVec 32) : row 32 .i64 (selTo m a b 32) = row 32 .i64 (bi (a &&& m ||| b &&& ~~~m)) := row_ext _ fun i hi => by unfold selTo; rw [if_pos hi]

set_option maxHeartbeats 1000000 in
theorem refSel_is (m a b : Int) (w : World) (h1 : -2147483648 ≤ m) (h2 : m ≤ 2147483647) (h3 : -2147483648 ≤ a) (h4 : a ≤ 2147483647) (h5 : -2147483648 ≤ b) (h6 : b ≤ 2147483647) :
    Calls Try.prog 12 #[.int .i32 m, .int .i32 a, .int .i32 b] w fun e w' => e = .returned (.int .i32 (wSel m a b)) ∧ Below w.heap.size w w' := by
  have hb := Below.refl w.heap.size w
  have hB := Nat.le_refl w.heap.size
  go_enter Try.func12, Try.ntmps12
  go_wp2_with (first
    | (go_at_call 28; refine (keep (refBits_b _ _ (by assumption) (by assumption)) hb hB).mono ?_; rintro e w1 ⟨rfl, hb, hB⟩)
    | (refine wpList_store_row rfl 31 _ _ rfl _ _ rfl rfl 31 _ (by first | exact at3_0 _ _ _ _ _ (by omega) | exact at3_1 _ _ _ _ _ (by omega) | exact at3_2 _ _ _ _ _ (by omega)) (by rw [row_size]; exact info32) (by rw [row_size]; rfl) (row_ones _ _ _) ?_
       first | rw [set3_0 _ _ _ _ _ _ _ (by omega)] | rw [set3_1 _ _ _ _ _ _ _ (by omega)] | rw [set3_2 _ _ _ _ _ _ _ (by omega)]))
  go_loopw [10] (fun i wr => ∃ k : Nat, k ≤ 32 ∧ i = .int .i64 k ∧ wr = ((w1.alloc (.cells (row 32 .i64 (bi (wd m))) 31)).alloc (.cells (row 32 .i64 (bi (wd a))) 31)).alloc (.cells (row 32 .i64 (selTo (wd m) (wd a) (wd b) k)) 31)) (fun i _ => 32 - (intOf i).toNat)
  case atStart => exact ⟨0, by omega, rfl, by rw [selTo_0]⟩
  case round =>
    obtain ⟨k, hk, rfl, rfl⟩ := hrel
    by_cases hlt : k < 32
    · have hlt' : (k : Int) < 32 := by omega
      have g1 := row_get .i64 (bi (wd m)) hlt
      have g2 := row_get .i64 (bi (wd a)) hlt
      have g3 := row_get .i64 (selTo (wd m) (wd a) (wd b) k) hlt
      generalize hW : ((w1.alloc (.cells (row 32 .i64 (bi (wd m))) 31)).alloc (.cells (row 32 .i64 (bi (wd a))) 31)).alloc (.cells (row 32 .i64 (selTo (wd m) (wd a) (wd b) k)) 31) = W
      have c1 : W.cell? ⟨w1.heap.size, k, none⟩ = some (.int .i64 (bi (wd m) k)) := by subst hW; go_cell
      have c2 : W.cell? ⟨w1.heap.size + 1, k, none⟩ = some (.int .i64 (bi (wd a) k)) := by subst hW; go_cell
      have c3 : W.cell? ⟨w1.heap.size + 1 + 1, k, none⟩ = some (.int .i64 (selTo (wd m) (wd a) (wd b) k k)) := by subst hW; go_cell
      have c4 : W.frozen? ⟨w1.heap.size + 1 + 1, k, none⟩ = false := by subst hW; go_cell
      clear g1 g2 g3
      have HW := Lib.hid hW
      clear hW
      by_cases h1' : bi (wd m) k = 1
      · have H := Lib.hid (selTo_one (wd m) (wd a) (wd b) k hlt h1')
        go_wp2
        go_roundw
        case rel => exact ⟨k + 1, by omega, by go_num, by rw [← HW.out, World.setCell_alloc_at _ _ _ _ _ (by simp), row_set, H.out]⟩
        case measure => simp [intOf]; omega
      · have H := Lib.hid (selTo_none (wd m) (wd a) (wd b) k hlt h1')
        go_wp2
        go_roundw
        case rel => exact ⟨k + 1, by omega, by go_num, by rw [← H.out, HW.out]⟩
        case measure => simp [intOf]; omega
    · obtain rfl : k = 32 := by omega
      rw [selTo_32]
      go_wp2_with (first
        | (refine wpList_load_row rfl 31 _ rfl (w1.heap.size + 2) rfl 31 _ (0, 0) _ (at3_2 _ _ _ _ _ (by omega)) Try.underlying31 rfl (by rw [row_size]; exact info32) ?_)
        | (go_at_call 29; refine (refOf_is (wd a &&& wd m ||| wd b &&& ~~~wd m) _ _ rfl).mono ?_; rintro e w' ⟨rfl, rfl⟩))
      go_ret
      exact ⟨rfl, (below3 hb hB _ _ _).alloc (by simp; omega) _⟩

/-- What is turned, bit by bit, up to the place k. -/
def xorTo (x m : BitVec 32) (k i : Nat) : Int := if i < k then bi (x ^^^ m) i else bi x i
theorem bi_xor (x m : BitVec 32) (i : Nat) : (bi x i + bi m i) % 2 = bi (x ^^^ m) i := by
  simp only [bi_bit, BitVec.getLsbD_xor]
  cases x.getLsbD i <;> cases m.getLsbD i <;> simp
theorem xorTo_at (x m : BitVec 32) (k : Nat) : xorTo x m k k = bi x k := by unfold xorTo; rw [if_neg (Nat.lt_irrefl _)]
theorem xorTo_step (x m : BitVec 32) (k : Nat) : row 32 .i64 (upd (xorTo x m k) k ((bi x k + bi m k) % 2)) = row 32 .i64 (xorTo x m (k + 1)) := by
  apply row_ext
  intro i _
  unfold upd xorTo
  by_cases h1 : i = k
  · subst h1; rw [if_pos rfl, if_pos (Nat.lt_succ_self _), bi_xor]
  · by_cases h2 : i < k
    · simp [h1, h2, Nat.lt_succ_of_lt h2]
    · simp [h1, h2, show ¬ i < k + 1 by omega]
theorem xorTo_0 (x m : BitVec 32) : row 32 .i64 (xorTo x m 0) = row 32 .i64 (bi x) := row_ext _ fun i _ => by unfold xorTo; rw [if_neg (by omega)]
theorem xorTo_32 (x m : BitVec 32) : row 32 .i64 (xorTo x m 32) = row 32 .i64 (bi (x ^^^ m)) := row_ext _ fun i hi => by unfold xorTo; rw [if_pos hi]

set_option maxHeartbeats 1000000 in
theorem refFlip_is (x m : Int) (w : World) (h1 : -2147483648 ≤ x) (h2 : x ≤ 2147483647) (h3 : -2147483648 ≤ m) (h4 : m ≤ 2147483647) :
    Calls Try.prog 14 #[.int .i32 x, .int .i32 m] w fun e w' => e = .returned (.int .i32 (wFlip x m)) ∧ Below w.heap.size w w' := by
  have hb := Below.refl w.heap.size w
  have hB := Nat.le_refl w.heap.size
  go_enter Try.func14, Try.ntmps14
  go_wp2_with (first
    | (go_at_call 28; refine (keep (refBits_b _ _ (by assumption) (by assumption)) hb hB).mono ?_; rintro e w1 ⟨rfl, hb, hB⟩)
    | (refine wpList_store_row rfl 31 _ _ rfl _ _ rfl rfl 31 _ (by first | exact at2_0 _ _ _ _ (by omega) | exact at2_1 _ _ _ _ (by omega)) (by rw [row_size]; exact info32) (by rw [row_size]; rfl) (row_ones _ _ _) ?_
       first | rw [set2_0 _ _ _ _ _ _ (by omega)] | rw [set2_1 _ _ _ _ _ _ (by omega)]))
  go_loopw [7] (fun i wr => ∃ k d : Nat, k ≤ 32 ∧ i = .int .i64 k ∧ wr = ((w1.alloc (.cells (row 32 .i64 (xorTo (wd x) (wd m) k)) 31)).alloc (.cells (row 32 .i64 (bi (wd m))) 31)).drewN d) (fun i _ => 32 - (intOf i).toNat)
  case atStart => exact ⟨0, 0, by omega, rfl, by rw [xorTo_0]; rfl⟩
  case round =>
    obtain ⟨k, d, hk, rfl, rfl⟩ := hrel
    by_cases hlt : k < 32
    · have hlt' : (k : Int) < 32 := by omega
      have g1 := row_get .i64 (xorTo (wd x) (wd m) k) hlt
      rw [xorTo_at] at g1
      have g2 := row_get .i64 (bi (wd m)) hlt
      have b1 := bi_bd (wd x) k
      have b2 := bi_bd (wd m) k
      have s1 : IntKind.i64.wrap (bi (wd x) k + bi (wd m) k) = bi (wd x) k + bi (wd m) k := IntWalk.i64_in _ (by omega)
      have s2 : (bi (wd x) k + bi (wd m) k).tmod 2 = (bi (wd x) k + bi (wd m) k) % 2 := Int.tmod_eq_emod_of_nonneg (by omega)
      have H := Lib.hid (xorTo_step (wd x) (wd m) k)
      go_wp2
      generalize hW : ((w1.alloc (.cells (row 32 .i64 (xorTo (wd x) (wd m) k)) 31)).alloc (.cells (row 32 .i64 (bi (wd m))) 31)).drewN d = W
      have c1 : W.cell? ⟨w1.heap.size, k, none⟩ = some (.int .i64 (bi (wd x) k)) := by subst hW; go_cell
      have c2 : W.cell? ⟨w1.heap.size + 1, k, none⟩ = some (.int .i64 (bi (wd m) k)) := by subst hW; go_cell
      have c3 : W.frozen? ⟨w1.heap.size, k, none⟩ = false := by subst hW; go_cell
      clear g1 g2
      refine wp_region_still_tail 10 (by kernel_rfl) (by kernel_rfl) ?_
      have HW := Lib.hid hW
      clear hW
      simp only [List.take_succ_cons, List.take_zero, List.drop_succ_cons, List.drop_zero]
      still_step
      still_step
      still_step
      still_step
      still_step
      still_step
      still_step
      still_step
      still_step
      still_step
      refine wpStill_nil ?_
      go_wp2
      go_roundw
      case rel => exact ⟨k + 1, d + 1, by omega, by go_num, by rw [← HW.out, setCell_drewN', drewN_drew', World.setCell_alloc_past _ _ _ _ (by simp), World.setCell_alloc_at _ _ _ _ _ rfl, row_set, H.out]⟩
      case measure => simp [intOf]; omega
    · obtain rfl : k = 32 := by omega
      rw [xorTo_32]
      have bx := sg_bd (wd x ^^^ wd m)
      have E := Lib.hid (show wrap32 (sg (wd x ^^^ wd m) - m) = wFlip x m from rfl)
      go_wp2_with (first
        | (refine wpList_load_row rfl 31 _ rfl w1.heap.size rfl 31 (row 32 .i64 (bi (wd x ^^^ wd m))) (0, 0) _ (show (World.drewN _ d).heap[w1.heap.size]? = _ by rw [heap_drewN, at2_0 _ _ _ _ rfl]) Try.underlying31 rfl (by rw [row_size]; exact info32) ?_)
        | (go_at_call 29; refine (refOf_is (wd x ^^^ wd m) _ _ rfl).mono ?_; rintro e w' ⟨rfl, rfl⟩)
        | (go_at_call 30; refine (refLow_is _ _ _ rfl).mono ?_; rintro e w' ⟨rfl, rfl⟩))
      go_ret
      exact ⟨ret_int E.out, (below_drewN (below2 hb hB _ _) d).alloc (by simp; omega) _⟩
end Go.Proofs.Ytoagijojmkcfnaa
