/- What the document's own plain answers for the operations (package astrolaberef07) give: words made bit by bit of two. Conditions: the numbers are of the kind int32. -/
import Derived.Test.YtcoicgkpikoibaaGreatDoorRefs
import Derived.Test.YtcoicgkpikoibaaGreatDoorNum
import Derived.StillTailTactics
namespace Go.Proofs.YtcoicgkpikoibaaGreatDoor
open Go.RowKit

/-- What is made bit by bit, up to the place k. -/
def zTo (x z : BitVec 32) (k i : Nat) : Int := if i < k then bi z i else bi x i
theorem zTo_at (x z : BitVec 32) (k : Nat) : zTo x z k k = bi x k := by unfold zTo; rw [if_neg (Nat.lt_irrefl _)]
theorem zTo_step (x z : BitVec 32) (k : Nat) : row 32 .i64 (upd (zTo x z k) k (bi z k)) = row 32 .i64 (zTo x z (k + 1)) := by
  apply row_ext
  intro i _
  unfold upd zTo
  by_cases h1 : i = k
  · subst h1; rw [if_pos rfl, if_pos (Nat.lt_succ_self _)]
  · by_cases h2 : i < k
    · simp [h1, h2, Nat.lt_succ_of_lt h2]
    · simp [h1, h2, show ¬ i < k + 1 by omega]
theorem zTo_0 (x z : BitVec 32) : row 32 .i64 (zTo x z 0) = row 32 .i64 (bi x) := row_ext _ fun i _ => by unfold zTo; rw [if_neg (by omega)]
theorem zTo_32 (x z : BitVec 32) : row 32 .i64 (zTo x z 32) = row 32 .i64 (bi z) := row_ext _ fun i hi => by unfold zTo; rw [if_pos hi]
theorem mul_bd {u v : Int} (h1 : 0 ≤ u ∧ u ≤ 1) (h2 : 0 ≤ v ∧ v ≤ 1) : 0 ≤ u * v ∧ u * v ≤ 1 := by
  rcases (show u = 0 ∨ u = 1 by omega) with rfl | rfl
  · simp
  · simpa using h2
theorem bi_and (x y : BitVec 32) (i : Nat) : bi x i * bi y i = bi (x &&& y) i := by
  simp only [bi_bit, BitVec.getLsbD_and]
  cases x.getLsbD i <;> cases y.getLsbD i <;> simp
theorem bi_or (x y : BitVec 32) (i : Nat) : bi x i + bi y i - bi x i * bi y i = bi (x ||| y) i := by
  simp only [bi_bit, BitVec.getLsbD_or]
  cases x.getLsbD i <;> cases y.getLsbD i <;> simp
theorem bi_xor' (x y : BitVec 32) (i : Nat) : (bi x i + bi y i) % 2 = bi (x ^^^ y) i := by
  simp only [bi_bit, BitVec.getLsbD_xor]
  cases x.getLsbD i <;> cases y.getLsbD i <;> simp
theorem bi_bic (x y : BitVec 32) (i : Nat) (h : i < 32) : bi x i * (1 - bi y i) = bi (x &&& ~~~y) i := by
  simp only [bi_bit, BitVec.getLsbD_and, BitVec.getLsbD_not]
  cases x.getLsbD i <;> cases y.getLsbD i <;> simp [h]

set_option maxHeartbeats 1000000 in
set_option maxRecDepth 100000 in
theorem refEach_0 (a b : Int) (w : World) (h1 : -2147483648 ≤ a) (h2 : a ≤ 2147483647) (h3 : -2147483648 ≤ b) (h4 : b ≤ 2147483647) :
    Calls Tryz.prog 80 #[.int .i64 0, .int .i32 a, .int .i32 b] w fun e w' => e = .returned (.int .i32 (wAnd a b)) ∧ Below w.heap.size w w' := by
  have hb := Below.refl w.heap.size w
  have hB := Nat.le_refl w.heap.size
  go_enter Tryz.func80, Tryz.ntmps80
  go_wp2_with (first
    | (go_at_call 105; refine (keep (refBits_b _ _ (by assumption) (by assumption)) hb hB).mono ?_; rintro e w1 ⟨rfl, hb, hB⟩)
    | (refine wpList_store_row rfl 125 _ _ rfl _ _ rfl rfl 125 _ (by first | exact at2_0 _ _ _ _ (by omega) | exact at2_1 _ _ _ _ (by omega)) (by rw [row_size]; exact info32) (by rw [row_size]; rfl) (row_ones _ _ _) ?_
       first | rw [set2_0 _ _ _ _ _ _ (by omega)] | rw [set2_1 _ _ _ _ _ _ (by omega)]))
  go_loopw [9] (fun i wr => ∃ k d : Nat, k ≤ 32 ∧ i = .int .i64 k ∧ wr = ((w1.alloc (.cells (row 32 .i64 (zTo (wd a) ((wd a) &&& (wd b)) k)) 125)).alloc (.cells (row 32 .i64 (bi (wd b))) 125)).drewN d) (fun i _ => 32 - (intOf i).toNat)
  case atStart => exact ⟨0, 0, by omega, rfl, by rw [zTo_0]; rfl⟩
  case round =>
    obtain ⟨k, d, hk, rfl, rfl⟩ := hrel
    by_cases hlt : k < 32
    · have hlt' : (k : Int) < 32 := by omega
      have g1 := row_get .i64 (zTo (wd a) ((wd a) &&& (wd b)) k) hlt
      rw [zTo_at] at g1
      have g2 := row_get .i64 (bi (wd b)) hlt
      have b1 := bi_bd (wd a) k
      have b2 := bi_bd (wd b) k
      have s1 : IntKind.i64.wrap (bi (wd a) k * bi (wd b) k) = bi ((wd a) &&& (wd b)) k := by rw [IntWalk.i64_in _ (by have := mul_bd b1 b2; omega)]; exact bi_and _ _ _
      have H := Lib.hid (zTo_step (wd a) ((wd a) &&& (wd b)) k)
      go_wp2
      generalize hW : ((w1.alloc (.cells (row 32 .i64 (zTo (wd a) ((wd a) &&& (wd b)) k)) 125)).alloc (.cells (row 32 .i64 (bi (wd b))) 125)).drewN d = W
      have c1 : W.cell? ⟨w1.heap.size, k, none⟩ = some (.int .i64 (bi (wd a) k)) := by subst hW; go_cell
      have c2 : W.cell? ⟨w1.heap.size + 1, k, none⟩ = some (.int .i64 (bi (wd b) k)) := by subst hW; go_cell
      have c3 : W.frozen? ⟨w1.heap.size, k, none⟩ = false := by subst hW; go_cell
      clear g1 g2
      refine wp_region_still_tail 9 (by kernel_rfl) (by kernel_rfl) ?_
      have HW := Lib.hid hW
      clear hW
      simp only [List.take_succ_cons, List.take_zero, List.drop_succ_cons, List.drop_zero]
      still_step
      still_step
      still_step
      still_step
      still_step
      still_step
      still_step
      still_step
      still_step
      refine wpStill_nil ?_
      go_wp2
      go_roundw
      case rel => exact ⟨k + 1, d + 1, by omega, by go_num, by rw [← HW.out, setCell_drewN', drewN_drew', World.setCell_alloc_past _ _ _ _ (by simp), World.setCell_alloc_at _ _ _ _ _ rfl, row_set, H.out]⟩
      case measure => simp [intOf]; omega
    · obtain rfl : k = 32 := by omega
      rw [zTo_32]
      go_wp2_with (first
        | (refine wpList_load_row rfl 125 _ rfl w1.heap.size rfl 125 (row 32 .i64 (bi ((wd a) &&& (wd b)))) (0, 0) _ (show (World.drewN _ d).heap[w1.heap.size]? = _ by rw [heap_drewN, at2_0 _ _ _ _ rfl]) Tryz.underlying125 rfl (by rw [row_size]; exact info32) ?_)
        | (go_at_call 109; refine (refOf_is ((wd a) &&& (wd b)) _ _ rfl).mono ?_; rintro e w' ⟨rfl, rfl⟩))
      go_ret
      exact ⟨rfl, (below_drewN (below2 hb hB _ _) d).alloc (by simp; omega) _⟩

set_option maxHeartbeats 1000000 in
set_option maxRecDepth 100000 in
theorem refEach_1 (a b : Int) (w : World) (h1 : -2147483648 ≤ a) (h2 : a ≤ 2147483647) (h3 : -2147483648 ≤ b) (h4 : b ≤ 2147483647) :
    Calls Tryz.prog 80 #[.int .i64 1, .int .i32 a, .int .i32 b] w fun e w' => e = .returned (.int .i32 (wOr a b)) ∧ Below w.heap.size w w' := by
  have hb := Below.refl w.heap.size w
  have hB := Nat.le_refl w.heap.size
  go_enter Tryz.func80, Tryz.ntmps80
  go_wp2_with (first
    | (go_at_call 105; refine (keep (refBits_b _ _ (by assumption) (by assumption)) hb hB).mono ?_; rintro e w1 ⟨rfl, hb, hB⟩)
    | (refine wpList_store_row rfl 125 _ _ rfl _ _ rfl rfl 125 _ (by first | exact at2_0 _ _ _ _ (by omega) | exact at2_1 _ _ _ _ (by omega)) (by rw [row_size]; exact info32) (by rw [row_size]; rfl) (row_ones _ _ _) ?_
       first | rw [set2_0 _ _ _ _ _ _ (by omega)] | rw [set2_1 _ _ _ _ _ _ (by omega)]))
  go_loopw [9] (fun i wr => ∃ k d : Nat, k ≤ 32 ∧ i = .int .i64 k ∧ wr = ((w1.alloc (.cells (row 32 .i64 (zTo (wd a) ((wd a) ||| (wd b)) k)) 125)).alloc (.cells (row 32 .i64 (bi (wd b))) 125)).drewN d) (fun i _ => 32 - (intOf i).toNat)
  case atStart => exact ⟨0, 0, by omega, rfl, by rw [zTo_0]; rfl⟩
  case round =>
    obtain ⟨k, d, hk, rfl, rfl⟩ := hrel
    by_cases hlt : k < 32
    · have hlt' : (k : Int) < 32 := by omega
      have g1 := row_get .i64 (zTo (wd a) ((wd a) ||| (wd b)) k) hlt
      rw [zTo_at] at g1
      have g2 := row_get .i64 (bi (wd b)) hlt
      have b1 := bi_bd (wd a) k
      have b2 := bi_bd (wd b) k
      have p1 := mul_bd b1 b2
      have s1 : IntKind.i64.wrap (bi (wd a) k + bi (wd b) k) = bi (wd a) k + bi (wd b) k := IntWalk.i64_in _ (by omega)
      have s2 : IntKind.i64.wrap (bi (wd a) k * bi (wd b) k) = bi (wd a) k * bi (wd b) k := IntWalk.i64_in _ (by omega)
      have s3 : IntKind.i64.wrap (bi (wd a) k + bi (wd b) k - bi (wd a) k * bi (wd b) k) = bi ((wd a) ||| (wd b)) k := by rw [IntWalk.i64_in _ (by omega)]; exact bi_or _ _ _
      have H := Lib.hid (zTo_step (wd a) ((wd a) ||| (wd b)) k)
      go_wp2
      generalize hW : ((w1.alloc (.cells (row 32 .i64 (zTo (wd a) ((wd a) ||| (wd b)) k)) 125)).alloc (.cells (row 32 .i64 (bi (wd b))) 125)).drewN d = W
      have c1 : W.cell? ⟨w1.heap.size, k, none⟩ = some (.int .i64 (bi (wd a) k)) := by subst hW; go_cell
      have c2 : W.cell? ⟨w1.heap.size + 1, k, none⟩ = some (.int .i64 (bi (wd b) k)) := by subst hW; go_cell
      have c3 : W.frozen? ⟨w1.heap.size, k, none⟩ = false := by subst hW; go_cell
      clear g1 g2
      refine wp_region_still_tail 17 (by kernel_rfl) (by kernel_rfl) ?_
      have HW := Lib.hid hW
      clear hW
      simp only [List.take_succ_cons, List.take_zero, List.drop_succ_cons, List.drop_zero]
      still_step
      still_step
      still_step
      still_step
      still_step
      still_step
      still_step
      still_step
      still_step
      still_step
      still_step
      still_step
      still_step
      still_step
      still_step
      still_step
      still_step
      refine wpStill_nil ?_
      go_wp2
      go_roundw
      case rel => exact ⟨k + 1, d + 1, by omega, by go_num, by rw [← HW.out, setCell_drewN', drewN_drew', World.setCell_alloc_past _ _ _ _ (by simp), World.setCell_alloc_at _ _ _ _ _ rfl, row_set, H.out]⟩
      case measure => simp [intOf]; omega
    · obtain rfl : k = 32 := by omega
      rw [zTo_32]
      go_wp2_with (first
        | (refine wpList_load_row rfl 125 _ rfl w1.heap.size rfl 125 (row 32 .i64 (bi ((wd a) ||| (wd b)))) (0, 0) _ (show (World.drewN _ d).heap[w1.heap.size]? = _ by rw [heap_drewN, at2_0 _ _ _ _ rfl]) Tryz.underlying125 rfl (by rw [row_size]; exact info32) ?_)
        | (go_at_call 109; refine (refOf_is ((wd a) ||| (wd b)) _ _ rfl).mono ?_; rintro e w' ⟨rfl, rfl⟩))
      go_ret
      exact ⟨rfl, (below_drewN (below2 hb hB _ _) d).alloc (by simp; omega) _⟩

set_option maxHeartbeats 1000000 in
set_option maxRecDepth 100000 in
theorem refEach_2 (a b : Int) (w : World) (h1 : -2147483648 ≤ a) (h2 : a ≤ 2147483647) (h3 : -2147483648 ≤ b) (h4 : b ≤ 2147483647) :
    Calls Tryz.prog 80 #[.int .i64 2, .int .i32 a, .int .i32 b] w fun e w' => e = .returned (.int .i32 (wXor a b)) ∧ Below w.heap.size w w' := by
  have hb := Below.refl w.heap.size w
  have hB := Nat.le_refl w.heap.size
  go_enter Tryz.func80, Tryz.ntmps80
  go_wp2_with (first
    | (go_at_call 105; refine (keep (refBits_b _ _ (by assumption) (by assumption)) hb hB).mono ?_; rintro e w1 ⟨rfl, hb, hB⟩)
    | (refine wpList_store_row rfl 125 _ _ rfl _ _ rfl rfl 125 _ (by first | exact at2_0 _ _ _ _ (by omega) | exact at2_1 _ _ _ _ (by omega)) (by rw [row_size]; exact info32) (by rw [row_size]; rfl) (row_ones _ _ _) ?_
       first | rw [set2_0 _ _ _ _ _ _ (by omega)] | rw [set2_1 _ _ _ _ _ _ (by omega)]))
  go_loopw [9] (fun i wr => ∃ k d : Nat, k ≤ 32 ∧ i = .int .i64 k ∧ wr = ((w1.alloc (.cells (row 32 .i64 (zTo (wd a) ((wd a) ^^^ (wd b)) k)) 125)).alloc (.cells (row 32 .i64 (bi (wd b))) 125)).drewN d) (fun i _ => 32 - (intOf i).toNat)
  case atStart => exact ⟨0, 0, by omega, rfl, by rw [zTo_0]; rfl⟩
  case round =>
    obtain ⟨k, d, hk, rfl, rfl⟩ := hrel
    by_cases hlt : k < 32
    · have hlt' : (k : Int) < 32 := by omega
      have g1 := row_get .i64 (zTo (wd a) ((wd a) ^^^ (wd b)) k) hlt
      rw [zTo_at] at g1
      have g2 := row_get .i64 (bi (wd b)) hlt
      have b1 := bi_bd (wd a) k
      have b2 := bi_bd (wd b) k
      have s1 : IntKind.i64.wrap (bi (wd a) k + bi (wd b) k) = bi (wd a) k + bi (wd b) k := IntWalk.i64_in _ (by omega)
      have s2 : (bi (wd a) k + bi (wd b) k).tmod 2 = bi ((wd a) ^^^ (wd b)) k := by rw [Int.tmod_eq_emod_of_nonneg (by omega)]; exact bi_xor' _ _ _
      have H := Lib.hid (zTo_step (wd a) ((wd a) ^^^ (wd b)) k)
      go_wp2
      generalize hW : ((w1.alloc (.cells (row 32 .i64 (zTo (wd a) ((wd a) ^^^ (wd b)) k)) 125)).alloc (.cells (row 32 .i64 (bi (wd b))) 125)).drewN d = W
      have c1 : W.cell? ⟨w1.heap.size, k, none⟩ = some (.int .i64 (bi (wd a) k)) := by subst hW; go_cell
      have c2 : W.cell? ⟨w1.heap.size + 1, k, none⟩ = some (.int .i64 (bi (wd b) k)) := by subst hW; go_cell
      have c3 : W.frozen? ⟨w1.heap.size, k, none⟩ = false := by subst hW; go_cell
      clear g1 g2
      refine wp_region_still_tail 10 (by kernel_rfl) (by kernel_rfl) ?_
      have HW := Lib.hid hW
      clear hW
      simp only [List.take_succ_cons, List.take_zero, List.drop_succ_cons, List.drop_zero]
      still_step
      still_step
      still_step
      still_step
      still_step
      still_step
      still_step
      still_step
      still_step
      still_step
      refine wpStill_nil ?_
      go_wp2
      go_roundw
      case rel => exact ⟨k + 1, d + 1, by omega, by go_num, by rw [← HW.out, setCell_drewN', drewN_drew', World.setCell_alloc_past _ _ _ _ (by simp), World.setCell_alloc_at _ _ _ _ _ rfl, row_set, H.out]⟩
      case measure => simp [intOf]; omega
    · obtain rfl : k = 32 := by omega
      rw [zTo_32]
      go_wp2_with (first
        | (refine wpList_load_row rfl 125 _ rfl w1.heap.size rfl 125 (row 32 .i64 (bi ((wd a) ^^^ (wd b)))) (0, 0) _ (show (World.drewN _ d).heap[w1.heap.size]? = _ by rw [heap_drewN, at2_0 _ _ _ _ rfl]) Tryz.underlying125 rfl (by rw [row_size]; exact info32) ?_)
        | (go_at_call 109; refine (refOf_is ((wd a) ^^^ (wd b)) _ _ rfl).mono ?_; rintro e w' ⟨rfl, rfl⟩))
      go_ret
      exact ⟨rfl, (below_drewN (below2 hb hB _ _) d).alloc (by simp; omega) _⟩

set_option maxHeartbeats 1000000 in
set_option maxRecDepth 100000 in
theorem refEach_3 (a b : Int) (w : World) (h1 : -2147483648 ≤ a) (h2 : a ≤ 2147483647) (h3 : -2147483648 ≤ b) (h4 : b ≤ 2147483647) :
    Calls Tryz.prog 80 #[.int .i64 3, .int .i32 a, .int .i32 b] w fun e w' => e = .returned (.int .i32 (wBic a b)) ∧ Below w.heap.size w w' := by
  have hb := Below.refl w.heap.size w
  have hB := Nat.le_refl w.heap.size
  go_enter Tryz.func80, Tryz.ntmps80
  go_wp2_with (first
    | (go_at_call 105; refine (keep (refBits_b _ _ (by assumption) (by assumption)) hb hB).mono ?_; rintro e w1 ⟨rfl, hb, hB⟩)
    | (refine wpList_store_row rfl 125 _ _ rfl _ _ rfl rfl 125 _ (by first | exact at2_0 _ _ _ _ (by omega) | exact at2_1 _ _ _ _ (by omega)) (by rw [row_size]; exact info32) (by rw [row_size]; rfl) (row_ones _ _ _) ?_
       first | rw [set2_0 _ _ _ _ _ _ (by omega)] | rw [set2_1 _ _ _ _ _ _ (by omega)]))
  go_loopw [9] (fun i wr => ∃ k d : Nat, k ≤ 32 ∧ i = .int .i64 k ∧ wr = ((w1.alloc (.cells (row 32 .i64 (zTo (wd a) ((wd a) &&& ~~~(wd b)) k)) 125)).alloc (.cells (row 32 .i64 (bi (wd b))) 125)).drewN d) (fun i _ => 32 - (intOf i).toNat)
  case atStart => exact ⟨0, 0, by omega, rfl, by rw [zTo_0]; rfl⟩
  case round =>
    obtain ⟨k, d, hk, rfl, rfl⟩ := hrel
    by_cases hlt : k < 32
    · have hlt' : (k : Int) < 32 := by omega
      have g1 := row_get .i64 (zTo (wd a) ((wd a) &&& ~~~(wd b)) k) hlt
      rw [zTo_at] at g1
      have g2 := row_get .i64 (bi (wd b)) hlt
      have b1 := bi_bd (wd a) k
      have b2 := bi_bd (wd b) k
      have s1 : IntKind.i64.wrap (1 - bi (wd b) k) = 1 - bi (wd b) k := IntWalk.i64_in _ (by omega)
      have s2 : IntKind.i64.wrap (bi (wd a) k * (1 - bi (wd b) k)) = bi ((wd a) &&& ~~~(wd b)) k := by rw [IntWalk.i64_in _ (by have := mul_bd (v := 1 - bi (wd b) k) b1 (by omega); omega)]; exact bi_bic _ _ _ hlt
      have H := Lib.hid (zTo_step (wd a) ((wd a) &&& ~~~(wd b)) k)
      go_wp2
      generalize hW : ((w1.alloc (.cells (row 32 .i64 (zTo (wd a) ((wd a) &&& ~~~(wd b)) k)) 125)).alloc (.cells (row 32 .i64 (bi (wd b))) 125)).drewN d = W
      have c1 : W.cell? ⟨w1.heap.size, k, none⟩ = some (.int .i64 (bi (wd a) k)) := by subst hW; go_cell
      have c2 : W.cell? ⟨w1.heap.size + 1, k, none⟩ = some (.int .i64 (bi (wd b) k)) := by subst hW; go_cell
      have c3 : W.frozen? ⟨w1.heap.size, k, none⟩ = false := by subst hW; go_cell
      clear g1 g2
      refine wp_region_still_tail 10 (by kernel_rfl) (by kernel_rfl) ?_
      have HW := Lib.hid hW
      clear hW
      simp only [List.take_succ_cons, List.take_zero, List.drop_succ_cons, List.drop_zero]
      still_step
      still_step
      still_step
      still_step
      still_step
      still_step
      still_step
      still_step
      still_step
      still_step
      refine wpStill_nil ?_
      go_wp2
      go_roundw
      case rel => exact ⟨k + 1, d + 1, by omega, by go_num, by rw [← HW.out, setCell_drewN', drewN_drew', World.setCell_alloc_past _ _ _ _ (by simp), World.setCell_alloc_at _ _ _ _ _ rfl, row_set, H.out]⟩
      case measure => simp [intOf]; omega
    · obtain rfl : k = 32 := by omega
      rw [zTo_32]
      go_wp2_with (first
        | (refine wpList_load_row rfl 125 _ rfl w1.heap.size rfl 125 (row 32 .i64 (bi ((wd a) &&& ~~~(wd b)))) (0, 0) _ (show (World.drewN _ d).heap[w1.heap.size]? = _ by rw [heap_drewN, at2_0 _ _ _ _ rfl]) Tryz.underlying125 rfl (by rw [row_size]; exact info32) ?_)
        | (go_at_call 109; refine (refOf_is ((wd a) &&& ~~~(wd b)) _ _ rfl).mono ?_; rintro e w' ⟨rfl, rfl⟩))
      go_ret
      exact ⟨rfl, (below_drewN (below2 hb hB _ _) d).alloc (by simp; omega) _⟩
end Go.Proofs.YtcoicgkpikoibaaGreatDoor
