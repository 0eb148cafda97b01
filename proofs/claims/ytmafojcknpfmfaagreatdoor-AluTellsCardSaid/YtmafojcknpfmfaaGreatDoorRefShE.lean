/- What the document's own plain answers for shifted words (package astrolaberef02) give: Sar and Rol. Conditions: the numbers are of the kind int32. -/
import Derived.Test.YtmafojcknpfmfaaGreatDoorRefShC
import Derived.StillTailTactics
import Derived.Deep.RegionWith
namespace Go.Proofs.YtmafojcknpfmfaaGreatDoor
open Go.RowKit

theorem drewN_heap (w : World) (d : Nat) : (w.drewN d).heap = w.heap := rfl

theorem setCell_drewN (w : World) (d : Nat) (a : Addr) (v : Value) : (w.drewN d).setCell a v = (w.setCell a v).drewN d := rfl
theorem drewN_drew (w : World) (d : Nat) : (w.drewN d).drew = w.drewN (d + 1) := rfl

theorem tdiv_exact (x m : Int) (hm : 0 < m) : (x - x % m).tdiv m = x / m := by
  have h : x - x % m = m * (x / m) := by have := Int.mul_ediv_add_emod x m; omega
  rw [h, Int.mul_tdiv_cancel_left _ (by omega)]

set_option maxHeartbeats 1000000 in
theorem refSar_is (x n : Int) (w : World) (h1 : -2147483648 ≤ x) (h2 : x ≤ 2147483647) (h3 : -2147483648 ≤ n) (h4 : n ≤ 2147483647) :
    Calls Tryz.prog 56 #[.int .i32 x, .int .i32 n] w fun e w' => e = .returned (.int .i32 (wSar x n)) ∧ w = w' := by
  have hs := sn_lt n
  have hw := wSar_bd x n
  have E := Lib.hid (wSar_eq (n := n) h1 h2)
  go_enter Tryz.func56, Tryz.ntmps56
  go_wp2
  go_loop [5, 6] (fun m i => ∃ k : Nat, k ≤ sn n ∧ i = .int .i64 k ∧ m = .int .i64 (pw k)) (fun _ i => sn n - (intOf i).toNat)
  case atStart => exact ⟨0, by omega, rfl, rfl⟩
  case round =>
    obtain ⟨k, hk, rfl, rfl⟩ := hrel
    have p0 := pw_pos k
    have p1 : pw k ≤ 2147483648 := pw_mono (m := 31) (by omega)
    by_cases hlt : k < sn n
    · have S := Lib.hid (pw_succ k)
      have hlt' : (k : Int) < sn n := by omega
      go_wp2_with (go_at_call 101; refine (refBy_is n _ h3 h4).mono ?_; rintro e w' ⟨rfl, rfl⟩)
      go_round
      case rel => exact ⟨k + 1, by omega, by go_num, by rw [S.out]⟩
      case measure => simp [intOf]; omega
    · have hkk : k = sn n := by omega
      have hge : ¬ (k : Int) < sn n := by omega
      have q0 := Int.emod_nonneg x (show pw k ≠ 0 by omega)
      have q1 := Int.emod_lt_of_pos x p0
      have T := Lib.hid (tdiv_exact x (pw k) p0)
      have E2 := Lib.hid (show x / pw k = wSar x n by rw [E.out, hkk]; rfl)
      clear hkk
      go_wp2_with (first
        | (go_at_call 101; refine (refBy_is n _ h3 h4).mono ?_; rintro e w' ⟨rfl, rfl⟩)
        | (go_at_call 102; refine (refMod_is x (pw k) _ _ (by omega) (by omega) rfl).mono ?_; rintro e w' ⟨rfl, rfl⟩))
      go_ret
      exact ⟨ret_int (by rw [T.out, E2.out]; exact IntWalk.wrap32_in _ hw), rfl⟩

set_option maxHeartbeats 1000000 in
set_option maxRecDepth 100000 in
theorem refRol_is (x n : Int) (w : World) (h1 : -2147483648 ≤ x) (h2 : x ≤ 2147483647) (h3 : -2147483648 ≤ n) (h4 : n ≤ 2147483647) :
    Calls Tryz.prog 63 #[.int .i32 x, .int .i32 n] w fun e w' => e = .returned (.int .i32 (wRol x n)) ∧ Below w.heap.size w w' := by
  have hs := sn_lt n
  go_enter Tryz.func63, Tryz.ntmps63
  go_wp2_with (first
    | (go_at_call 97; refine (refBits_is x _ h1 h2).mono ?_; rintro e w' ⟨rfl, rfl⟩)
    | (refine wpList_store_row rfl 59 _ _ rfl (w.heap.size + 3) (row 32 .i64 (bi (wd x))) rfl rfl 59 _ (heap_atn _ _ _ (by simp)) (by rw [row_size]; exact info32) (by rw [row_size]; rfl) (row_ones _ _ _) ?_; rw [setRow_atn _ _ _ _ _ (by simp), row_32]))
  go_loopw [7] (fun i wr => ∃ k d : Nat, k ≤ 32 ∧ i = .int .i64 k ∧ wr = ((((w.alloc (.cells (row 32 .i64 (fill (fun j => (j + (32 - sn n)) % 32) (bi (wd x)) k)) 59)).alloc (.cells (row 32 .i64 (bi (wd x))) 59)).alloc (.cells (row 32 .i64 (bi (wd x))) 59)).alloc (.cells (row 32 .i64 (bi (wd x))) 59)).drewN d) (fun i _ => 32 - (intOf i).toNat)
  case atStart => exact ⟨0, 0, by omega, rfl, by rw [fill_0]; rfl⟩
  case round =>
    obtain ⟨k, d, hk, rfl, rfl⟩ := hrel
    by_cases hlt : k < 32
    · have H := Lib.hid (fill_step (fun j => (j + (32 - sn n)) % 32) (bi (wd x)) k ((k + sn n) % 32) (fun j hj => by show (j + (32 - sn n)) % 32 = k ↔ _; omega))
      have hlt' : (k : Int) < 32 := by omega
      have hg := row_get .i64 (fill (fun j => (j + (32 - sn n)) % 32) (bi (wd x)) k) (show (k + sn n) % 32 < 32 by omega)
      have hb := row_get .i64 (bi (wd x)) hlt
      have s1 : IntKind.i64.wrap ((k : Int) + sn n) = (k : Int) + sn n := IntWalk.i64_in _ (by omega)
      have s2 : ((k : Int) + sn n).tmod 32 = ((k : Int) + sn n) % 32 := Int.tmod_eq_emod_of_nonneg (by omega)
      have s3 : 0 ≤ ((k : Int) + sn n) % 32 := by omega
      have s4 : ((k : Int) + sn n) % 32 < 32 := by omega
      have s5 : (((k : Int) + sn n) % 32).toNat = (k + sn n) % 32 := by omega
      go_wp2
      generalize hW : ((((w.alloc (.cells (row 32 .i64 (fill (fun j => (j + (32 - sn n)) % 32) (bi (wd x)) k)) 59)).alloc (.cells (row 32 .i64 (bi (wd x))) 59)).alloc (.cells (row 32 .i64 (bi (wd x))) 59)).alloc (.cells (row 32 .i64 (bi (wd x))) 59)).drewN d = W
      have c1 : W.cell? ⟨w.heap.size + 1 + 1 + 1, k, none⟩ = some (.int .i64 (bi (wd x) k)) := by subst hW; go_cell
      have c2 : W.cell? ⟨w.heap.size, (k + sn n) % 32, none⟩ = some (.int .i64 (fill (fun j => (j + (32 - sn n)) % 32) (bi (wd x)) k ((k + sn n) % 32))) := by subst hW; go_cell
      have c3 : W.frozen? ⟨w.heap.size, (k + sn n) % 32, none⟩ = false := by subst hW; go_cell
      clear hg hb
      refine wp_region_still_tail 9 (by kernel_rfl) (by kernel_rfl) ?_
      have HW := Lib.hid hW
      clear hW
      simp only [List.take_succ_cons, List.take_zero, List.drop_succ_cons, List.drop_zero]
      still_step
      still_step
      still_call ((refBy_is n _ h3 h4).mono fun _ _ h => ⟨h.1, h.2.symm⟩)
      still_step
      still_step
      still_step
      still_step
      still_step
      still_step
      refine wpStill_nil ?_
      go_wp2
      go_roundw
      case rel => exact ⟨k + 1, d + 1, by omega, by go_num, by rw [← HW.out, setCell_drewN, drewN_drew, World.setCell_alloc_past _ _ _ _ (by simp; omega), World.setCell_alloc_past _ _ _ _ (by simp; omega), World.setCell_alloc_past _ _ _ _ (by simp), World.setCell_alloc_at _ _ _ _ _ rfl, row_set, H.out]⟩
      case measure => simp [intOf]; omega
    · obtain rfl : k = 32 := by omega
      have E : row 32 .i64 (fill (fun j => (j + (32 - sn n)) % 32) (bi (wd x)) 32) = row 32 .i64 (bi ((wd x).rotateLeft (sn n))) :=
        row_ext _ fun i hi => by rw [bi_rol _ _ _ hs hi]; unfold fill; rw [if_pos (show (i + (32 - sn n)) % 32 < 32 by omega)]
      rw [E]
      clear E
      go_wp2_with (first
        | (refine wpList_load_row rfl 59 _ rfl w.heap.size rfl 59 (row 32 .i64 (bi ((wd x).rotateLeft (sn n)))) (0, 0) _ (show (World.drewN _ d).heap[w.heap.size]? = _ by rw [drewN_heap, heap_lt _ _ _ (by simp; omega), heap_lt _ _ _ (by simp; omega), heap_lt _ _ _ (by simp), heap_atn _ _ _ rfl]) Tryz.underlying59 rfl (by rw [row_size]; exact info32) ?_)
        | (go_at_call 103; refine (refOf_is ((wd x).rotateLeft (sn n)) _ _ rfl).mono ?_; rintro e w' ⟨rfl, rfl⟩))
      go_ret
      exact ⟨rfl, (below_drewN ((((((Below.refl _ _).alloc (Nat.le_refl _) _).alloc (by simp) _).alloc (by simp; omega) _).alloc (by simp; omega) _)) d).alloc (by simp; omega) _⟩
end Go.Proofs.YtmafojcknpfmfaaGreatDoor
