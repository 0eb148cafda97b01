/- The walk of the law TurnTells: it returns true and writes nothing that was there. -/
import Derived.Test.YtmlofggohkcjnaaGreatTurnK
import Derived.RegionTactic
namespace Go.Proofs.YtmlofggohkcjnaaGreat.turnTells
open Go.RowKit Go.ChangeShapes Go.OpenShut

set_option maxHeartbeats 2000000 in
theorem walk (y x : Int) (w0 : (Lit.int .i32 y).wf = true) (w1 : (Lit.int .i32 x).wf = true) (w : World) :
    Calls Tryz.prog 3 #[.int .i32 y, .int .i32 x] w fun e w' => e = .returned (.bool true) ∧ Below w.heap.size w w' := by
  obtain ⟨y1, y2⟩ := bounds_i32 w0
  obtain ⟨x1, x2⟩ := bounds_i32 w1
  have hb := Below.refl w.heap.size w
  have hB := Nat.le_refl w.heap.size
  go_enter Tryz.func3, Tryz.ntmps3
  go_wp2_with (first
    | (go_at_call 5; refine (keep (vector_is _ _ _ y1 y2 x1 x2) hb hB).mono ?_; rintro e w1 ⟨rfl, hb, hB⟩)
    | (go_at_call 6; refine (keep (refVector_is _ _ _ y1 y2 x1 x2) hb hB).mono ?_; rintro e w1 ⟨rfl, hb, hB⟩)
    | (go_at_call 7; refine (table_is _).mono ?_; rintro e wa ⟨_, rfl, hba, ha⟩; have hb := hb.trans (hba.mono hB); have hB := Nat.le_trans hB hba.size; obtain ⟨ga, ca, rfl, hga, hca, hta⟩ := ha)
    | (go_at_call 8; refine (refTable_is _).mono ?_; rintro e wb ⟨_, rfl, hbb, hm⟩; have hb := hb.trans (hbb.mono hB); have hB := Nat.le_trans hB hbb.size; obtain ⟨gm, cm, rfl, hgm, hcm, htm⟩ := hm))
  have hta' : ∀ i : Nat, i < 28 → wb.cell? ⟨ga, i, none⟩ = some (.int .i32 (tab i)) := fun i hi => (hbb.cell hga).trans (hta i hi)
  go_loopw [13] (fun i wr => ∃ k d : Nat, k ≤ 28 ∧ i = .int .i64 k ∧ wr = wb.drewN d) (fun i _ => 28 - (intOf i).toNat)
  case atStart => exact ⟨0, 0, by omega, rfl, rfl⟩
  case round =>
    obtain ⟨k, d, hk, rfl, rfl⟩ := hrel
    by_cases hlt : k < 28
    · have hlt' : (k : Int) < 28 := by omega
      have c1 : ((wb.drewN d).drew).cell? ⟨ga, k, none⟩ = some (.int .i32 (tab k)) := hta' k hlt
      have c2 : ((wb.drewN d).drew).cell? ⟨gm, k, none⟩ = some (.int .i32 (tab k)) := htm k hlt
      have kc1 : (k : Int) < ca := by omega
      clear hta hta' htm
      go_wp2
      generalize hW : wb.drewN d = W
      have e1 : W.cell? ⟨ga, k, none⟩ = some (.int .i32 (tab k)) := by subst hW; exact c1
      have e2 : W.cell? ⟨gm, k, none⟩ = some (.int .i32 (tab k)) := by subst hW; exact c2
      have HW := Lib.hid hW
      clear hW c1 c2
      go_region
      go_wp2
      go_roundw
      case rel => exact ⟨k + 1, d + 1, by omega, by go_num, by rw [← HW.out]; rfl⟩
      case measure => simp [intOf]; omega
    · obtain rfl : k = 28 := by omega
      have hb := below_drewN hb d
      have hB : w.heap.size ≤ (wb.drewN d).heap.size := hB
      clear hta hta' htm
      go_wp2_with (first
        | (go_at_call 9; refine (keep (angle_is _ _ _ y1 y2 x1 x2) hb hB).mono ?_; rintro e w1 ⟨rfl, hb, hB⟩)
        | (go_at_call 10; refine (keep (refAngle_is _ _ _ y1 y2 x1 x2) hb hB).mono ?_; rintro e w1 ⟨rfl, hb, hB⟩)
        | (go_at_call 11; refine (keep (turnAwake_is _) hb hB).mono ?_; rintro e w1 ⟨rfl, hb, hB⟩))
      go_ret
      exact ⟨rfl, hb⟩
end Go.Proofs.YtmlofggohkcjnaaGreat.turnTells
