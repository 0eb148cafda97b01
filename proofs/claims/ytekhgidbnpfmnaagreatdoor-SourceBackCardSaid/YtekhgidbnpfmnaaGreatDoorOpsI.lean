/- Going through the operations in order, each with its name (package ops' all): what a loop over it is handed. No conditions. -/
import Derived.RangeFuncNested
import Derived.RangeFuncBound
import Derived.RangeFuncCalls
import Derived.RangeFuncLeaves
import Derived.RangeFuncFrom
import Derived.Shelf.Abstract
import Derived.Shelf.RegionOpen
import Derived.WalkKit
import Derived.OwnWalkIn
import Derived.TacticsInMore
import Derived.LoopNIn
import Derived.LoopIn
import Derived.Test.YtekhgidbnpfmnaaGreatDoorCut
namespace Go.Proofs.YtekhgidbnpfmnaaGreatDoor
open Go.RowKit Go.Shelf

attribute [local go_sem] Oper.semAt_some

/-- What a round is handed: an operation's number and its name. -/
abbrev opEncs (x : Fin 43) : Array Value := #[.int .i64 ((x.val : Int) + 1), .string (nm x.val)]
def opPre (k : Nat) : List (Fin 43) := (List.finRange 43).take k
theorem opPre_succ {k : Nat} (h : k < 43) : opPre (k + 1) = opPre k ++ [⟨k, h⟩] := by
  unfold opPre
  rw [List.take_succ_eq_append_getElem (by simpa using h)]
  simp
theorem opPre_length {k : Nat} (h : k ≤ 43) : (opPre k).length = k := by simp [opPre, h]
theorem opPre_all (x : Fin 43) : x ∈ opPre 43 := by
  unfold opPre
  rw [List.take_of_length_le (by simp)]
  exact List.mem_finRange x
theorem grown_drewN' (w : World) (n : Nat) (row : Option Nat) : w.grownBy (w.drewN n) row := ⟨rfl, rfl, rfl, Nat.le_refl _, fun _ _ _ => rfl⟩
theorem names_rest : (⟨#[97, 100, 100, 32, 115, 117, 98, 32, 97, 100, 100, 115, 32, 115, 117, 98, 115, 32, 97, 110, 100, 32, 111, 114, 32, 120, 111, 114, 32, 98, 105, 99, 32, 115, 104, 108, 32, 115, 104, 114, 32, 115, 97, 114, 32, 114, 111, 108, 32, 115, 108, 116, 32, 115, 108, 116, 117, 32, 115, 101, 113, 32, 109, 105, 110, 32, 109, 97, 120, 32, 109, 117, 108, 32, 109, 117, 108, 104, 32, 109, 117, 108, 113, 32, 109, 117, 108, 114, 32, 100, 105, 118, 32, 114, 101, 109, 32, 99, 108, 122, 32, 110, 101, 103, 32, 97, 98, 115, 32, 109, 97, 115, 107, 32, 115, 105, 103, 110, 32, 104, 97, 108, 102, 32, 104, 105, 103, 104, 32, 97, 100, 100, 105, 32, 111, 114, 105, 32, 108, 117, 105, 32, 108, 119, 32, 115, 119, 32, 98, 101, 113, 32, 98, 110, 101, 32, 98, 108, 116, 32, 106, 117, 109, 112, 32, 106, 97, 108, 32, 106, 114, 32, 110, 111, 112, 32, 104, 97, 108, 116]⟩ : ByteArray) = rest 0 := by decide +kernel

set_option maxRecDepth 100000 in
set_option maxHeartbeats 2000000 in
theorem opsAll_stops (n : Nat) (hn : 1 ≤ n) (Kp : World → World → Prop) (w : World) :
    SeqStopsK Fence.wide n Tryz.prog 129 #[] opEncs Kp (fun xs => ∀ x, x ∈ xs) (fun _ => True) 43 w := fun l J Jx W hW hJ hJx hY h0 => by
  refine callsIn_of_wp Tryz.func129 rfl trivial ?_ rfl
  simp only [Tryz.ntmps129, List.size_toArray, List.length_cons, List.length_nil, Nat.reduceAdd, Nat.reduceSub, Array.replicate_succ, Array.replicate_zero, List.push_toArray, List.append_toArray, List.nil_append, List.cons_append]
  gi_wp2
  gi_loopw [2, 3] (fun r o wr => ∃ k : Nat, k ≤ 43 ∧ r = .string (rest k) ∧ o = .int .i64 ((k : Int) + 1) ∧ J (opPre k) wr) (fun _ o _ => 44 - (intOf o).toNat)
  case atStart => exact ⟨0, by omega, rfl, rfl, h0⟩
  case round =>
    obtain ⟨k, hk, rfl, rfl, hJs⟩ := hrel
    by_cases hlt : k < 43
    · have ea := Lib.hid (cut_a hlt)
      have eb := Lib.hid (cut_b hlt)
      have es : (rest k).size ≤ 1073741824 := Nat.le_trans (rest_size (by omega)) (by decide)
      have hl : (opPre k).length < 43 := by rw [opPre_length (by omega)]; exact hlt
      gi_wp2_with fail
      refine ⟨trivial, (callsIn_wide.2 (cut_is (rest k) 32 _ es)).mono ?_⟩
      rintro e w' ⟨rfl, m, rfl⟩
      have hJ' := hJ _ _ (wr.drewN m) none hJs (grown_drewN' _ _ _) (fun _ e => by cases e)
      obtain ⟨fn, tmps, assign, body, hy, hR⟩ := hY _ ⟨k, hlt⟩ _ hJ' hl
      dsimp only [opEncs] at hy
      rw [ea.out, eb.out]
      gi_wp2
      refine hR.mono ?_
      rintro e W3 (⟨rfl, hJ3, hk3⟩ | ⟨rfl, hJx3⟩)
      · gi_wp2
        go_roundw
        case rel => exact ⟨k + 1, by omega, rfl, by go_num, by rw [opPre_succ hlt]; exact hJ3⟩
        case measure => simp [intOf]; omega
      · gi_wp2
        refine bodyPost_ret (results_none rfl _ _ _) rfl ?_
        exact ⟨⟨_, rfl⟩, .inr ⟨_, trivial, hJx3⟩⟩
    · obtain rfl : k = 43 := by omega
      gi_wp2
      go_end0
      exact ⟨⟨_, rfl⟩, .inl ⟨_, opPre_all, hJs⟩⟩
end Go.Proofs.YtekhgidbnpfmnaaGreatDoor
