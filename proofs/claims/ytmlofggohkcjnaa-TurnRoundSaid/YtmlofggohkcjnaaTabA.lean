/- Package mill's table of angles: a new list of 28 words. Nothing is asked. -/
import Derived.Test.YtmlofggohkcjnaaTabR
namespace Go.Proofs.Ytmlofggohkcjnaa
open Go.RowKit

/-- The angle that is appended at the place k. -/
theorem tab_shl : ((List.range 28).all fun k => decide (k < 10 ∨ (wrap32 (2 ^ (29 - k)) = tab k))) = true := by decide +kernel

set_option maxHeartbeats 1000000 in
set_option maxRecDepth 100000 in
theorem angles_is (w : World) :
    Calls Try.prog 24 #[] w fun e w' => ∃ v, e = .returned v ∧ Below w.heap.size w w' ∧ TabAt w' v := by
  obtain ⟨i0, hi, hz0, hz1, hz2⟩ := info_parts infoI32
  go_enter Try.func24, Try.ntmps24
  go_wp2
  go_loopw [1, 2] (fun v x wr => ∃ k : Nat, 10 ≤ k ∧ k ≤ 28 ∧ x = .int .i64 k ∧ wr.ownsRow w.heap.size 21 1 v k ((tabL.take k).map (Value.int .i32)) ∧ Below w.heap.size w wr) (fun _ x _ => 28 - (intOf x).toNat)
  case atStart =>
    refine ⟨10, by omega, by omega, rfl, ⟨rfl, .inr ⟨w.heap.size, 10, _, rfl, Nat.le_refl _, heap_alloc_new w _, Nat.le_refl _, by unfold maxLen; omega, rfl, rfl⟩⟩, (Below.refl _ _).alloc (Nat.le_refl _) _⟩
  case round =>
    obtain ⟨k, hk, hk2, rfl, hown, hb⟩ := hrel
    by_cases hlt : k < 28
    · have hlt' : (k : Int) < 28 := by omega
      have t := List.all_eq_true.1 tab_shl k (List.mem_range.2 hlt)
      simp only [decide_eq_true_eq] at t
      have t1 := t.resolve_left (by omega)
      have HT := Lib.hid (take_tab hlt)
      have T1 := Lib.hid t1
      clear t t1
      go_wp2_with (at_builtin; refine wpList_append_own _ rfl _ _ 52 rfl w.heap.size 21 i0 (.int .i32 0) 1 4 Try.underlying52 hi hz0 hz1 hz2 rfl (by decide) _ _ _ rfl (hown.alloc _) ⟨wr.heap.size, 0, none⟩ 1 1 [.int .i32 (wrap32 (2 ^ (29 - k)))] rfl rfl ?c1 ?c2 ?c3 ?c4 ?c5 ?_)
      case c1 =>
        intro j u hj
        match j, hj with
        | 0, hj => simp at hj; subst hj; simp [Addr.add]
      case c2 => intro u hu; simp at hu; subst hu; rfl
      case c3 => unfold maxLen; omega
      case c4 => omega
      case c5 => have := hb.size; simp; omega
      · intro v' w1 hown' hgrow _
        have hb' : Below w.heap.size w w1 := by
          refine (hb.alloc hb.size _).grown hgrow (by have := hb.size; simp; omega) ?_
          intro q hq
          exact (hown.lt q hq).1
        clear hgrow hown hb
        go_wp2
        go_roundw
        case rel => exact ⟨k + 1, by omega, by omega, by go_num, by rw [← List.map_take, T1.out, HT.out] at hown'; exact hown', hb'⟩
        case measure => simp [intOf]; omega
    · obtain rfl : k = 28 := by omega
      have hown0 := hown
      obtain ⟨_, hcase⟩ := hown
      rcases hcase with ⟨_, h0⟩ | ⟨g, cap, cur, rfl, hg, hh, hn, hcap, hsz, htake⟩
      · omega
      · go_wp2
        go_ret
        refine ⟨_, rfl, hb, g, cap, rfl, (Array.getElem?_eq_some_iff.1 hh).1, hn, fun i hi => ?_⟩
        rw [hown0.cellAt i (by omega), List.getElem?_map]
        have hl : tabL.length = 28 := rfl
        have e : (tabL.take 28)[i]? = some (tab i) := by
          rw [List.take_of_length_le (by omega)]
          unfold tab
          rw [List.getD, List.getElem?_eq_getElem (by omega)]
          rfl
        rw [e]
        rfl
end Go.Proofs.Ytmlofggohkcjnaa
