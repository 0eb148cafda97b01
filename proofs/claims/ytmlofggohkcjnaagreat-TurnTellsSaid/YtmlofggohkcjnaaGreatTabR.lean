/- What the document's own table of angles (package astrolaberef09) gives: a new list of 28 words. -/
import Derived.Test.YtmlofggohkcjnaaGreatProg
import Derived.Test.YtmlofggohkcjnaaGreatCircle
import Derived.Test.YtmlofggohkcjnaaGreatNum
import Derived.Test.YtmlofggohkcjnaaGreatLayers
import Derived.OwnWalk
import Derived.Laws.AppendOwn
import Derived.Handy
import Derived.Lib.Hide
namespace Go.Proofs.YtmlofggohkcjnaaGreat
open Go.RowKit

/-- A list of the table's words lies there. -/
def TabAt (w : World) (v : Value) : Prop := ∃ g cap, v = .slice (some ⟨g, 0, none⟩) 28 cap ∧ g < w.heap.size ∧ 28 ≤ cap ∧ ∀ i : Nat, i < 28 → w.cell? ⟨g, i, none⟩ = some (.int .i32 (tab i))
theorem TabAt.keep {w w' : World} {v : Value} {B : Nat} (h : TabAt w v) (hB : w.heap.size ≤ B) (hb : Below B w w') : TabAt w' v := by
  obtain ⟨g, cap, e, hg, hc, h⟩ := h
  exact ⟨g, cap, e, Nat.lt_of_lt_of_le hg hb.size, hc, fun i hi => (hb.cell (by show g < B; omega)).trans (h i hi)⟩

theorem infoI32 : (Tryz.prog.info? 21).map (fun i => (i.zero, i.size, i.bytes)) = some (some (.int .i32 0), 1, 4) := by kernel_rfl
/-- The number that stands ahead of the place k: 2^(29 - k). -/
def tabX (k : Nat) : Int := if k < 28 then tab k else 2
theorem tabX_ok : ((List.range 28).all fun k => decide (k < 10 ∨ (tabX k = tab k ∧ 4 ≤ tabX k ∧ tabX k ≤ 524288 ∧ tabX k / 2 = tabX (k + 1)))) = true := by decide +kernel
theorem take_tab {k : Nat} (h : k < 28) : (tabL.take k).map (Value.int .i32) ++ [.int .i32 (tab k)] = (tabL.take (k + 1)).map (Value.int .i32) := by
  have hl : tabL.length = 28 := rfl
  rw [List.take_succ_eq_append_getElem (by omega), List.map_append]
  congr 1
  unfold tab
  rw [List.getD, List.getElem?_eq_getElem (by omega)]
  rfl

set_option maxHeartbeats 1000000 in
set_option maxRecDepth 100000 in
theorem refTable_is (w : World) :
    Calls Tryz.prog 8 #[] w fun e w' => ∃ v, e = .returned v ∧ Below w.heap.size w w' ∧ TabAt w' v := by
  obtain ⟨i0, hi, hz0, hz1, hz2⟩ := info_parts infoI32
  go_enter Tryz.func8, Tryz.ntmps8
  go_wp2
  go_loopw [1, 2] (fun v x wr => ∃ k : Nat, 10 ≤ k ∧ k ≤ 28 ∧ x = .int .i32 (tabX k) ∧ wr.ownsRow w.heap.size 21 1 v k ((tabL.take k).map (Value.int .i32)) ∧ Below w.heap.size w wr) (fun _ x _ => (intOf x).toNat)
  case atStart =>
    refine ⟨10, by omega, by omega, rfl, ⟨rfl, .inr ⟨w.heap.size, 10, _, rfl, Nat.le_refl _, heap_alloc_new w _, Nat.le_refl _, by unfold maxLen; omega, rfl, rfl⟩⟩, (Below.refl _ _).alloc (Nat.le_refl _) _⟩
  case round =>
    obtain ⟨k, hk, hk2, rfl, hown, hb⟩ := hrel
    by_cases hlt : k < 28
    · have t := List.all_eq_true.1 tabX_ok k (List.mem_range.2 hlt)
      simp only [decide_eq_true_eq] at t
      obtain ⟨t1, t2, t3, t4⟩ := t.resolve_left (by omega)
      have HT := Lib.hid (take_tab hlt)
      have T1 := Lib.hid t1
      have T4 := Lib.hid t4
      clear t t1 t4
      generalize tabX k = x at *
      go_wp2_with (at_builtin; refine wpList_append_own _ rfl _ _ 24 rfl w.heap.size 21 i0 (.int .i32 0) 1 4 Tryz.underlying24 hi hz0 hz1 hz2 rfl (by decide) _ _ _ rfl (hown.alloc _) ⟨wr.heap.size, 0, none⟩ 1 1 [.int .i32 x] rfl rfl ?c1 ?c2 ?c3 ?c4 ?c5 ?_)
      case c1 =>
        intro j u hj
        match j, hj with
        | 0, hj => simp at hj; subst hj; simp [Addr.add]
      case c2 => intro u hu; simp at hu; subst hu; rfl
      case c3 => unfold maxLen; omega
      case c4 => omega
      case c5 => have := hb.size; simp; omega
      · intro v' w1 hown' hgrow _
        have hb' : Below w.heap.size w w1 := by
          refine (hb.alloc hb.size _).grown hgrow (by have := hb.size; simp; omega) ?_
          intro q hq
          exact (hown.lt q hq).1
        clear hgrow hown hb
        go_wp2
        go_roundw
        case rel => exact ⟨k + 1, by omega, by omega, by rw [← T4.out], by rw [← List.map_take, T1.out, HT.out] at hown'; exact hown', hb'⟩
        case measure => simp [intOf]; omega
    · obtain rfl : k = 28 := by omega
      have hx : tabX 28 = 2 := rfl
      rw [hx]
      have hown0 := hown
      obtain ⟨_, hcase⟩ := hown
      rcases hcase with ⟨_, h0⟩ | ⟨g, cap, cur, rfl, hg, hh, hn, hcap, hsz, htake⟩
      · omega
      · go_wp2
        go_ret
        refine ⟨_, rfl, hb, g, cap, rfl, (Array.getElem?_eq_some_iff.1 hh).1, hn, fun i hi => ?_⟩
        rw [hown0.cellAt i (by omega), List.getElem?_map]
        have hl : tabL.length = 28 := rfl
        have e : (tabL.take 28)[i]? = some (tab i) := by
          rw [List.take_of_length_le (by omega)]
          unfold tab
          rw [List.getD, List.getElem?_eq_getElem (by omega)]
          rfl
        rw [e]
        rfl
end Go.Proofs.YtmlofggohkcjnaaGreat
