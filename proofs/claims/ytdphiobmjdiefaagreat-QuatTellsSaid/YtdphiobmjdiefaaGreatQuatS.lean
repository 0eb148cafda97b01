/- What the document's own plain answers for quaternions (package astrolaberef10) give: norms, units, and what is told of them. Conditions: the numbers are of the kind int32. -/
import Derived.Test.YtdphiobmjdiefaaGreatQuatR
import Derived.Test.YtdphiobmjdiefaaGreatStr
import Derived.Deep.AppendLies
import Derived.OwnWalk
import Derived.Laws.AppendOwn
import Derived.Laws.OwnMore
namespace Go.Proofs.YtdphiobmjdiefaaGreat
open Go.RowKit

/-- The parts of a quaternion, by their number. -/
def pt (p0 p1 p2 p3 : Int) (k : Nat) : Int := if k = 0 then p0 else if k = 1 then p1 else if k = 2 then p2 else p3
theorem pt_bd {p0 p1 p2 p3 : Int} (h : Wd4 p0 p1 p2 p3) (k : Nat) : -2147483648 ≤ pt p0 p1 p2 p3 k ∧ pt p0 p1 p2 p3 k ≤ 2147483647 := by
  unfold pt; split
  · exact h.h0
  · split
    · exact h.h1
    · split
      · exact h.h2
      · exact h.h3
/-- Four words in a row, added from the left on. -/
def sm (f : Nat → Int) : Nat → Int
  | 0 => f 0
  | k + 1 => wCut (sm f k + f (k + 1))
theorem sm_bd {f : Nat → Int} (h : ∀ k, -2147483648 ≤ f k ∧ f k ≤ 2147483647) : ∀ k, -2147483648 ≤ sm f k ∧ sm f k ≤ 2147483647
  | 0 => h 0
  | _ + 1 => wCut_bd _
theorem refSum_is (g c : Nat) (f : Nat → Int) (w : World) (hf : ∀ k, -2147483648 ≤ f k ∧ f k ≤ 2147483647) (hc : ∀ k : Nat, k < 4 → w.cell? ⟨g, k, none⟩ = some (.int .i32 (f k))) :
    Calls Tryz.prog 24 #[.slice (some ⟨g, 0, none⟩) 4 c] w fun e w' => e = .returned (.int .i32 (sm f 3)) ∧ w = w' := by
  have c0 := hc 0 (by decide)
  have HC := Lib.hid hc
  have HB := Lib.hid (sm_bd hf)
  have HF := Lib.hid hf
  clear hc hf
  go_enter Tryz.func24, Tryz.ntmps24
  go_wp2
  clear c0
  go_loop [3, 4] (fun n i => ∃ k : Nat, k ≤ 3 ∧ i = .int .i64 ((k : Int) + 1) ∧ n = .int .i32 (sm f k)) (fun _ i => 4 - (intOf i).toNat)
  case atStart => exact ⟨0, by omega, rfl, rfl⟩
  case round =>
    obtain ⟨k, hk, rfl, rfl⟩ := hrel
    by_cases hlt : k < 3
    · have hlt' : (k : Int) + 1 < 4 := by omega
      have hi : ((k : Int) + 1).toNat = k + 1 := by omega
      have ck := HC.out (k + 1) (by omega)
      have e1 := HB.out k
      have e2 := HF.out (k + 1)
      have HS := Lib.hid (show sm f (k + 1) = wCut (sm f k + f (k + 1)) from rfl)
      generalize f (k + 1) = y at *
      generalize sm f k = x at *
      go_wp2_with (go_at_call 19; with_reducible refine (refAdd_b _ _ _ e1 e2).mono ?_; rintro e w1 ⟨rfl, rfl⟩)
      go_round
      case rel => exact ⟨k + 1, by omega, by go_num, by rw [HS.out]⟩
      case measure => simp [intOf]; omega
    · obtain rfl : k = 3 := by omega
      go_wp2
      go_ret
      exact ⟨rfl, rfl⟩

theorem infoI32q : (Tryz.prog.info? 21).map (fun i => (i.zero, i.size, i.bytes)) = some (some (.int .i32 0), 1, 4) := by kernel_rfl
theorem nrm_sm (p0 p1 p2 p3 : Int) : sm (fun k => wMulq (pt p0 p1 p2 p3 k) (pt p0 p1 p2 p3 k)) 3 = wNrm p0 p1 p2 p3 := rfl
/-- The squares ahead of part k. -/
def sqs (f : Nat → Int) (k : Nat) : List Value := (List.range k).map fun j => .int .i32 (wMulq (f j) (f j))
theorem sqs_succ (f : Nat → Int) (k : Nat) : sqs f k ++ [.int .i32 (wMulq (f k) (f k))] = sqs f (k + 1) := by
  unfold sqs; rw [List.range_succ, List.map_append]; rfl

set_option maxRecDepth 100000 in
set_option maxHeartbeats 1000000 in
theorem refNorm_is (p0 p1 p2 p3 : Int) (w : World) (hp : Wd4 p0 p1 p2 p3) :
    Calls Tryz.prog 9 #[.agg #[.int .i32 p0, .int .i32 p1, .int .i32 p2, .int .i32 p3]] w fun e w' => e = .returned (.int .i32 (wNrm p0 p1 p2 p3)) ∧ Below w.heap.size w w' := by
  obtain ⟨i0, hi, hz0, hz1, hz2⟩ := info_parts infoI32q
  obtain ⟨W, hW⟩ : ∃ W, w.alloc (.cells #[.int .i32 p0, .int .i32 p1, .int .i32 p2, .int .i32 p3] 23) = W := ⟨_, rfl⟩
  have hbW : Below w.heap.size w W := by rw [← hW]; exact (Below.refl _ _).alloc (Nat.le_refl _) _
  have hzW : w.heap.size < W.heap.size := by rw [← hW]; simp
  have hc : ∀ k : Nat, k < 4 → W.cell? ⟨w.heap.size, k, none⟩ = some (.int .i32 (pt p0 p1 p2 p3 k)) := by
    intro k hk
    match k, hk with
    | 0, _ => subst hW; simp [pt]
    | 1, _ => subst hW; simp [pt]
    | 2, _ => subst hW; simp [pt]
    | 3, _ => subst hW; simp [pt]
  have HB := Lib.hid (pt_bd hp)
  have HN := Lib.hid (nrm_sm p0 p1 p2 p3)
  have HC := Lib.hid hc
  have HW := Lib.hid hW
  clear hc hW hp
  go_enter Tryz.func9, Tryz.ntmps9
  go_wp2
  rw [HW.out]
  generalize pt p0 p1 p2 p3 = f at HB HN HC
  go_loopw [3, 4] (fun v x wr => ∃ k : Nat, k ≤ 4 ∧ x = .int .i64 k ∧ wr.ownsRow W.heap.size 21 1 v k (sqs f k) ∧ Below W.heap.size W wr) (fun _ x _ => 4 - (intOf x).toNat)
  case atStart => exact ⟨0, by omega, rfl, ⟨rfl, .inl ⟨rfl, rfl⟩⟩, Below.refl _ _⟩
  case round =>
    obtain ⟨k, hk, rfl, hown, hb⟩ := hrel
    by_cases hlt : k < 4
    · have hlt' : (k : Int) < 4 := by omega
      have hF : ∀ w', Below W.heap.size W w' → w'.cell? ⟨w.heap.size, k, none⟩ = some (.int .i32 (f k)) := fun w' h => (h.cell (p := ⟨w.heap.size, k, none⟩) hzW).trans (HC.out k hlt)
      have HF := Lib.hid hF
      have bk := HB.out k
      have HS := Lib.hid (sqs_succ f k)
      clear hF
      generalize f k = y at *
      go_wp2
      go_region_held3 (fun w' => w'.cell? ⟨w.heap.size, k, none⟩ = some (.int .i32 y) ∧ Below W.heap.size W w' ∧ W.heap.size ≤ w'.heap.size)
        (first
          | with_reducible assumption
          | exact ⟨HF.out _ hb.drew, hb.drew, hb.size⟩
          | exact ⟨HF.out _ (hb.alloc hb.size _).drew, (hb.alloc hb.size _).drew, (hb.alloc hb.size _).size⟩
          | exact ⟨HF.out _ hb', hb', hb'.size⟩)
        (first
          | (go_at_call 23; with_reducible refine (refMulq_is _ _ _ bk.1 bk.2 bk.1 bk.2).mono ?_; rintro e w1 ⟨rfl, rfl⟩)
          | (refine step_append_lies _ rfl (.tmp 9) (.tmp 17) 43 rfl W.heap.size 21 i0 (.int .i32 0) 1 4 Tryz.underlying43 hi hz0 hz1 hz2 rfl (by decide) _ _ _ rfl (hown.alloc _).drew ⟨wr.heap.size, 0, none⟩ 1 1 [.int .i32 (wMulq y y)] rfl rfl ?c1 ?c2 (by decide) ?c3 ?c4 ?c5 _ rfl ?c6
             case c1 =>
               intro j u hj
               match j, hj with
               | 0, hj => simp at hj; subst hj; simp [Addr.add]
             case c2 => intro u hu; simp at hu; subst hu; rfl
             case c3 => unfold maxLen; omega
             case c4 => omega
             case c5 => have := hb.size; simp; omega
             intro g cap w1 hown' hgrow _ _
             have hb' : Below W.heap.size W w1 := by
               refine (hb.alloc hb.size _).drew.grown hgrow (by have := hb.size; simp; omega) ?_
               intro q hq
               exact (hown.lt q hq).1))
      go_wp2
      rw [HS.out] at hown'
      go_roundw
      case rel => exact ⟨k + 1, by omega, by go_num, hown', hb'⟩
      case measure => simp [intOf]; omega
    · obtain rfl : k = 4 := by omega
      obtain ⟨g, cap, rfl, _, hg⟩ := hown.form (by omega)
      have hcs : ∀ k : Nat, k < 4 → wr.cell? ⟨g, k, none⟩ = some (.int .i32 (wMulq (f k) (f k))) := by
        intro k hk
        rw [hown.cellAt k (by omega)]
        unfold sqs
        rw [List.getElem?_map, List.getElem?_range hk]
        rfl
      have HCS := Lib.hid hcs
      clear hcs hown
      go_wp2_with (go_at_call 24; refine (refSum_is g cap (fun k => wMulq (f k) (f k)) _ (fun _ => wMulq_bd _ _) HCS.out).mono ?_; rintro e w1 ⟨rfl, rfl⟩)
      go_ret
      exact ⟨ret_int HN.out, hbW.trans (hb.mono (Nat.le_of_lt hzW))⟩
end Go.Proofs.YtdphiobmjdiefaaGreat
