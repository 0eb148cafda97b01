/- The parts of layer 9's steps upon package mill's mill of words: less, what is left of a whole, a part of a turn. Conditions: the numbers are of the kinds of the parameters. -/
import Derived.Test.YtmlofggohkcjnaaMillA
import Derived.Test.YtmlofggohkcjnaaTurnE
namespace Go.Proofs.Ytmlofggohkcjnaa
open Go.RowKit

/-- A call in a region that reads cells which lay there since w0. -/
theorem keepF {P : Program} {f : FuncId} {args : Array Value} {w w0 : World} {B : Nat} {v : Value} {F : World → Prop} (hF : ∀ w', Below B w0 w' → F w')
    (hc : Calls P f args w fun e w' => e = .returned v ∧ Below w.heap.size w w') (hS : F w ∧ Below B w0 w ∧ B ≤ w.heap.size) :
    Calls P f args w fun e w' => e = .returned v ∧ (F w' ∧ Below B w0 w' ∧ B ≤ w'.heap.size) :=
  hc.mono fun _ _ ⟨he, h⟩ => ⟨he, hF _ (hS.2.1.trans (h.mono hS.2.2)), hS.2.1.trans (h.mono hS.2.2), Nat.le_trans hS.2.2 h.size⟩

set_option maxHeartbeats 1000000 in
theorem less_v (a b v : Int) (w : World) (a1 : -2147483648 ≤ a) (a2 : a ≤ 2147483647) (b1 : -2147483648 ≤ b) (b2 : b ≤ 2147483647) (hv : wMask (wLess a b) = v) :
    Calls Try.prog 21 #[.agg #[.iface 39 (.agg #[])], .int .i32 a, .int .i32 b] w fun e w' => e = .returned (.int .i32 v) ∧ Below w.heap.size w w' := by
  have hb := fun o => ((Below.refl w.heap.size w).alloc (Nat.le_refl _) o)
  have V := Lib.hid (show wDo 13 a b = wLess a b from do_two (by decide) (by decide))
  have V2 := Lib.hid (((do_one (by decide) (by decide)) : wDo 27 (wLess a b) 0 = wMask (wLess a b)).trans hv)
  have S1 := Lib.hid (wLess_bd a b)
  generalize wLess a b = s at *
  go_enter Try.func21, Try.ntmps21
  go_wp2
  go_region_held3 (fun w' => w'.cell? ⟨w.heap.size, 0, none⟩ = some (.iface 39 (.agg #[])) ∧ Below w.heap.size w w' ∧ w.heap.size + 1 ≤ w'.heap.size)
    (first | assumption | exact ⟨by go_cell, (hb _).drew, by simp⟩ | exact ⟨by simpa using hS.1, hS.2.1.drew, by simpa using hS.2.2⟩)
    (first
      | (go_at_call 45; with_reducible refine (keepS (words_two 13 a b s _ a1 a2 b1 b2 V.out) (by assumption)).mono ?_; rintro e w1 ⟨rfl, hS⟩)
      | (go_at_call 44; with_reducible refine (keepS (words_one 27 s v _ (by have := S1.out; omega) (by have := S1.out; omega) V2.out) (by assumption)).mono ?_; rintro e w1 ⟨rfl, hS⟩))
  all_goals go_wp2
  all_goals go_ret
  all_goals exact ⟨rfl, hS.2.1⟩

set_option maxHeartbeats 1000000 in
theorem left_v (x a m v : Int) (w : World) (x1 : -2147483648 ≤ x) (x2 : x ≤ 2147483647) (a1 : -2147483648 ≤ a) (a2 : a ≤ 2147483647) (m1 : -2147483648 ≤ m) (m2 : m ≤ 2147483647) (hv : wLeft x a m = v) :
    Calls Try.prog 20 #[.agg #[.iface 39 (.agg #[])], .int .i32 x, .int .i32 a, .int .i32 m] w fun e w' => e = .returned (.int .i32 v) ∧ Below w.heap.size w w' := by
  have hb := fun o => ((Below.refl w.heap.size w).alloc (Nat.le_refl _) o)
  have V := Lib.hid (show wDo 5 x m = wAnd x m from do_two (by decide) (by decide))
  have V2 := Lib.hid (((do_two (by decide) (by decide)) : wDo 1 (wAnd x m) (wFlip a m) = wLeft x a m).trans hv)
  have S1 := Lib.hid (show -2147483648 ≤ wAnd x m ∧ wAnd x m ≤ 2147483647 from sg_bd _)
  have S2 := Lib.hid (wFlip_bd a m)
  generalize wAnd x m = s at *
  obtain ⟨t, ht⟩ : ∃ t, wFlip a m = t := ⟨_, rfl⟩
  rw [ht] at V2 S2
  have HT := Lib.hid ht
  clear ht hv
  go_enter Try.func20, Try.ntmps20
  go_wp2
  go_region_held3 (fun w' => w'.cell? ⟨w.heap.size, 0, none⟩ = some (.iface 39 (.agg #[])) ∧ Below w.heap.size w w' ∧ w.heap.size + 1 ≤ w'.heap.size)
    (first | assumption | exact ⟨by go_cell, (hb _).drew, by simp⟩ | exact ⟨by simpa using hS.1, hS.2.1.drew, by simpa using hS.2.2⟩)
    (first
      | (go_at_call 45; with_reducible refine (keepS (words_two 5 x m s _ x1 x2 m1 m2 V.out) (by assumption)).mono ?_; rintro e w1 ⟨rfl, hS⟩)
      | (go_at_call 22; with_reducible refine (keepS (flip_v a m t _ a1 a2 m1 m2 HT.out) (by assumption)).mono ?_; rintro e w1 ⟨rfl, hS⟩)
      | (go_at_call 45; with_reducible refine (keepS (words_two 1 s t v _ S1.out.1 S1.out.2 S2.out.1 S2.out.2 V2.out) (by assumption)).mono ?_; rintro e w1 ⟨rfl, hS⟩))
  all_goals go_wp2
  all_goals go_ret
  all_goals exact ⟨rfl, hS.2.1⟩

set_option maxHeartbeats 1000000 in
theorem part_v (gT gX gI gD o : Nat) (x i d v : Int) (w : World) (ho : o < 3) (hT : w.cell? ⟨gT, 0, none⟩ = some (.iface 39 (.agg #[]))) (hX : w.cell? ⟨gX, o, none⟩ = some (.int .i32 x))
    (hI : w.cell? ⟨gI, 0, none⟩ = some (.int .i32 i)) (hD : w.cell? ⟨gD, 0, none⟩ = some (.int .i32 d)) (bT : gT < w.heap.size) (bX : gX < w.heap.size) (bI : gI < w.heap.size) (bD : gD < w.heap.size)
    (x1 : -2147483648 ≤ x) (x2 : x ≤ 2147483647) (i1 : -2147483648 ≤ i) (i2 : i ≤ 2147483647) (d1 : -2147483648 ≤ d) (d2 : d ≤ 2147483647) (hv : wFlip (wSar x i) d = v) :
    Calls Try.prog 26 #[.int .i64 o, .pointer (some ⟨gT, 0, none⟩), .pointer (some ⟨gX, 0, none⟩), .pointer (some ⟨gI, 0, none⟩), .pointer (some ⟨gD, 0, none⟩)] w fun e w' => e = .returned (.int .i32 v) ∧ Below w.heap.size w w' := by
  have hb := Below.refl w.heap.size w
  have hF : ∀ w', Below w.heap.size w w' → (w'.cell? ⟨gT, 0, none⟩ = some (.iface 39 (.agg #[])) ∧ w'.cell? ⟨gX, o, none⟩ = some (.int .i32 x) ∧ w'.cell? ⟨gI, 0, none⟩ = some (.int .i32 i) ∧ w'.cell? ⟨gD, 0, none⟩ = some (.int .i32 d)) :=
    fun w' h => ⟨(h.cell (p := ⟨gT, 0, none⟩) bT).trans hT, (h.cell (p := ⟨gX, o, none⟩) bX).trans hX, (h.cell (p := ⟨gI, 0, none⟩) bI).trans hI, (h.cell (p := ⟨gD, 0, none⟩) bD).trans hD⟩
  clear hT hX hI hD
  have HF := Lib.hid hF
  clear hF
  have ho' : (o : Int) < 3 := by omega
  have V := Lib.hid (show wDo 11 x i = wSar x i from do_two (by decide) (by decide))
  have S1 := Lib.hid (wSar_bd x i)
  have V2 := Lib.hid hv
  clear hv
  generalize wSar x i = s at *
  go_enter Try.func26, Try.ntmps26
  go_wp2
  go_region_held3 (fun w' => (w'.cell? ⟨gT, 0, none⟩ = some (.iface 39 (.agg #[])) ∧ w'.cell? ⟨gX, o, none⟩ = some (.int .i32 x) ∧ w'.cell? ⟨gI, 0, none⟩ = some (.int .i32 i) ∧ w'.cell? ⟨gD, 0, none⟩ = some (.int .i32 d)) ∧ Below w.heap.size w w' ∧ w.heap.size ≤ w'.heap.size)
    (first | assumption | exact ⟨HF.out _ hb.drew, hb.drew, by simp⟩)
    (first
      | (go_at_call 45; with_reducible refine (keepF HF.out (words_two 11 x i s _ x1 x2 i1 i2 V.out) (by assumption)).mono ?_; rintro e w1 ⟨rfl, hS⟩)
      | (go_at_call 22; with_reducible refine (keepF HF.out (flip_v s d v _ S1.out.1 S1.out.2 d1 d2 V2.out) (by assumption)).mono ?_; rintro e w1 ⟨rfl, hS⟩))
  all_goals go_wp2
  all_goals go_ret
  all_goals exact ⟨rfl, hS.2.1⟩
end Go.Proofs.Ytmlofggohkcjnaa
