/- What package mill's mill of words answers, and what is done upon any mill: with a word, brought up, turned. Conditions: the numbers are of the kinds of the parameters. -/
import Derived.Test.YtdphiobmjdiefaaAluV
import Derived.Deep.RegionHeld3
namespace Go.Proofs.Ytdphiobmjdiefaa
open Go.RowKit

theorem words_two (op a b v : Int) (w : World) (a1 : -2147483648 ≤ a) (a2 : a ≤ 2147483647) (b1 : -2147483648 ≤ b) (b2 : b ≤ 2147483647) (hv : wDo op a b = v) :
    Calls Try.prog 46 #[.agg #[], .int .i64 op, .int .i32 a, .int .i32 b] w fun e w' => e = .returned (.int .i32 v) ∧ Below w.heap.size w w' := by
  have hb := fun o => ((Below.refl w.heap.size w).alloc (Nat.le_refl _) o)
  have hB : ∀ o, w.heap.size ≤ (w.alloc o).heap.size := fun o => (hb o).size
  go_enter Try.func46, Try.ntmps46
  go_wp2_with (go_at_call 48; refine (keep (do_v _ _ _ v _ _ a1 a2 b1 b2 hv rfl) (hb _) (hB _)).mono ?_; rintro e w1 ⟨rfl, hb, hB⟩)
  go_ret
  exact ⟨rfl, hb⟩
theorem words_one (op a v : Int) (w : World) (a1 : -2147483648 ≤ a) (a2 : a ≤ 2147483647) (hv : wDo op a 0 = v) :
    Calls Try.prog 45 #[.agg #[], .int .i64 op, .int .i32 a] w fun e w' => e = .returned (.int .i32 v) ∧ Below w.heap.size w w' := by
  have hb := fun o => ((Below.refl w.heap.size w).alloc (Nat.le_refl _) o)
  have hB : ∀ o, w.heap.size ≤ (w.alloc o).heap.size := fun o => (hb o).size
  go_enter Try.func45, Try.ntmps45
  go_wp2_with (go_at_call 46; refine (keep (words_two _ _ _ v _ a1 a2 (by decide) (by decide) hv) (hb _) (hB _)).mono ?_; rintro e w1 ⟨rfl, hb, hB⟩)
  go_ret
  exact ⟨rfl, hb⟩
theorem words_word (x : Int) (w : World) :
    Calls Try.prog 47 #[.agg #[], .int .i32 x] w fun e w' => e = .returned (.int .i32 x) ∧ Below w.heap.size w w' := by
  have hb := fun o => ((Below.refl w.heap.size w).alloc (Nat.le_refl _) o)
  go_enter Try.func47, Try.ntmps47
  go_wp2
  go_ret
  exact ⟨rfl, hb _⟩
/-- A call in a region that reads one cell, which lies at the block B, made since w0. -/
theorem keepS {P : Program} {f : FuncId} {args : Array Value} {w w0 : World} {B : Nat} {x v : Value}
    (hc : Calls P f args w fun e w' => e = .returned v ∧ Below w.heap.size w w') (hS : w.cell? ⟨B, 0, none⟩ = some x ∧ Below B w0 w ∧ B + 1 ≤ w.heap.size) :
    Calls P f args w fun e w' => e = .returned v ∧ (w'.cell? ⟨B, 0, none⟩ = some x ∧ Below B w0 w' ∧ B + 1 ≤ w'.heap.size) :=
  hc.mono fun _ _ ⟨he, h⟩ => ⟨he, (h.cell (p := ⟨B, 0, none⟩) hS.2.2).trans hS.1, hS.2.1.trans (h.mono (Nat.le_of_lt hS.2.2)), Nat.le_trans hS.2.2 h.size⟩


/-- A method of the mill of words has no pointer ahead of it. -/
theorem ahead_two (n : Nat) (w : World) : Sem.run Try.prog (nilAhead (n + 1) 45 (.agg #[]) "Two") w = .ok (some false) w := by kernel_rfl

theorem by_v (op a n v : Int) (w : World) (a1 : -2147483648 ≤ a) (a2 : a ≤ 2147483647) (b1 : -2147483648 ≤ n) (b2 : n ≤ 2147483647) (hv : wDo op a n = v) :
    Calls Try.prog 27 #[.iface 45 (.agg #[]), .int .i64 op, .int .i32 a, .int .i32 n] w fun e w' => e = .returned (.int .i32 v) ∧ Below w.heap.size w w' := by
  have hb := Below.refl w.heap.size w
  have hN := ahead_two
  go_enter Try.func27, Try.ntmps27
  go_wp2
  go_region_held3 (fun w' => Below w.heap.size w w')
    (first | assumption | exact hb.drew | exact hS.drew)
    (first
      | (go_at_call 47; with_reducible refine (keep (words_word _ _) (by assumption) (Below.size (by assumption))).mono ?_; rintro e w1 ⟨rfl, hS, -⟩)
      | (go_at_call 46; with_reducible refine (keep (words_two _ _ _ v _ a1 a2 b1 b2 hv) (by assumption) (Below.size (by assumption))).mono ?_; rintro e w1 ⟨rfl, hS, -⟩))
  all_goals go_wp2
  all_goals go_ret
  all_goals exact ⟨rfl, hS⟩

theorem lift_v (x t v : Int) (w : World) (x1 : -2147483648 ≤ x) (x2 : x ≤ 2147483647) (t1 : -2147483648 ≤ t) (t2 : t ≤ 2147483647) (hv : wShr (wShl x t) 2 = v) :
    Calls Try.prog 28 #[.iface 45 (.agg #[]), .int .i32 x, .int .i32 t] w fun e w' => e = .returned (.int .i32 v) ∧ Below w.heap.size w w' := by
  have hb := Below.refl w.heap.size w
  have hB := Nat.le_refl w.heap.size
  have V := Lib.hid (show wDo 9 x t = wShl x t from do_two (by decide) (by decide))
  have V2 := Lib.hid (((do_two (by decide) (by decide)) : wDo 10 (wShl x t) 2 = wShr (wShl x t) 2).trans hv)
  have S1 := Lib.hid (wShl_bd x t)
  generalize wShl x t = s at *
  go_enter Try.func28, Try.ntmps28
  go_wp2_with (first
    | (go_at_call 46; with_reducible refine (keep (words_two 9 x t s _ x1 x2 t1 t2 V.out) hb hB).mono ?_; rintro e w1 ⟨rfl, hb, hB⟩)
    | (go_at_call 27; with_reducible refine (keep (by_v 10 s 2 v _ S1.out.1 S1.out.2 (by decide) (by decide) V2.out) hb hB).mono ?_; rintro e w1 ⟨rfl, hb, hB⟩))
  go_ret
  exact ⟨rfl, hb⟩

end Go.Proofs.Ytdphiobmjdiefaa
