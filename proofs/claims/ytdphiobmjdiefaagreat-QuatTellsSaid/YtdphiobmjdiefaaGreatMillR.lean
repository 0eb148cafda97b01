/- The steps of layer 8 upon package mill's mill of words: levels, and the places brought down. Conditions: the numbers are of the kinds of the parameters. -/
import Derived.Test.YtdphiobmjdiefaaGreatMillA
import Derived.Test.YtdphiobmjdiefaaGreatRootR
namespace Go.Proofs.YtdphiobmjdiefaaGreat
open Go.RowKit

theorem shr_half {t : Int} (h1 : 0 ≤ t) (h2 : t ≤ 30) : wShr t 1 = t / 2 := by
  obtain ⟨n, rfl⟩ : ∃ n : Nat, t = n := ⟨t.toNat, by omega⟩
  have : ((List.range 31).all fun i => decide (wShr (i : Int) 1 = (i : Int) / 2)) = true := by decide +kernel
  simpa using List.all_eq_true.1 this n (List.mem_range.2 (by omega))

theorem mulq_v (a b v : Int) (w : World) (a1 : -2147483648 ≤ a) (a2 : a ≤ 2147483647) (b1 : -2147483648 ≤ b) (b2 : b ≤ 2147483647) (hv : wMulq a b = v) :
    Calls Tryz.prog 31 #[.agg #[.iface 51 (.agg #[])], .int .i32 a, .int .i32 b] w fun e w' => e = .returned (.int .i32 v) ∧ Below w.heap.size w w' := by
  have hb := fun o => ((Below.refl w.heap.size w).alloc (Nat.le_refl _) o)
  have hB : ∀ o, w.heap.size ≤ (w.alloc o).heap.size := fun o => (hb o).size
  have V := Lib.hid (((do_two (by decide) (by decide)) : wDo 20 a b = wMulq a b).trans hv)
  go_enter Tryz.func31, Tryz.ntmps31
  go_wp2_with (go_at_call 71; with_reducible refine (keep (words_two _ _ _ v _ a1 a2 b1 b2 V.out) (hb _) (hB _)).mono ?_; rintro e w1 ⟨rfl, hb, hB⟩)
  go_ret
  exact ⟨rfl, hb⟩

theorem lack_v (p v : Int) (w : World) (p1 : -2147483648 ≤ p) (p2 : p ≤ 2147483647) (hv : wCut (1073741824 - p) = v) :
    Calls Tryz.prog 43 #[.agg #[.iface 51 (.agg #[])], .int .i32 p] w fun e w' => e = .returned (.int .i32 v) ∧ Below w.heap.size w w' := by
  have hb := fun o => ((Below.refl w.heap.size w).alloc (Nat.le_refl _) o)
  have hB : ∀ o, w.heap.size ≤ (w.alloc o).heap.size := fun o => (hb o).size
  have V := Lib.hid (((do_two (by decide) (by decide)) : wDo 4 1073741824 p = wCut (1073741824 - p)).trans hv)
  go_enter Tryz.func43, Tryz.ntmps43
  go_wp2
  go_region_held3 (fun w' => w'.cell? ⟨w.heap.size, 0, none⟩ = some (.iface 51 (.agg #[])) ∧ Below w.heap.size w w' ∧ w.heap.size + 1 ≤ w'.heap.size)
    (first | assumption | exact ⟨by go_cell, (hb _).drew, by simp⟩ | exact ⟨by simpa using hS.1, hS.2.1.drew, by simpa using hS.2.2⟩)
    (first
      | (go_at_call 72; with_reducible refine (keepS (words_word _ _) (by assumption)).mono ?_; rintro e w1 ⟨rfl, hS⟩)
      | (go_at_call 71; with_reducible refine (keepS (words_two 4 1073741824 p v _ (by decide) (by decide) p1 p2 V.out) (by assumption)).mono ?_; rintro e w1 ⟨rfl, hS⟩))
  all_goals go_wp2
  all_goals go_ret
  all_goals exact ⟨rfl, hS.2.1⟩

set_option maxHeartbeats 1000000 in
theorem mLevel_v (x u h : Int) (w : World) (x1 : -2147483648 ≤ x) (x2 : x ≤ 2147483647) (hu : wLvU x = u) (hh : wLvH x = h) :
    Calls Tryz.prog 42 #[.agg #[.iface 51 (.agg #[])], .int .i32 x] w fun e w' => e = .returned (.tuple #[.int .i32 u, .int .i32 h]) ∧ Below w.heap.size w w' := by
  have hb := fun o => ((Below.refl w.heap.size w).alloc (Nat.le_refl _) o)
  have hB : ∀ o, w.heap.size ≤ (w.alloc o).heap.size := fun o => (hb o).size
  obtain ⟨c1, c2⟩ := wClz_bd x
  have T := wLvT_bd x
  have V1 := Lib.hid (show wDo 24 x 0 = wClz x from (do_one (by decide) (by decide)))
  have V2 := Lib.hid (show wDo 5 (wClz x) 30 = wLvT x from ((do_two (by decide) (by decide)) : wDo 5 (wClz x) 30 = wTwo 5 (wClz x) 30).trans (and_30 c1 c2))
  have V3 := Lib.hid (show wShr (wShl x (wLvT x)) 2 = u from hu)
  have V4 := Lib.hid (show wDo 10 (wLvT x) 1 = h from ((do_two (by decide) (by decide)) : wDo 10 (wLvT x) 1 = wShr (wLvT x) 1).trans ((shr_half T.1 T.2).trans hh))
  generalize wLvT x = t at *
  generalize wClz x = c at *
  go_enter Tryz.func42, Tryz.ntmps42
  go_wp2
  go_region_held3 (fun w' => w'.cell? ⟨w.heap.size, 0, none⟩ = some (.iface 51 (.agg #[])) ∧ Below w.heap.size w w' ∧ w.heap.size + 1 ≤ w'.heap.size)
    (first | assumption | exact ⟨by go_cell, (hb _).drew, by simp⟩ | exact ⟨by simpa using hS.1, hS.2.1.drew, by simpa using hS.2.2⟩)
    (first
      | (go_at_call 70; with_reducible refine (keepS (words_one 24 x c _ x1 x2 V1.out) (by assumption)).mono ?_; rintro e w1 ⟨rfl, hS⟩)
      | (go_at_call 72; with_reducible refine (keepS (words_word _ _) (by assumption)).mono ?_; rintro e w1 ⟨rfl, hS⟩)
      | (go_at_call 71; with_reducible refine (keepS (words_two 5 c 30 t _ (by omega) (by omega) (by decide) (by decide) V2.out) (by assumption)).mono ?_; rintro e w1 ⟨rfl, hS⟩))
  all_goals go_wp2
  all_goals (
  go_region_held3 (fun w' => w'.cell? ⟨w.heap.size, 0, none⟩ = some (.iface 51 (.agg #[])) ∧ Below w.heap.size w w' ∧ w.heap.size + 1 ≤ w'.heap.size)
    (first | assumption | exact ⟨by go_cell, (hb _).drew, by simp⟩ | exact ⟨by simpa using hS.1, hS.2.1.drew, by simpa using hS.2.2⟩)
    (first
      | (go_at_call 50; with_reducible refine (keepS (lift_v x t u _ x1 x2 (by omega) (by omega) V3.out) (by assumption)).mono ?_; rintro e w1 ⟨rfl, hS⟩)
      | (go_at_call 44; with_reducible refine (keepS (by_v 10 t 1 h _ (by omega) (by omega) (by decide) (by decide) V4.out) (by assumption)).mono ?_; rintro e w1 ⟨rfl, hS⟩)))
  all_goals go_wp2
  all_goals go_returns
  all_goals exact ⟨rfl, hS.2.1⟩

theorem mScale_v (v z h s : Int) (w : World) (v1 : -2147483648 ≤ v) (v2 : v ≤ 2147483647) (z1 : -2147483648 ≤ z) (z2 : z ≤ 2147483647) (h1 : -2147483648 ≤ h) (h2 : h ≤ 2147483647) (hs : wScale v z h = s) :
    Calls Tryz.prog 37 #[.agg #[.iface 51 (.agg #[])], .int .i32 v, .int .i32 z, .int .i32 h] w fun e w' => e = .returned (.int .i32 s) ∧ Below w.heap.size w w' := by
  have hb := fun o => ((Below.refl w.heap.size w).alloc (Nat.le_refl _) o)
  have hB : ∀ o, w.heap.size ≤ (w.alloc o).heap.size := fun o => (hb o).size
  obtain ⟨p1, p2⟩ := wMulq_bd v z
  have V2 := Lib.hid (((do_two (by decide) (by decide)) : wDo 9 (wMulq v z) h = wScale v z h).trans hs)
  go_enter Tryz.func37, Tryz.ntmps37
  go_wp2
  go_region_held3 (fun w' => w'.cell? ⟨w.heap.size, 0, none⟩ = some (.iface 51 (.agg #[])) ∧ Below w.heap.size w w' ∧ w.heap.size + 1 ≤ w'.heap.size)
    (first | assumption | exact ⟨by go_cell, (hb _).drew, by simp⟩ | exact ⟨by simpa using hS.1, hS.2.1.drew, by simpa using hS.2.2⟩)
    (first
      | (go_at_call 31; with_reducible refine (keepS (mulq_v v z _ _ v1 v2 z1 z2 rfl) (by assumption)).mono ?_; rintro e w1 ⟨rfl, hS⟩)
      | (go_at_call 71; with_reducible refine (keepS (words_two 9 (wMulq v z) h s _ p1 p2 h1 h2 V2.out) (by assumption)).mono ?_; rintro e w1 ⟨rfl, hS⟩))
  all_goals go_wp2
  all_goals go_ret
  all_goals exact ⟨rfl, hS.2.1⟩

end Go.Proofs.YtdphiobmjdiefaaGreat
