/- Package pick's calls within a law: what they answer, and that they write nothing that was there; the page's examples. -/
import Derived.Test.YtoagijojmkcfnaaPickA
import Derived.Test.YtoagijojmkcfnaaKeep
namespace Go.Proofs.Ytoagijojmkcfnaa
open Go.RowKit

theorem less_b (a b : Int) (w : World) (h1 : -2147483648 ≤ a) (h2 : a ≤ 2147483647) (h3 : -2147483648 ≤ b) (h4 : b ≤ 2147483647) :
    Calls Try.prog 15 #[.int .i32 a, .int .i32 b] w fun e w' => e = .returned (.int .i32 (wLess a b)) ∧ Below w.heap.size w w' :=
  (less_is a b w h1 h2 h3 h4).mono fun _ _ ⟨he, h⟩ => ⟨he, h ▸ (Below.refl _ _).alloc (Nat.le_refl _) _⟩
theorem under_b (a b : Int) (w : World) :
    Calls Try.prog 17 #[.int .i32 a, .int .i32 b] w fun e w' => e = .returned (.int .i32 (wUnder a b)) ∧ Below w.heap.size w w' :=
  (under_is a b w).mono fun _ _ ⟨he, h⟩ => ⟨he, h ▸ (Below.refl _ _).alloc (Nat.le_refl _) _⟩
theorem same_b (a b : Int) (w : World) (h1 : -2147483648 ≤ a) (h2 : a ≤ 2147483647) (h3 : -2147483648 ≤ b) (h4 : b ≤ 2147483647) :
    Calls Try.prog 19 #[.int .i32 a, .int .i32 b] w fun e w' => e = .returned (.int .i32 (wSame a b)) ∧ Below w.heap.size w w' :=
  (same_is a b w h1 h2 h3 h4).mono fun _ _ ⟨he, h⟩ => ⟨he, h ▸ (Below.refl _ _).alloc (Nat.le_refl _) _⟩
theorem min_b (a b : Int) (w : World) (h1 : -2147483648 ≤ a) (h2 : a ≤ 2147483647) (h3 : -2147483648 ≤ b) (h4 : b ≤ 2147483647) :
    Calls Try.prog 21 #[.int .i32 a, .int .i32 b] w fun e w' => e = .returned (.int .i32 (wMin a b)) ∧ Below w.heap.size w w' :=
  (min_is a b w h1 h2 h3 h4).mono fun _ _ ⟨he, h⟩ => ⟨he, h ▸ (Below.refl _ _).alloc (Nat.le_refl _) _⟩
theorem max_b (a b : Int) (w : World) (h1 : -2147483648 ≤ a) (h2 : a ≤ 2147483647) (h3 : -2147483648 ≤ b) (h4 : b ≤ 2147483647) :
    Calls Try.prog 23 #[.int .i32 a, .int .i32 b] w fun e w' => e = .returned (.int .i32 (wMax a b)) ∧ Below w.heap.size w w' :=
  (max_is a b w h1 h2 h3 h4).mono fun _ _ ⟨he, h⟩ => ⟨he, h ▸ (Below.refl _ _).alloc (Nat.le_refl _) _⟩

theorem pickAwake_is (w : World) :
    Calls Try.prog 25 #[] w fun e w' => e = .returned (.bool true) ∧ Below w.heap.size w w' := by
  have hb := Below.refl w.heap.size w
  have hB := Nat.le_refl w.heap.size
  have e1 : wSel 15 (-1) 0 = 15 := by decide +kernel
  have e2 : wUnder (-1) 1 = 0 := by decide +kernel
  have e3 : wFlip 5 (-1) = -5 := by decide +kernel
  have e4 : wFlip (-2147483648) (-1) = -2147483648 := by decide +kernel
  have e5 : wMask 2 = -1 := by decide +kernel
  have e6 : wMax (-1) 1 = 1 := by decide +kernel
  go_enter Try.func25, Try.ntmps25
  go_wp2_with (first
    | (go_at_call 11; refine (sel_is _ _ _ _).mono ?_; rintro e w' ⟨rfl, rfl⟩)
    | (go_at_call 13; refine (flip_is _ _ _).mono ?_; rintro e w' ⟨rfl, rfl⟩)
    | (go_at_call 7; refine (mask_is _ _ (by omega) (by omega)).mono ?_; rintro e w' ⟨rfl, rfl⟩)
    | (go_at_call 17; refine (keep (under_b _ _ _) hb hB).mono ?_; rintro e w1 ⟨rfl, hb, hB⟩)
    | (go_at_call 23; refine (keep (max_b _ _ _ (by omega) (by omega) (by omega) (by omega)) hb hB).mono ?_; rintro e w1 ⟨rfl, hb, hB⟩))
  go_ret
  exact ⟨rfl, hb⟩
end Go.Proofs.Ytoagijojmkcfnaa
