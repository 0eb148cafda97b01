/- What package sat's functions answer. Conditions: the numbers are of the parameters' kinds. -/
import Derived.Test.YtbcfmlcfkihenaaProg
import Derived.Test.YtbcfmlcfkihenaaSatD
import Derived.Test.YtbcfmlcfkihenaaWordA
import Derived.Handy
import Derived.Lib.Hide
namespace Go.Proofs.Ytbcfmlcfkihenaa
open Go.RowKit

theorem clamp64_is (x l h : Int) (w : World) :
    Calls Try.prog 119 #[.int .i64 x, .int .i64 l, .int .i64 h] w fun e w' => e = .returned (.int .i64 (wClamp x l h)) ∧ w = w' := by
  go_enter Try.func119, Try.ntmps119
  go_wp2
  all_goals
    go_ret
    exact ⟨ret_int (by unfold wClamp; omega), rfl⟩
theorem sat_is (x : Int) (w : World) :
    Calls Try.prog 99 #[.int .i64 x] w fun e w' => e = .returned (.int .i32 (wCut x)) ∧ w = w' := by
  have E := Lib.hid (wCut_clamp x)
  obtain ⟨c1, c2⟩ := wCut_bd x
  rw [wCut_clamp] at c1 c2
  go_enter Try.func99, Try.ntmps99
  go_wp2_with (go_at_call 119; refine (clamp64_is _ _ _ _).mono ?_; rintro e w' ⟨rfl, rfl⟩)
  go_ret
  exact ⟨ret_int E.out.symm, rfl⟩
/-- The sum of none, the first, or both of two. -/
def part (x y : Int) (k : Nat) : Int := if k = 0 then 0 else if k = 1 then x else x + y
/-- The one or the other of two. -/
def term (x y : Int) (k : Nat) : Int := if k = 0 then x else y
theorem part_step (x y : Int) {k : Nat} (h : k < 2) : part x y k + term x y k = part x y (k + 1) := by
  unfold part term; split <;> (try split) <;> (try split) <;> (try split) <;> omega
theorem sum_is (b : Nat) (x y : Int) (w : World) (x1 : -4611686018427387904 ≤ x) (x2 : x ≤ 4611686018427387903) (y1 : -4611686018427387904 ≤ y) (y2 : y ≤ 4611686018427387903)
    (hc : ∀ j, j < 2 → w.cell? ⟨b, j, none⟩ = some (.int .i64 (term x y j))) :
    Calls Try.prog 100 #[.slice (some ⟨b, 0, none⟩) 2 2] w fun e w' => e = .returned (.int .i64 (x + y)) ∧ w = w' := by
  go_enter Try.func100, Try.ntmps100
  go_wp2
  go_loop [3, 8] (fun t i => ∃ k : Nat, k ≤ 2 ∧ i = .int .i64 k ∧ t = .int .i64 (part x y k)) (fun _ i => match i with | .int _ n => 2 - n.toNat | _ => 0)
  case atStart => exact ⟨0, Nat.zero_le _, rfl, rfl⟩
  case round =>
    obtain ⟨k, hk, rfl, rfl⟩ := hrel
    have hcell : (k : Int) < 2 → w.cell? ⟨b, k, none⟩ = some (.int .i64 (term x y k)) := fun h => hc k (by omega)
    have hstep : (k : Int) < 2 → part x y k + term x y k = part x y (k + 1) := fun h => part_step x y (by omega)
    have p1 : -9223372036854775808 ≤ part x y (k + 1) ∧ part x y (k + 1) ≤ 9223372036854775807 := by unfold part; split <;> (try split) <;> omega
    clear hc x1 x2 y1 y2
    go_wp2
    · refine ⟨⟨k + 1, by omega, by push_cast; rfl, rfl⟩, ?_⟩
      first | omega | (simp; omega) | trace_state
    · have : k = 2 := by omega
      subst this
      go_ret
      exact ⟨rfl, rfl⟩

theorem add_is (a b : Int) (w : World) (h1 : -2147483648 ≤ a) (h2 : a ≤ 2147483647) (h3 : -2147483648 ≤ b) (h4 : b ≤ 2147483647) :
    Calls Try.prog 71 #[.int .i32 a, .int .i32 b] w fun e w' => e = .returned (.int .i32 (wCut (a + b))) ∧ Below w.heap.size w w' := by
  go_enter Try.func71, Try.ntmps71
  go_wp2_with (first
    | (go_at_call 100; refine (sum_is w.heap.size a b _ (by omega) (by omega) (by omega) (by omega) (fun j hj => by
        match j, hj with
        | 0, _ => simp [term]
        | 1, _ => simp [term])).mono ?_; rintro e w' ⟨rfl, rfl⟩)
    | (go_at_call 99; refine (sat_is _ _).mono ?_; rintro e w' ⟨rfl, rfl⟩))
  go_ret
  exact ⟨rfl, (Below.refl _ _).alloc (Nat.le_refl _) _⟩
theorem sub_is (a b : Int) (w : World) (h1 : -2147483648 ≤ a) (h2 : a ≤ 2147483647) (h3 : -2147483648 ≤ b) (h4 : b ≤ 2147483647) :
    Calls Try.prog 72 #[.int .i32 a, .int .i32 b] w fun e w' => e = .returned (.int .i32 (wCut (a - b))) ∧ Below w.heap.size w w' := by
  have E := Lib.hid (show a + -b = a - b by omega)
  go_enter Try.func72, Try.ntmps72
  go_wp2_with (first
    | (go_at_call 100; refine (sum_is w.heap.size a (-b) _ (by omega) (by omega) (by omega) (by omega) (fun j hj => by
        match j, hj with
        | 0, _ => simp [term]
        | 1, _ => simp [term])).mono ?_; rintro e w' ⟨rfl, rfl⟩)
    | (go_at_call 99; refine (sat_is _ _).mono ?_; rintro e w' ⟨rfl, rfl⟩))
  go_ret
  exact ⟨ret_int (by rw [E.out]), (Below.refl _ _).alloc (Nat.le_refl _) _⟩
theorem neg_is (x : Int) (w : World) (h1 : -2147483648 ≤ x) (h2 : x ≤ 2147483647) :
    Calls Try.prog 114 #[.int .i32 x] w fun e w' => e = .returned (.int .i32 (wCut (-x))) ∧ Below w.heap.size w w' := by
  have E := Lib.hid (show (0 : Int) - x = -x by omega)
  go_enter Try.func114, Try.ntmps114
  go_wp2_with (go_at_call 72; refine (sub_is _ _ _ (by omega) (by omega) h1 h2).mono ?_; rintro e w1 ⟨rfl, hb⟩)
  go_ret
  exact ⟨ret_int (by first | rfl | rw [E.out]), hb⟩
/-- The amount of x, cut. -/
theorem abs_is (x : Int) (w : World) (h1 : -2147483648 ≤ x) (h2 : x ≤ 2147483647) :
    Calls Try.prog 115 #[.int .i32 x] w fun e w' => e = .returned (.int .i32 (wAbs x)) ∧ Below w.heap.size w w' := by
  go_enter Try.func115, Try.ntmps115
  go_wp2_with (go_at_call 114; refine (neg_is _ _ h1 h2).mono ?_; rintro e w1 ⟨rfl, hb⟩)
  all_goals
    go_ret
    exact ⟨ret_int (by unfold wAbs wCut at *; omega), hb⟩
end Go.Proofs.Ytbcfmlcfkihenaa
