/- The walk of the law FixRounds: it returns true and writes nothing that was there. -/
import Derived.Test.YthiplpkapbdakaaFixK
import Derived.Test.YthiplpkapbdakaaFixL
namespace Go.Proofs.Ythiplpkapbdakaa.fixRounds
open Go.RowKit Go.ChangeShapes Go.OpenShut

set_option maxHeartbeats 2000000 in
theorem walk (a0 a1 : Int) (w0 : (Lit.int .i64 a0).wf = true) (w1 : (Lit.int .i64 a1).wf = true) (w : World) :
    Calls Try.prog 7 #[.int .i64 a0, .int .i64 a1] w fun e w' => e = .returned (.bool true) ∧ Below w.heap.size w w' := by
  obtain ⟨b1, b2⟩ := bounds_i64 w0
  obtain ⟨b3, b4⟩ := bounds_i64 w1
  have hb := Below.refl w.heap.size w
  have hB := Nat.le_refl w.heap.size
  rcases (show a1 < 1 ∨ (1 ≤ a1 ∧ 62 < a1) ∨ (1 ≤ a1 ∧ a1 ≤ 62) by omega) with h | ⟨h, h'⟩ | ⟨h, h'⟩
  · have E := wRnd_out (x := a0) (n := a1) (by omega)
    go_enter Try.func7, Try.ntmps7
    go_wp2_with (first
      | (go_at_call 8; refine (keep (round_b _ _ _ (by omega) (by omega) (by omega) (by omega)) hb hB).mono ?_; rintro e w1 ⟨rfl, hb, hB⟩)
      | (go_at_call 10; refine (keep (mulq_is _ _ _ (by omega) (by omega) (by omega) (by omega)) hb hB).mono ?_; rintro e w1 ⟨rfl, hb, hB⟩)
      | (go_at_call 12; refine (keep (mulr_is _ _ _ (by omega) (by omega) (by omega) (by omega)) hb hB).mono ?_; rintro e w1 ⟨rfl, hb, hB⟩)
      | (go_at_call 14; refine (keep (mulh_is _ _ _ (by omega) (by omega) (by omega) (by omega)) hb hB).mono ?_; rintro e w1 ⟨rfl, hb, hB⟩)
      | (go_at_call 16; refine (keep (mull_is _ _ _ (by omega) (by omega) (by omega) (by omega)) hb hB).mono ?_; rintro e w1 ⟨rfl, hb, hB⟩)
      | (go_at_call 18; refine (keep (fixAwake_is _) hb hB).mono ?_; rintro e w1 ⟨rfl, hb, hB⟩))
    go_ret
    exact ⟨rfl, hb⟩
  · have E := wRnd_out (x := a0) (n := a1) (by omega)
    go_enter Try.func7, Try.ntmps7
    go_wp2_with (first
      | (go_at_call 8; refine (keep (round_b _ _ _ (by omega) (by omega) (by omega) (by omega)) hb hB).mono ?_; rintro e w1 ⟨rfl, hb, hB⟩)
      | (go_at_call 10; refine (keep (mulq_is _ _ _ (by omega) (by omega) (by omega) (by omega)) hb hB).mono ?_; rintro e w1 ⟨rfl, hb, hB⟩)
      | (go_at_call 12; refine (keep (mulr_is _ _ _ (by omega) (by omega) (by omega) (by omega)) hb hB).mono ?_; rintro e w1 ⟨rfl, hb, hB⟩)
      | (go_at_call 14; refine (keep (mulh_is _ _ _ (by omega) (by omega) (by omega) (by omega)) hb hB).mono ?_; rintro e w1 ⟨rfl, hb, hB⟩)
      | (go_at_call 16; refine (keep (mull_is _ _ _ (by omega) (by omega) (by omega) (by omega)) hb hB).mono ?_; rintro e w1 ⟨rfl, hb, hB⟩)
      | (go_at_call 18; refine (keep (fixAwake_is _) hb hB).mono ?_; rintro e w1 ⟨rfl, hb, hB⟩))
    go_ret
    exact ⟨rfl, hb⟩
  · have d := div_bd' h b1 b2
    have p0 := pow_pos' a1.toNat
    have p1 := pow62 (show a1.toNat ≤ 62 by omega)
    have m := and_low a0 (show a1.toNat ≤ 62 by omega)
    have q0 := Int.emod_nonneg a0 (show (2 : Int) ^ a1.toNat ≠ 0 by omega)
    have q1 := Int.emod_lt_of_pos a0 p0
    by_cases ht : 2 ^ a1.toNat / 2 ≤ a0 % 2 ^ a1.toNat
    · have E := wRnd_rest (x := a0) h h'
      rw [if_pos ht] at E
      go_enter Try.func7, Try.ntmps7
      go_wp2_with (first
      | (go_at_call 8; refine (keep (round_b _ _ _ (by omega) (by omega) (by omega) (by omega)) hb hB).mono ?_; rintro e w1 ⟨rfl, hb, hB⟩)
      | (go_at_call 10; refine (keep (mulq_is _ _ _ (by omega) (by omega) (by omega) (by omega)) hb hB).mono ?_; rintro e w1 ⟨rfl, hb, hB⟩)
      | (go_at_call 12; refine (keep (mulr_is _ _ _ (by omega) (by omega) (by omega) (by omega)) hb hB).mono ?_; rintro e w1 ⟨rfl, hb, hB⟩)
      | (go_at_call 14; refine (keep (mulh_is _ _ _ (by omega) (by omega) (by omega) (by omega)) hb hB).mono ?_; rintro e w1 ⟨rfl, hb, hB⟩)
      | (go_at_call 16; refine (keep (mull_is _ _ _ (by omega) (by omega) (by omega) (by omega)) hb hB).mono ?_; rintro e w1 ⟨rfl, hb, hB⟩)
      | (go_at_call 18; refine (keep (fixAwake_is _) hb hB).mono ?_; rintro e w1 ⟨rfl, hb, hB⟩))
      go_ret
      exact ⟨rfl, hb⟩
    · have E := wRnd_rest (x := a0) h h'
      rw [if_neg ht] at E
      go_enter Try.func7, Try.ntmps7
      go_wp2_with (first
      | (go_at_call 8; refine (keep (round_b _ _ _ (by omega) (by omega) (by omega) (by omega)) hb hB).mono ?_; rintro e w1 ⟨rfl, hb, hB⟩)
      | (go_at_call 10; refine (keep (mulq_is _ _ _ (by omega) (by omega) (by omega) (by omega)) hb hB).mono ?_; rintro e w1 ⟨rfl, hb, hB⟩)
      | (go_at_call 12; refine (keep (mulr_is _ _ _ (by omega) (by omega) (by omega) (by omega)) hb hB).mono ?_; rintro e w1 ⟨rfl, hb, hB⟩)
      | (go_at_call 14; refine (keep (mulh_is _ _ _ (by omega) (by omega) (by omega) (by omega)) hb hB).mono ?_; rintro e w1 ⟨rfl, hb, hB⟩)
      | (go_at_call 16; refine (keep (mull_is _ _ _ (by omega) (by omega) (by omega) (by omega)) hb hB).mono ?_; rintro e w1 ⟨rfl, hb, hB⟩)
      | (go_at_call 18; refine (keep (fixAwake_is _) hb hB).mono ?_; rintro e w1 ⟨rfl, hb, hB⟩))
      go_ret
      exact ⟨rfl, hb⟩
end Go.Proofs.Ythiplpkapbdakaa.fixRounds
