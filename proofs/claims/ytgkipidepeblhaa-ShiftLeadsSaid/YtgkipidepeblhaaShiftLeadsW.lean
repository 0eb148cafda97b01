/- The walk of the law ShiftLeads: it returns true and writes nothing that was there. -/
import Derived.Test.YtgkipidepeblhaaShiftK
import Derived.Test.YtgkipidepeblhaaShiftL
namespace Go.Proofs.Ytgkipidepeblhaa.shiftLeads
open Go.RowKit Go.ChangeShapes Go.OpenShut

theorem clz_at (x c : Int) (w : World) (h : wClz x = c) :
    Calls Try.prog 16 #[.int .i32 x] w fun e w' => e = .returned (.int .i32 c) ∧ w = w' := h ▸ clz_is x w

theorem walk (a0 : Int) (w0 : (Lit.int .i32 a0).wf = true) (w : World) :
    Calls Try.prog 5 #[.int .i32 a0] w fun e w' => e = .returned (.bool true) ∧ Below w.heap.size w w' := by
  obtain ⟨b1, b2⟩ := bounds_i32 w0
  have hb := Below.refl w.heap.size w
  have hB := Nat.le_refl w.heap.size
  by_cases hz : a0 = 0
  · subst hz
    have c : Int := 32
    have hc := Lib.hid (show wClz 0 = 32 by decide)
    go_enter Try.func5, Try.ntmps5
    go_wp2_with (first
      | (go_at_call 16; refine (clz_at 0 32 _ hc.out).mono ?_; rintro e w' ⟨rfl, rfl⟩)
      | (go_at_call 12; refine (keep (sar_b _ _ _) hb hB).mono ?_; rintro e w1 ⟨rfl, hb, hB⟩)
      | (go_at_call 18; refine (keep (ones_b _ _) hb hB).mono ?_; rintro e w1 ⟨rfl, hb, hB⟩)
      | (go_at_call 10; refine (shr_is _ _ _).mono ?_; rintro e w' ⟨rfl, rfl⟩)
      | (go_at_call 8; refine (shl_is _ _ _).mono ?_; rintro e w' ⟨rfl, rfl⟩)
      | (go_at_call 14; refine (rol_is _ _ _).mono ?_; rintro e w' ⟨rfl, rfl⟩)
      | (go_at_call 20; refine (turn_is _ _).mono ?_; rintro e w' ⟨rfl, rfl⟩)
      | (go_at_call 22; refine (keep (shiftAwake_is _) hb hB).mono ?_; rintro e w1 ⟨rfl, hb, hB⟩))
    go_ret
    exact ⟨rfl, hb⟩
  · have g1 := wClz_bd a0
    have g2 := clz_lt hz b1 b2
    have f1 := lead_neg hz b1 b2
    have f2 := lead_one hz b1 b2
    have f3 := clz_sign b1 b2
    by_cases hn : a0 < 0
    · have h0 := f3.2 hn
      rw [h0] at f1 f2
      have hc := Lib.hid h0
      clear f3 h0 g1 g2
      go_enter Try.func5, Try.ntmps5
      go_wp2_with (first
        | (go_at_call 16; refine (clz_at a0 0 _ hc.out).mono ?_; rintro e w' ⟨rfl, rfl⟩)
        | (go_at_call 12; refine (keep (sar_b _ _ _) hb hB).mono ?_; rintro e w1 ⟨rfl, hb, hB⟩)
        | (go_at_call 18; refine (keep (ones_b _ _) hb hB).mono ?_; rintro e w1 ⟨rfl, hb, hB⟩)
        | (go_at_call 10; refine (shr_is _ _ _).mono ?_; rintro e w' ⟨rfl, rfl⟩)
        | (go_at_call 8; refine (shl_is _ _ _).mono ?_; rintro e w' ⟨rfl, rfl⟩)
        | (go_at_call 14; refine (rol_is _ _ _).mono ?_; rintro e w' ⟨rfl, rfl⟩)
        | (go_at_call 20; refine (turn_is _ _).mono ?_; rintro e w' ⟨rfl, rfl⟩)
        | (go_at_call 22; refine (keep (shiftAwake_is _) hb hB).mono ?_; rintro e w1 ⟨rfl, hb, hB⟩))
      go_ret
      exact ⟨rfl, hb⟩
    · have h0 : wClz a0 ≠ 0 := fun h => hn (f3.1 h)
      clear f3
      generalize hc0 : wClz a0 = c at *
      have hc := Lib.hid hc0
      clear hc0
      have h1 : 1 ≤ c := by omega
      have h2 : 0 < a0 := by omega
      have d1 : decide (a0 < 0) = false := by simp; omega
      have d2 : (c == 0) = false := by simp; omega
      clear h0 hz hn
      go_enter Try.func5, Try.ntmps5
      go_wp2_with (first
        | (go_at_call 16; refine (clz_at a0 c _ hc.out).mono ?_; rintro e w' ⟨rfl, rfl⟩)
        | (go_at_call 12; refine (keep (sar_b _ _ _) hb hB).mono ?_; rintro e w1 ⟨rfl, hb, hB⟩)
        | (go_at_call 18; refine (keep (ones_b _ _) hb hB).mono ?_; rintro e w1 ⟨rfl, hb, hB⟩)
        | (go_at_call 10; refine (shr_is _ _ _).mono ?_; rintro e w' ⟨rfl, rfl⟩)
        | (go_at_call 8; refine (shl_is _ _ _).mono ?_; rintro e w' ⟨rfl, rfl⟩)
        | (go_at_call 14; refine (rol_is _ _ _).mono ?_; rintro e w' ⟨rfl, rfl⟩)
        | (go_at_call 20; refine (turn_is _ _).mono ?_; rintro e w' ⟨rfl, rfl⟩)
        | (go_at_call 22; refine (keep (shiftAwake_is _) hb hB).mono ?_; rintro e w1 ⟨rfl, hb, hB⟩))
      go_ret
      exact ⟨rfl, hb⟩
end Go.Proofs.Ytgkipidepeblhaa.shiftLeads
