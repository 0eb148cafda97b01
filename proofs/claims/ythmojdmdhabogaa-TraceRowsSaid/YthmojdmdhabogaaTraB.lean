/- The document's First, Folds, Same, Heats. Conditions: none but the arguments' form. -/
import Derived.Test.YthmojdmdhabogaaTraA
import Derived.Test.YthmojdmdhabogaaIts
import Derived.Handy
import Derived.Lib.Hide
import Derived.Deep.QuietTactic
import Derived.Deep.RegionHeld3
import Derived.BigQuiet
import Derived.Outline
import Derived.WalkSmall
namespace Go.Proofs.Ythmojdmdhabogaa
open Go.RowKit Go.IntWalk

theorem tFirst_at {a b : List Mk} {k : Nat} (h1 : k ≤ a.length) (h2 : k ≤ b.length) (h3 : ∀ j, j < k → mkAt a j = mkAt b j) (h : (k = a.length ∧ k < b.length) ∨ (k = b.length ∧ k < a.length) ∨ (k < a.length ∧ k < b.length ∧ mkAt a k ≠ mkAt b k)) : tFirst a b = k := by
  have e : comm a b = k := comm_is a b k h1 h2 h3 (by
    rcases h with h | h | h
    · exact .inl h.1
    · exact .inr (.inl h.1)
    · exact .inr (.inr h.2.2))
  unfold tFirst
  rw [e, if_neg (by omega)]
theorem tFirst_ends {a b : List Mk} {k : Nat} (h1 : k = a.length) (h2 : k = b.length) (h3 : ∀ j, j < k → mkAt a j = mkAt b j) : tFirst a b = -1 := by
  have e : comm a b = k := comm_is a b k (by omega) (by omega) h3 (.inl h1)
  unfold tFirst
  rw [e, if_pos ⟨h1, h2⟩]

set_option maxHeartbeats 4000000 in
theorem refTrFirst_is (a : Option Addr) (n c : Nat) (a' : Option Addr) (n' c' : Nat) (l l' : List Mk) (w : World) (h : MkAt w a n c l) (h' : MkAt w a' n' c' l') :
    Calls Try.prog 13 #[.slice a n c, .slice a' n' c'] w fun e w' => e = .returned (.int .i64 (tFirst l l')) ∧ Below w.heap.size w w' := by
  have hcap := h.cap
  have hbig := h.big
  have hcap' := h'.cap
  have hbig' := h'.big
  unfold maxLen at hbig hbig'
  have HL := Lib.hid h
  have HL' := Lib.hid h'
  have HLN := Lib.hid h.len
  have HLN' := Lib.hid h'.len
  clear h h'
  go_enter Try.func13, Try.ntmps13
  go_wp2
  go_loopw [5] (fun i wr => ∃ k : Nat, k ≤ n ∧ k ≤ n' ∧ i = .int .i64 k ∧ (∀ j, j < k → mkAt l j = mkAt l' j) ∧ Below w.heap.size w wr) (fun i _ => n - (intOf i).toNat)
  case atStart => exact ⟨0, by omega, by omega, rfl, fun j hj => by omega, Below.refl _ _⟩
  case round =>
    obtain ⟨k, hk, hk', rfl, hs, hb⟩ := hrel
    have Hb := Lib.hid hb
    have HS := Lib.hid hs
    clear hb hs
    by_cases h1 : k < n
    · have h1' : (k : Int) < n := by omega
      have g1 : decide (n ≤ k) = false := decide_eq_false (by omega)
      by_cases h2 : k < n'
      · have h2' : (k : Int) < n' := by omega
        have g2 : decide (n' ≤ k) = false := decide_eq_false (by omega)
        obtain ⟨g, off, rfl, hc⟩ := (HL.out.keep Hb.out).lie (by omega)
        obtain ⟨g', off', rfl, hd⟩ := (HL'.out.keep Hb.out).lie (by omega)
        obtain ⟨c0, c1, c2⟩ := hc k h1
        obtain ⟨d0, d1, d2⟩ := hd k h2
        have HM := Lib.hid (show mkAt l k = ((mkAt l k).1, (mkAt l k).2.1, (mkAt l k).2.2) from rfl)
        have HM' := Lib.hid (show mkAt l' k = ((mkAt l' k).1, (mkAt l' k).2.1, (mkAt l' k).2.2) from rfl)
        clear hc hd
        generalize (mkAt l k).1 = u0 at *
        generalize (mkAt l k).2.1 = u1 at *
        generalize (mkAt l k).2.2 = u2 at *
        generalize (mkAt l' k).1 = v0 at *
        generalize (mkAt l' k).2.1 = v1 at *
        generalize (mkAt l' k).2.2 = v2 at *
        have fin : ∀ (hne : ((u0, u1, u2) : Mk) ≠ (v0, v1, v2)), tFirst l l' = k := fun hne =>
          tFirst_at (by rw [HLN.out]; omega) (by rw [HLN'.out]; omega) HS.out (.inr (.inr ⟨by rw [HLN.out]; omega, by rw [HLN'.out]; omega, by rw [HM.out, HM'.out]; exact hne⟩))
        have Hfin := Lib.hid fin
        clear fin
        by_cases e0 : u0 = v0
        · have E0 := Lib.hid e0
          have f0 : (u0 != v0) = false := by simpa using e0
          clear e0
          by_cases e1 : u1 = v1
          · have E1 := Lib.hid e1
            have f1 : (u1 != v1) = false := by simpa using e1
            clear e1
            by_cases e2 : u2 = v2
            · have E2 := Lib.hid e2
              have f2 : (u2 != v2) = false := by simpa using e2
              clear e2
              go_wp2
              go_quiet (fail)
              go_wp2
              go_roundw
              case rel => exact ⟨k + 1, by omega, by omega, by go_num, fun j hj => by
                rcases Nat.lt_succ_iff_lt_or_eq.1 hj with q | q
                · exact HS.out j q
                · subst q; rw [HM.out, HM'.out, E0.out, E1.out, E2.out], below_drewN Hb.out _⟩
              case measure => simp [intOf]; omega
            · have f2 : (u2 != v2) = true := by simpa using e2
              have E2 := Lib.hid e2
              clear e2
              go_wp2
              go_quiet (fail)
              go_wp2
              go_ret
              exact ⟨retI (Hfin.out fun q => E2.out (by simpa using (congrArg (·.2.2) q))).symm, below_drewN Hb.out _⟩
          · have f1 : (u1 != v1) = true := by simpa using e1
            have E1 := Lib.hid e1
            clear e1
            go_wp2
            go_quiet (fail)
            go_wp2
            go_ret
            exact ⟨retI (Hfin.out fun q => E1.out (by simpa using (congrArg (·.2.1) q))).symm, below_drewN Hb.out _⟩
        · have f0 : (u0 != v0) = true := by simpa using e0
          have E0 := Lib.hid e0
          clear e0
          go_wp2
          go_quiet (fail)
          go_wp2
          go_ret
          exact ⟨retI (Hfin.out fun q => E0.out (by simpa using (congrArg (·.1) q))).symm, below_drewN Hb.out _⟩
      · have h2' : (n' : Int) ≤ k := by omega
        have g2 : decide (n' ≤ k) = true := decide_eq_true (by omega)
        have Hfin := Lib.hid (show tFirst l l' = k from tFirst_at (by rw [HLN.out]; omega) (by rw [HLN'.out]; omega) HS.out (.inr (.inl ⟨by rw [HLN'.out]; omega, by rw [HLN.out]; omega⟩)))
        go_wp2
        go_quiet (fail)
        go_wp2
        go_ret
        exact ⟨retI Hfin.out.symm, below_drewN Hb.out _⟩
    · have h1' : (n : Int) ≤ k := by omega
      have g1 : decide (n ≤ k) = true := decide_eq_true (by omega)
      by_cases h2 : k < n'
      · have h2' : (k : Int) < n' := by omega
        have Hfin := Lib.hid (show tFirst l l' = k from tFirst_at (by rw [HLN.out]; omega) (by rw [HLN'.out]; omega) HS.out (.inl ⟨by rw [HLN.out]; omega, by rw [HLN'.out]; omega⟩))
        go_wp2
        go_quiet (fail)
        go_wp2
        go_ret
        exact ⟨retI Hfin.out.symm, below_drewN Hb.out _⟩
      · have h2' : (n' : Int) ≤ k := by omega
        have Hfin := Lib.hid (show tFirst l l' = -1 from tFirst_ends (k := k) (by rw [HLN.out]; omega) (by rw [HLN'.out]; omega) HS.out)
        go_wp2
        go_ret
        exact ⟨retI Hfin.out.symm, Hb.out⟩
end Go.Proofs.Ythmojdmdhabogaa
