/- The walk of the law BurstTells: it returns true and writes nothing that was there. -/
import Derived.Test.YthmndfgafkpgdaaBurK
import Derived.Deep.RegionHeld3
namespace Go.Proofs.Ythmndfgafkpgdaa.burstTells
open Go.RowKit Go.ChangeShapes Go.OpenShut

/-- A call that makes numbers, within a region: what was there since W stays. -/
theorem ints_at {f : FuncId} {args : Array Value} {W w' : World} {l : List Int} (hc : Calls Try.prog f args w' fun e w'' => RetI w' 3 l e w'') (hS : Below W.heap.size W w') :
    Calls Try.prog f args w' fun e w'' => ∃ a2 c2, e = .returned (.slice a2 l.length c2) ∧ Its w'' a2 l.length c2 l ∧ Below w'.heap.size w' w'' ∧ Below W.heap.size W w'' := by
  refine hc.mono ?_
  rintro e w2 ⟨v2, rfl, ho2, hb1⟩
  obtain ⟨a2, n2, c2, rfl, hI⟩ := ho2.its
  obtain rfl : n2 = l.length := hI.len.symm
  exact ⟨a2, c2, rfl, hI, hb1, hS.trans (hb1.mono hS.size)⟩

set_option maxHeartbeats 4000000 in
theorem within (a a' : Option Addr) (n c n' c' : Nat) (q x : Int) (l l' : List Int) (w : World) (hB : By w a n c l) (hB' : By w a' n' c' l') (hn : n ≤ 300) (hn' : n' ≤ 300) (hq1 : -9223372036854775808 ≤ q) (hq2 : q ≤ 9223372036854775807) (hx0 : 0 ≤ x) (hx1 : x < 65536) :
    Calls Try.prog 3 #[.slice a n c, .slice a' n' c', .int .i64 q, .int .u16 x] w fun e w' => e = .returned (.bool true) ∧ Below w.heap.size w w' := by
  have hn1 : ¬ (300 : Int) < (n : Int) := by omega
  have hn2 : ¬ (300 : Int) < (n' : Int) := by omega
  have q0 := str_run hB
  have HB := Lib.hid hB
  have HB' := Lib.hid hB'
  obtain ⟨s, hs⟩ : ∃ s, spanW l l' = s := ⟨_, rfl⟩
  have HS := Lib.hid hs
  obtain ⟨ps, hps⟩ : ∃ ps, placesOf l l' = ps := ⟨_, rfl⟩
  have HP := Lib.hid hps
  obtain ⟨m, hm⟩ : ∃ m, flipOf l q x = m := ⟨_, rfl⟩
  have HM := Lib.hid hm
  have HD := Lib.hid (show Bd8 m by rw [← hm]; exact flipOf_bd hB.bd q x)
  have eM := str_same8 (l := m) rfl
  have eL := str_same8 (l := l) rfl
  have hss : (s == s) = true := by simp
  clear hB hB' hs hps hm
  go_enter Try.func3, Try.ntmps3
  go_wp2
  go_region_held (fun w' => Below w.heap.size w w')
    (first | with_reducible assumption | exact Below.refl _ _ | exact (Below.refl _ _).drew)
    (first
      | (go_at_call 7; (refine (ints_at (HP.out ▸ burstPlaces_is _ _ _ _ _ _ _ _ _ (HB.out.keep (by assumption) (Nat.le_refl _)) (HB'.out.keep (by assumption) (Nat.le_refl _)) (by omega) (by omega)) (by assumption)).mono ?_); rintro e w3 ⟨a3, c3, rfl, hI3, hb3, hS⟩; have HI3 := Lib.hid hI3; clear hI3)
      | (go_at_call 8; (refine (ints_at (HP.out ▸ refPlaces_is _ _ _ _ _ _ _ _ _ (HB.out.keep (by assumption) (Nat.le_refl _)) (HB'.out.keep (by assumption) (Nat.le_refl _)) (by omega) (by omega)) (by assumption)).mono ?_); rintro e w4 ⟨a4, c4, rfl, hI4, hb4, hS⟩; have HI4 := Lib.hid hI4; have HI5 := Lib.hid (HI3.out.keep hb4 (Nat.le_refl _)); clear hI4)
      | (go_at_call 6; (refine (below_at (refSame_is _ _ _ _ _ ps _ HI5.out HI4.out) (by assumption)).mono ?_); rintro e w5 ⟨rfl, hS⟩)
      | (go_at_call 9; (refine (below_at (HS.out ▸ burstSpan_is _ _ _ _ _ _ _ _ _ (HB.out.keep (by assumption) (Nat.le_refl _)) (HB'.out.keep (by assumption) (Nat.le_refl _)) (by omega) (by omega)) (by assumption)).mono ?_); rintro e w6 ⟨rfl, hS⟩)
      | (go_at_call 10; (refine (below_at (HS.out ▸ refSpan_is _ _ _ _ _ _ _ _ _ (HB.out.keep (by assumption) (Nat.le_refl _)) (HB'.out.keep (by assumption) (Nat.le_refl _)) (by omega) (by omega)) (by assumption)).mono ?_); rintro e w7 ⟨rfl, hS⟩)
      | (go_at_call 11; (refine (own_at (HM.out ▸ burstFlip_is _ _ _ q x l _ (HB.out.keep (by assumption) (Nat.le_refl _)) (by omega) hq1 hq2 hx0 hx1) HD.out (by assumption)).mono ?_); rintro e w8 ⟨a6, n6, c6, rfl, hB6, hb6, hS⟩; have hq := str_run hB6; have hq' := str_run (hB6.keep (Below.refl _ _).drew (Nat.le_refl _)); have HB6 := Lib.hid hB6; clear hB6)
      | (go_at_call 12; (refine (own_at (HM.out ▸ refFlip_is _ _ _ q x l _ (HB.out.keep (by assumption) (Nat.le_refl _)) (by omega) hq1 hq2 hx0 hx1) HD.out (by assumption)).mono ?_); rintro e w9 ⟨a7, n7, c7, rfl, hB7, hb7, hS⟩; have hp := str_run hB7; have hp' := str_run (hB7.keep (Below.refl _ _).drew (Nat.le_refl _)); have hz := str_run (HB.out.keep hS (Nat.le_refl _)); first | (have hr := str_run (HB6.out.keep hb7 (Nat.le_refl _)); have hr' := str_run (HB6.out.keep hb7.drew (Nat.le_refl _))) | (have hr := str_run (HB6.out.keep ((Below.refl _ _).drew.trans hb7) (Nat.le_refl _)); have hr' := str_run (HB6.out.keep ((Below.refl _ _).drew.trans hb7).drew (Nat.le_refl _))))
      | (go_at_call 5; (refine (below_at (burstAwake_is _) (by assumption)).mono ?_); rintro e w5 ⟨rfl, hS⟩))
  all_goals
    go_wp2
    go_ret
    exact ⟨rfl, hS⟩

set_option maxHeartbeats 1000000 in
theorem walk (a0 : Option Addr) (len0 cap0 : Nat) (z0 : List Int) (a1 : Option Addr) (len1 cap1 : Nat) (z1 : List Int) (a2 : Int) (a3 : Int) (w : World) (w0 : IsRow .u8 w a0 len0 cap0 z0) (w1 : IsRow .u8 w a1 len1 cap1 z1) (w2 : (Lit.int .i64 a2).wf = true) (w3 : (Lit.int .u16 a3).wf = true) :
    Calls Try.prog 3 #[.slice a0 len0 cap0, .slice a1 len1 cap1, .int .i64 a2, .int .u16 a3] w fun e w' => e = .returned (.bool true) ∧ Below w.heap.size w w' := by
  have hB := By.of_row w0
  have hB' := By.of_row w1
  obtain ⟨b1, b2⟩ := bounds_i64 w2
  obtain ⟨b3, b4⟩ : 0 ≤ a3 ∧ a3 < 65536 := by
    simp [Lit.wf, IntKind.min, IntKind.max, IntKind.bits, IntKind.signed] at w3
    omega
  by_cases h : len0 ≤ 300 ∧ len1 ≤ 300
  · exact within a0 a1 len0 cap0 len1 cap1 a2 a3 _ _ w hB hB' h.1 h.2 (by omega) (by omega) b3 b4
  · have h' : (300 : Int) < (len0 : Int) ∨ ((len0 : Int) ≤ 300 ∧ (300 : Int) < (len1 : Int)) := by omega
    have q1 := hB.big
    have q2 := hB.cap
    have q3 := hB'.big
    have q4 := hB'.cap
    unfold maxLen at q1 q3
    clear w0 w1 w2 w3 hB hB' h
    rcases h' with h1 | ⟨h1, h2⟩
    all_goals
      go_enter Try.func3, Try.ntmps3
      go_wp2_with (go_at_call 5; (with_reducible refine (burstAwake_is _).mono ?_); rintro e w5 ⟨rfl, hb5⟩)
      go_ret
      exact ⟨rfl, hb5⟩
end Go.Proofs.Ythmndfgafkpgdaa.burstTells
