/- The walk of the law CrcTells: it returns true and writes nothing that was there. -/
import Derived.Test.YtmeflfilfciehaaDoorCrcK
namespace Go.Proofs.YtmeflfilfciehaaDoor.crcTells
open Go.RowKit Go.ChangeShapes Go.OpenShut

set_option maxHeartbeats 4000000 in
theorem within (a0 a1 : Int) (a : Option Addr) (n c : Nat) (l : List Int) (w : World) (b1 : -2147483648 ≤ a0) (b2 : a0 ≤ 2147483647) (b3 : 0 ≤ a1) (b4 : a1 ≤ 255) (hB : By w a n c l) (hn : n ≤ 600) (hL : FoursLaid w) :
    Calls Tryd.prog 3 #[.int .i32 a0, .int .u8 a1, .slice a n c] w fun e w' => e = .returned (.bool true) ∧ Below w.heap.size w w' := by
  have hn' : ¬ (600 : Int) < (n : Int) := by omega
  have q0 := str_run hB
  have HB := Lib.hid hB
  have HL := Lib.hid hL
  have hm : Bd8 (openOf l).1 := by
    unfold openOf
    split
    · exact Bd8.nil
    · split
      · exact hB.bd.take _
      · exact Bd8.nil
  obtain ⟨m, k, hmk⟩ : ∃ m k, openOf l = (m, k) := ⟨_, _, rfl⟩
  rw [hmk] at hm
  have HM := Lib.hid hmk
  have HD := Lib.hid hm
  have HS := Lib.hid (sealOf_bd hB.bd)
  obtain ⟨s, hs⟩ : ∃ s, wCt a0 a1 = s := ⟨_, rfl⟩
  have HT := Lib.hid hs
  obtain ⟨t, ht⟩ : ∃ t, wOn 65535 l = t := ⟨_, rfl⟩
  have HF := Lib.hid (fun (w : World) a n c (h : By w a n c l) (hL : FoursLaid w) => ht ▸ crcOf_is a n c l w h hL)
  have HG := Lib.hid (fun (w : World) a n c (h : By w a n c l) => ht ▸ refCrcOf_is a n c l w h)
  clear hB hL hm hmk hs ht
  have hb0 := Below.refl w.heap.size w
  go_enter Tryd.func3, Tryd.ntmps3
  go_wp2_with (first
    | (go_at_call 8; (with_reducible refine (crcOpen_to HM.out HB.out HL.out (by omega) HD.out).mono ?_); rintro e w1 ⟨a2, c2, rfl, hB2, hb1⟩; have HB2 := Lib.hid hB2; clear hB2)
    | (go_at_call 9; (with_reducible refine (refCrcOpen_to HM.out (HB.out.keep hb1 (Nat.le_refl _)) (by omega) HD.out).mono ?_); rintro e w2 ⟨a3, c3, rfl, hB3, hb2⟩; have HB3 := Lib.hid hB3; have HB4 := Lib.hid (HB2.out.keep hb2 (Nat.le_refl _)); have hb := hb1.trans (hb2.mono hb1.size); have HB5 := Lib.hid (HB.out.keep hb (Nat.le_refl _)); have HL5 := Lib.hid (HL.out.below hb HL.out.lt); clear hB3))
  go_region_held (fun w' => Below w2.heap.size w2 w')
    (first | with_reducible assumption | exact Below.refl _ _ | exact (Below.refl _ _).drew)
    (first
      | (go_at_call 10; (refine (quiet_at (crcStep_is a0 a1 s _ b3 b4 (HL5.out.below (by assumption) HL5.out.lt) HT.out) (by assumption)).mono ?_); rintro e w3 ⟨rfl, hS⟩)
      | (go_at_call 11; (refine (below_at (refCrcStep_is a0 a1 s _ b1 b2 b3 b4 HT.out) (by assumption)).mono ?_); rintro e w3 ⟨rfl, hS⟩)
      | (go_at_call 12; (refine (below_at (HF.out _ _ _ _ (HB5.out.keep (by assumption) (Nat.le_refl _)) (HL5.out.below (by assumption) HL5.out.lt)) (by assumption)).mono ?_); rintro e w3 ⟨rfl, hS⟩)
      | (go_at_call 13; (refine (below_at (HG.out _ _ _ _ (HB5.out.keep (by assumption) (Nat.le_refl _))) (by assumption)).mono ?_); rintro e w3 ⟨rfl, hS⟩)
      | (go_at_call 14; (refine (own_at (crcSeal_is _ _ _ _ _ (HB5.out.keep (by assumption) (Nat.le_refl _)) (HL5.out.below (by assumption) HL5.out.lt) (by omega)) HS.out (by assumption)).mono ?_); rintro e w3 ⟨a6, n6, c6, rfl, hB6, hb6, hS⟩; have hq := str_run hB6; have hq' := str_run (hB6.keep (Below.refl _ _).drew (Nat.le_refl _)); have HB6 := Lib.hid hB6; clear hB6)
      | (go_at_call 15; (refine (own_at (refCrcSeal_is _ _ _ _ _ (HB5.out.keep (by assumption) (Nat.le_refl _)) (by omega)) HS.out (by assumption)).mono ?_); rintro e w4 ⟨a7, n7, c7, rfl, hB7, hb7, hS⟩; have hp := str_run hB7; have hp' := str_run (hB7.keep (Below.refl _ _).drew (Nat.le_refl _)); first | (have hr := str_run (HB6.out.keep hb7 (Nat.le_refl _)); have hr' := str_run (HB6.out.keep hb7.drew (Nat.le_refl _))) | (have hr := str_run (HB6.out.keep ((Below.refl _ _).drew.trans hb7) (Nat.le_refl _)); have hr' := str_run (HB6.out.keep ((Below.refl _ _).drew.trans hb7).drew (Nat.le_refl _)))))
  all_goals
    have r1 := str_run (HB4.out.keep hS (Nat.le_refl _))
    have r2 := str_run (HB3.out.keep hS (Nat.le_refl _))
    have r3 := str_run (HB5.out.keep hS (Nat.le_refl _))
    go_wp2_with (go_at_call 7; (with_reducible refine (crcAwake_is _ (HL5.out.below hS HL5.out.lt)).mono ?_); rintro e w5 ⟨rfl, hb5⟩)
    go_ret
    exact ⟨rfl, hb.trans ((hS.trans (hb5.mono hS.size)).mono hb.size)⟩

set_option maxHeartbeats 1000000 in
theorem walk (a0 : Int) (a1 : Int) (a2 : Option Addr) (len2 cap2 : Nat) (z2 : List Int) (w : World) (w0 : (Lit.int .i32 a0).wf = true) (w1 : (Lit.int .u8 a1).wf = true) (w2 : IsRow .u8 w a2 len2 cap2 z2) (hL : FoursLaid w) :
    Calls Tryd.prog 3 #[.int .i32 a0, .int .u8 a1, .slice a2 len2 cap2] w fun e w' => e = .returned (.bool true) ∧ Below w.heap.size w w' := by
  obtain ⟨b1, b2⟩ := bounds_i32 w0
  obtain ⟨b3, b4⟩ := bounds_u8 w1
  have hB := By.of_row w2
  by_cases h : len2 ≤ 600
  · exact within a0 a1 a2 len2 cap2 _ w b1 b2 b3 b4 hB h hL
  · have h' : (600 : Int) < (len2 : Int) := by omega
    have hbig := hB.big
    have hcap := hB.cap
    unfold maxLen at hbig
    have HL := Lib.hid hL
    clear w0 w1 w2 hB h hL
    go_enter Tryd.func3, Tryd.ntmps3
    go_wp2_with (go_at_call 7; (with_reducible refine (crcAwake_is _ HL.out).mono ?_); rintro e w5 ⟨rfl, hb5⟩)
    go_ret
    exact ⟨rfl, hb5⟩
end Go.Proofs.YtmeflfilfciehaaDoor.crcTells
