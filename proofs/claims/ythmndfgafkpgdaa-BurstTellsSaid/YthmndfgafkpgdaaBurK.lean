/- Package burst within a law: the page's example, and calls that keep what lay there. -/
import Derived.Test.YthmndfgafkpgdaaBurF
import Derived.Lib.SlBytesConst
namespace Go.Proofs.Ythmndfgafkpgdaa
open Go.RowKit Go.Shelf

theorem flip_two : flipOf [0, 0] 7 49152 = [1, 128] := by decide +kernel
theorem places_two : placesOf [0, 0] [1, 128] = [7, 8] := by decide +kernel
theorem span_two : spanW [0, 0] [1, 128] = 2 := by decide +kernel
theorem span_one : spanW [] [1] = -1 := by decide +kernel
theorem nought_bd : Bd8 [0, 0] := by unfold Bd8; decide
theorem two_bd : Bd8 [1, 128] := by unfold Bd8; decide
theorem one_bd : Bd8 [1] := by unfold Bd8; decide
theorem Its.lit2 (w : World) (e : TypeId) (x y : Int) : Its (w.alloc (.cells #[.int .i64 x, .int .i64 y] e)) (some ⟨w.heap.size, 0, none⟩) 2 2 [x, y] := by
  refine ⟨rfl, Nat.le_refl _, by unfold maxLen; omega, fun _ => ⟨_, _, rfl, fun i hi => ?_⟩⟩
  rw [cell_of_row _ _ _ _ _ (0, 0) (heap_alloc_new w _), Nat.zero_add]
  rcases (show i = 0 ∨ i = 1 by omega) with rfl | rfl <;> rfl

/-- What is flipped, in a caller's words. -/
theorem burstFlip_to {a : Option Addr} {n c : Nat} {q x : Int} {l m : List Int} {w : World} (h : flipOf l q x = m) (hB : By w a n c l) (hn : n ≤ 1073741824) (hq1 : -9223372036854775808 ≤ q) (hq2 : q ≤ 9223372036854775807) (hx0 : 0 ≤ x) (hx1 : x < 65536) :
    Calls Try.prog 11 #[.slice a n c, .int .i64 q, .int .u16 x] w fun e w' => ∃ a' c', e = .returned (.slice a' n c') ∧ By w' a' n c' m ∧ Below w.heap.size w w' := by
  subst h
  refine (burstFlip_is a n c q x l w hB hn hq1 hq2 hx0 hx1).mono ?_
  rintro e w' ⟨v, rfl, ho, hb⟩
  obtain ⟨a', n', c', rfl, hn', hB'⟩ := ho.byn (flipOf_bd hB.bd q x)
  obtain rfl : n' = n := by rw [flipOf_len, hB.len] at hn'; omega
  exact ⟨a', c', rfl, hB', hb⟩
theorem burstPlaces_to {a a' : Option Addr} {n c n' c' : Nat} {l l' m : List Int} {w : World} (h : placesOf l l' = m) (hB : By w a n c l) (hB' : By w a' n' c' l') (hn : n ≤ 1073741824) (hn' : n' ≤ 1073741824) :
    Calls Try.prog 7 #[.slice a n c, .slice a' n' c'] w fun e w' => ∃ a2 c2, e = .returned (.slice a2 m.length c2) ∧ Its w' a2 m.length c2 m ∧ Below w.heap.size w w' := by
  subst h
  refine (burstPlaces_is a a' n c n' c' l l' w hB hB' hn hn').mono ?_
  rintro e w' ⟨v, rfl, ho, hb⟩
  obtain ⟨a2, n2, c2, rfl, hI⟩ := ho.its
  obtain rfl : n2 = (placesOf l l').length := hI.len.symm
  exact ⟨a2, c2, rfl, hI, hb⟩

set_option maxHeartbeats 1000000 in
theorem burstAwake_is (w : World) :
    Calls Try.prog 5 #[] w fun e w' => e = .returned (.bool true) ∧ Below w.heap.size w w' := by
  have e1 : ((strOfNums [1, 128]).toList == [1, 128]) = true := str_const8 (by decide)
  have H2 := Lib.hid (fun w : World => By.lit w 5 (n := 2) (l := [0, 0]) rfl (by unfold maxLen; omega) nought_bd (cs := #[.int .u8 0, .int .u8 0]) rfl)
  have H1 := Lib.hid (fun w : World => By.lit w 5 (n := 1) (l := [1]) rfl (by unfold maxLen; omega) one_bd (cs := #[.int .u8 1]) rfl)
  go_enter Try.func5, Try.ntmps5
  go_wp2_with fail
  refine (burstFlip_to flip_two (H2.out _) (by decide) (by decide) (by decide) (by decide) (by decide)).mono ?_
  rintro e w1 ⟨a1, c1, rfl, hB1, hb1⟩
  have hb := ((Below.refl w.heap.size w).alloc (Nat.le_refl _) _).trans (hb1.mono (by simp))
  have q1 := str_run hB1
  have HB1 := Lib.hid hB1
  clear hb1 hB1
  go_wp2_with fail
  refine (burstPlaces_to places_two (H2.out _) (HB1.out.keep ((Below.refl _ _).alloc (Nat.le_refl _) _) (Nat.le_refl _)) (by decide) (by decide)).mono ?_
  rintro e w2 ⟨a2, c2, rfl, hI2, hb2⟩
  have hc2 := ((Below.refl w1.heap.size w1).alloc (Nat.le_refl _) _).trans (hb2.mono (by simp))
  replace hb := hb.trans (hc2.mono hb.size)
  have HB2 := Lib.hid (HB1.out.keep hc2 (Nat.le_refl _))
  have HI2 := Lib.hid hI2
  clear hb2 hc2 hI2 HB1 q1
  go_wp2_with fail
  refine (refSame_is _ _ 2 c2 2 [7, 8] _ (HI2.out.keep ((Below.refl _ _).alloc (Nat.le_refl _) _) (Nat.le_refl _)) (Its.lit2 _ _ _ _)).mono ?_
  rintro e w3 ⟨rfl, hb3⟩
  have hc3 := ((Below.refl w2.heap.size w2).alloc (Nat.le_refl _) _).trans (hb3.mono (by simp))
  replace hb := hb.trans (hc3.mono hb.size)
  have HB3 := Lib.hid (HB2.out.keep hc3 (Nat.le_refl _))
  clear hb3 hc3 HI2 HB2
  go_wp2_with fail
  refine (burstSpan_is _ _ 2 2 2 c1 [0, 0] [1, 128] _ (H2.out _) (HB3.out.keep ((Below.refl _ _).alloc (Nat.le_refl _) _) (Nat.le_refl _)) (by decide) (by decide)).mono ?_
  rw [span_two]
  rintro e w4 ⟨rfl, hb4⟩
  have hc4 := ((Below.refl w3.heap.size w3).alloc (Nat.le_refl _) _).trans (hb4.mono (by simp))
  replace hb := hb.trans (hc4.mono hb.size)
  clear hb4 hc4 HB3
  go_wp2_with fail
  refine (burstSpan_is _ _ 0 0 1 1 [] [1] _ (By.emp _) (H1.out _) (by decide) (by decide)).mono ?_
  rw [span_one]
  rintro e w5 ⟨rfl, hb5⟩
  have hc5 := ((Below.refl w4.heap.size w4).alloc (Nat.le_refl _) _).trans (hb5.mono (by simp))
  replace hb := hb.trans (hc5.mono hb.size)
  go_wp2
  go_ret
  exact ⟨rfl, hb⟩
end Go.Proofs.Ythmndfgafkpgdaa
