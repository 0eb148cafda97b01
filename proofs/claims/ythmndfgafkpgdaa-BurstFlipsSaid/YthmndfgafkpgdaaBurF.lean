/- What the document's own Flip (package astrolaberef12) gives. Conditions: the slice's cells are bytes; the text is no longer than 2^30 bytes; the numbers are of their kinds. -/
import Derived.Test.YthmndfgafkpgdaaBurR
namespace Go.Proofs.Ythmndfgafkpgdaa
open Go.RowKit Go.Shelf

/-- 2^k (behind a name). -/
def tw (k : Nat) : Int := 2 ^ k
theorem tw_succ (k : Nat) : tw (k + 1) = 2 * tw k := by unfold tw; rw [Int.pow_succ]; omega
theorem tw_bd {k : Nat} (h : k ≤ 7) : 1 ≤ tw k ∧ tw k ≤ 128 := by
  have := List.all_eq_true.1 (show ((List.range 8).all fun k => decide (1 ≤ tw k ∧ tw k ≤ 128)) = true by decide) k (List.mem_range.2 (by omega))
  simpa using this
theorem tw_bd6 {k : Nat} (h : k ≤ 6) : tw k ≤ 64 := by
  have := List.all_eq_true.1 (show ((List.range 7).all fun k => decide (tw k ≤ 64)) = true by decide) k (List.mem_range.2 (by omega))
  simpa using this
/-- Sixteen bits behind j doublings. -/
def dbl (x : Int) (j : Nat) : Int := x * tw j % 65536
theorem dbl_0 {x : Int} (h0 : 0 ≤ x) (h1 : x < 65536) : dbl x 0 = x := by
  have : tw 0 = 1 := rfl
  unfold dbl; rw [this]; omega
theorem dbl_next (x : Int) (j : Nat) : 2 * dbl x j % 65536 = dbl x (j + 1) := by
  have := tw_succ j
  have e : x * tw (j + 1) = 2 * (x * tw j) := by rw [this, Int.mul_left_comm]
  unfold dbl
  rw [e]
  generalize x * tw j = t
  omega
theorem dbl_bd (x : Int) (j : Nat) : 0 ≤ dbl x j ∧ dbl x j < 65536 := by unfold dbl; omega
theorem dbl_hi {x : Int} (h0 : 0 ≤ x) (h1 : x < 65536) {j : Nat} (hj : j < 16) : 32768 ≤ dbl x j ↔ xb x j = 1 := by
  have p : ∀ k, tw k = 2 ^ k := fun k => rfl
  unfold dbl xb
  rw [p]
  obtain ⟨x, rfl⟩ : ∃ n : Nat, x = n := ⟨x.toNat, by omega⟩
  rcases (show j = 0 ∨ j = 1 ∨ j = 2 ∨ j = 3 ∨ j = 4 ∨ j = 5 ∨ j = 6 ∨ j = 7 ∨ j = 8 ∨ j = 9 ∨ j = 10 ∨ j = 11 ∨ j = 12 ∨ j = 13 ∨ j = 14 ∨ j = 15 by omega) with rfl | rfl | rfl | rfl | rfl | rfl | rfl | rfl | rfl | rfl | rfl | rfl | rfl | rfl | rfl | rfl <;> simp only [Nat.sub_zero, Nat.reduceSub, Int.reducePow] <;> omega
theorem tog_all : ((List.range 256).all fun y => (List.range 8).all fun r => if bitOf y r then decide ((y : Int) - 2 ^ (7 - r) = x8 y (128 / 2 ^ r) ∧ 2 ^ (7 - r) ≤ (y : Int)) else decide ((y : Int) + 2 ^ (7 - r) = x8 y (128 / 2 ^ r) ∧ (y : Int) + 2 ^ (7 - r) ≤ 255)) = true := by decide +kernel
theorem tog {y : Int} (h1 : 0 ≤ y) (h2 : y ≤ 255) {r : Nat} (hr : r < 8) : (bitOf y r = true → y - tw (7 - r) = x8 y (128 / 2 ^ r) ∧ tw (7 - r) ≤ y) ∧ (bitOf y r = false → y + tw (7 - r) = x8 y (128 / 2 ^ r) ∧ y + tw (7 - r) ≤ 255) := by
  have := List.all_eq_true.1 (List.all_eq_true.1 tog_all y.toNat (List.mem_range.2 (by omega))) r (List.mem_range.2 hr)
  rw [show ((y.toNat : Nat) : Int) = y by omega] at this
  have p : tw (7 - r) = 2 ^ (7 - r) := rfl
  rw [p]
  constructor
  · intro h
    rw [if_pos h] at this
    exact of_decide_eq_true this
  · intro h
    rw [if_neg (by rw [h]; simp)] at this
    exact of_decide_eq_true this
theorem Own.byl {w : World} {base n c : Nat} {e : TypeId} {a : Option Addr} {l : List Int} (h : Own w base e (.slice a n c) l) (hl : Bd8 l) (hn : l.length = n) : By w a n c l := by
  obtain ⟨a', c', e', hB⟩ := h.by hl
  subst hn
  simp only [Value.slice.injEq, true_and] at e'
  obtain ⟨rfl, rfl⟩ := e'
  exact hB
theorem btI_yes {l : List Int} {k : Nat} (hk : k < 8 * l.length) (h : bitOf (byAt l (k / 8)) (k % 8) = true) : (btI l k == 1) = true := by unfold btI; rw [bl_get l k hk, h]; rfl
theorem btI_no {l : List Int} {k : Nat} (hk : k < 8 * l.length) (h : bitOf (byAt l (k / 8)) (k % 8) = false) : (btI l k == 1) = false := by unfold btI; rw [bl_get l k hk, h]; rfl

set_option maxRecDepth 100000 in
set_option maxHeartbeats 2000000 in
theorem refFlip_is (a : Option Addr) (n c : Nat) (q x : Int) (l : List Int) (w : World) (hB : By w a n c l) (hn : n ≤ 1073741824) (hq1 : -9223372036854775808 ≤ q) (hq2 : q ≤ 9223372036854775807) (hx0 : 0 ≤ x) (hx1 : x < 65536) :
    Calls Try.prog 12 #[.slice a n c, .int .i64 q, .int .u16 x] w fun e w' => RetOwn w 5 (flipOf l q x) e w' := by
  obtain ⟨i0, hi, hz0, hz1, hz2⟩ := info_parts infoU8
  have HB := Lib.hid hB
  have HL := Lib.hid hB.len
  have HD := Lib.hid hB.bd
  have hx2 := dbl_0 hx0 hx1
  clear hB
  go_enter Try.func12, Try.ntmps12
  go_wp2_with (at_builtin; refine wpList_append_by rfl _ _ 22 rfl w.heap.size 5 i0 (.int .u8 0) Try.underlying22 hi hz0 hz1 hz2 rfl rfl (Own.nil _ _ _) rfl HB.out (by simp; omega) (Nat.le_refl _) (Below.refl _ _) ?_; intro v w1 ho hb hs)
  obtain ⟨av, nn, cv, rfl, hnn, hBv⟩ := ho.byn (by simpa using HD.out)
  have hcapv := hBv.cap
  have hbigv := hBv.big
  unfold maxLen at hbigv
  obtain rfl : nn = n := by have := HL.out; simp at hnn; omega
  have HO := Lib.hid (show Own w1 w.heap.size 5 (.slice av nn cv) l by simpa using ho)
  have Hb := Lib.hid hb
  clear ho hb hBv hnn
  go_wp2
  go_loopw [8, 9] (fun xx i wr => ∃ j : Nat, j ≤ 16 ∧ i = .int .i64 j ∧ xx = .int .i64 (dbl x j) ∧ Own wr w.heap.size 5 (.slice av nn cv) (flipTo q l (onesTo x j)) ∧ Below w.heap.size w wr) (fun _ i _ => 16 - (intOf i).toNat)
  case atStart => exact ⟨0, by omega, rfl, by rw [hx2], HO.out, Hb.out⟩
  case round =>
    obtain ⟨j, hj, rfl, rfl, hown, hb⟩ := hrel
    by_cases hlt : j < 16
    · have hj1 : (j : Int) < 16 := by omega
      have hz := dbl_bd x j
      have hhi := dbl_hi hx0 hx1 hlt
      have HN := Lib.hid (dbl_next x j)
      have hml : (flipTo q l (onesTo x j)).length = nn := by rw [flipTo_len]; exact HL.out
      have hmb := flipTo_bd q (onesTo x j) HD.out
      -- what is not turned
      have hno : (xb x j ≠ 1 ∨ ¬ (0 ≤ q + j ∧ q + j < 8 * nn)) → flipTo q l (onesTo x (j + 1)) = flipTo q l (onesTo x j) := by
        intro h
        by_cases h1 : xb x j = 1
        · rw [onesTo_yes h1, flipTo_snoc]
          unfold flip1
          rw [if_neg (by rw [hml]; exact h.resolve_left (fun h2 => h2 h1))]
        · rw [onesTo_no h1]
      by_cases hfar : 8 * (nn : Int) < q ∨ (q ≤ 8 * (nn : Int) ∧ q < -16)
      · have E := Lib.hid (hno (.inr (by omega)))
        have HO1 := Lib.hid hown
        have Hb1 := Lib.hid hb
        clear hown hb hno hml hmb hhi
        generalize dbl x j = z at *
        rcases hfar with h1 | ⟨h1, h2⟩
        all_goals
          go_wp2
          go_roundw
          case rel => exact ⟨j + 1, by omega, by go_num, by rw [← HN.out], by rw [E.out]; exact HO1.out, Hb1.out⟩
          case measure => simp [intOf]; omega
      · have n1 : q ≤ 8 * (nn : Int) := by omega
        have n2 : -16 ≤ q := by omega
        by_cases hone : xb x j = 1
        · have hz2 := hhi.2 hone
          by_cases hin : 0 ≤ q + j ∧ q + j < 8 * nn
          · obtain ⟨k, hk⟩ : ∃ k : Nat, q + j = k := ⟨(q + j).toNat, by omega⟩
            obtain ⟨g, cap, ev, hg, hgl, -⟩ := Own.form (e := 5) hown hml (by omega)
            simp only [Value.slice.injEq, true_and] at ev
            obtain ⟨rfl, rfl⟩ := ev
            have HA := Lib.hid (refBit_is (some ⟨g, 0, none⟩) nn cv k _ wr (hown.byl hmb hml) hn (by omega))
            have q2 := hown.cell hml (j := k / 8) (by omega)
            have q3 := hown.free hml (k / 8)
            have hy := hmb.at (i := k / 8) (by omega)
            have hS := hown.set hml (k / 8) (x8 (byAt (flipTo q l (onesTo x j)) (k / 8)) (128 / 2 ^ (k % 8)))
            have E := Lib.hid (show flipTo q l (onesTo x (j + 1)) = (flipTo q l (onesTo x j)).set (k / 8) (x8 (byAt (flipTo q l (onesTo x j)) (k / 8)) (128 / 2 ^ (k % 8))) by
              rw [onesTo_yes hone, flipTo_snoc]; unfold flip1; rw [if_pos (by rw [hml]; exact hin), hk, Int.toNat_natCast]; rfl)
            have ht := tog hy.1 hy.2 (r := k % 8) (by omega)
            have hby := @btI_yes (flipTo q l (onesTo x j)) k (by omega)
            have hbn := @btI_no (flipTo q l (onesTo x j)) k (by omega)
            have htw := tw_bd (k := 7 - k % 8) (by omega)
            have HS := Lib.hid hS
            have Hb1 := Lib.hid (hb.setCell (p := ⟨g, k / 8, none⟩) hg (.int .u8 (x8 (byAt (flipTo q l (onesTo x j)) (k / 8)) (128 / 2 ^ (k % 8)))))
            have k1 : 0 ≤ q + j := by omega
            have k2 : (k : Int) < 8 * nn := by omega
            have k3 : (k : Int) / 8 < nn := by omega
            have hk' := Lib.hid hk
            clear hown hb hno hml hmb hhi hin hS hgl hk
            generalize flipTo q l (onesTo x j) = M at *
            generalize byAt M (k / 8) = y at *
            generalize dbl x j = z at *
            have hk := hk'.out
            have HT := Lib.hid ht
            have HY := Lib.hid (And.intro hby hbn)
            clear ht hby hbn
            go_wp2
            go_loopw [12, 13] (fun m t wr' => wr' = wr ∧ ∃ s : Nat, k % 8 ≤ s ∧ s ≤ 7 ∧ t = .int .i64 s ∧ m = .int .u8 (tw (s - k % 8))) (fun _ t _ => (7 - intOf t).toNat)
            case atStart => exact ⟨rfl, k % 8, by omega, by omega, by go_num, by simp [tw]⟩
            case round =>
              obtain ⟨rfl, s, hs1, hs2, rfl, rfl⟩ := hrel
              by_cases hs3 : s < 7
              · have hs4 : (s : Int) < 7 := by omega
                have b1 := tw_bd (k := s - k % 8) (by omega)
                have b2 := tw_bd6 (k := s - k % 8) (by omega)
                have HW := Lib.hid (show 2 * tw (s - k % 8) = tw (s + 1 - k % 8) by rw [← tw_succ]; congr 1; omega)
                generalize tw (s - k % 8) = t at *
                go_wp2
                go_roundw
                case rel => exact ⟨trivial, s + 1, by omega, by omega, by go_num, by rw [← HW.out]⟩
                case measure => simp [intOf]; omega
              · obtain rfl : s = 7 := by omega
                cases hb8 : bitOf y (k % 8) with
                | true =>
                  obtain ⟨t1, t2⟩ := HT.out.1 hb8
                  have t3 := HY.out.1 hb8
                  have HX := Lib.hid t1
                  clear hb8 t1
                  generalize tw (7 - k % 8) = t at *
                  go_wp2_with (go_at_call 15; (with_reducible refine HA.out.mono ?_); rintro e w2 ⟨rfl, rfl⟩)
                  go_roundw
                  case rel => exact ⟨j + 1, by omega, by go_num, by rw [← HN.out], by rw [E.out, HX.out]; exact HS.out, by rw [HX.out]; exact Hb1.out⟩
                  case measure => simp [intOf]; omega
                | false =>
                  obtain ⟨t1, t2⟩ := HT.out.2 hb8
                  have t3 := HY.out.2 hb8
                  have HX := Lib.hid t1
                  clear hb8 t1
                  generalize tw (7 - k % 8) = t at *
                  go_wp2_with (go_at_call 15; (with_reducible refine HA.out.mono ?_); rintro e w2 ⟨rfl, rfl⟩)
                  go_roundw
                  case rel => exact ⟨j + 1, by omega, by go_num, by rw [← HN.out], by rw [E.out, HX.out]; exact HS.out, by rw [HX.out]; exact Hb1.out⟩
                  case measure => simp [intOf]; omega
          · have E := Lib.hid (hno (.inr hin))
            have HO1 := Lib.hid hown
            have Hb1 := Lib.hid hb
            have hcase : q + j < 0 ∨ (0 ≤ q + j ∧ 8 * (nn : Int) ≤ q + j) := by omega
            clear hown hb hno hml hmb hhi hin
            generalize dbl x j = z at *
            rcases hcase with h1 | ⟨h1, h2⟩
            all_goals
              go_wp2
              go_roundw
              case rel => exact ⟨j + 1, by omega, by go_num, by rw [← HN.out], by rw [E.out]; exact HO1.out, Hb1.out⟩
              case measure => simp [intOf]; omega
        · have hz2 : dbl x j < 32768 := by
            rcases Int.lt_or_le (dbl x j) 32768 with h | h
            · exact h
            · exact absurd (hhi.1 h) hone
          have E := Lib.hid (hno (.inl hone))
          have HO1 := Lib.hid hown
          have Hb1 := Lib.hid hb
          clear hown hb hno hml hmb hhi
          generalize dbl x j = z at *
          go_wp2
          go_roundw
          case rel => exact ⟨j + 1, by omega, by go_num, by rw [← HN.out], by rw [E.out]; exact HO1.out, Hb1.out⟩
          case measure => simp [intOf]; omega
    · obtain rfl : j = 16 := by omega
      have HO1 := Lib.hid hown
      have Hb1 := Lib.hid hb
      clear hown hb
      go_wp2
      go_ret
      exact ⟨_, rfl, HO1.out, Hb1.out⟩
end Go.Proofs.Ythmndfgafkpgdaa
