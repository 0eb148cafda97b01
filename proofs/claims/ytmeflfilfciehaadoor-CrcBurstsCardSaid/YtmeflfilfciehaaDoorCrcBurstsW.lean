/- The walk of the law CrcBursts: it returns true and writes nothing that was there. -/
import Derived.Test.YtmeflfilfciehaaDoorCrcK
import Derived.Test.YtmeflfilfciehaaDoorCrcX
namespace Go.Proofs.YtmeflfilfciehaaDoor.crcBursts
open Go.RowKit Go.ChangeShapes Go.OpenShut

set_option maxHeartbeats 4000000 in
theorem within (a : Option Addr) (n c A : Nat) (x : Int) (l : List Int) (w : World) (hB : By w a n c l) (hn : n ≤ 600) (hA : A ≤ 9223372036854775807) (x1 : 0 < x) (x2 : x < 65536) (hL : FoursLaid w) :
    Calls Tryd.prog 4 #[.slice a n c, .int .i64 A, .int .u16 x] w fun e w' => e = .returned (.bool true) ∧ Below w.heap.size w w' := by
  have hn' : ¬ (600 : Int) < (n : Int) := by omega
  have hA' : ¬ (A : Int) < 0 := by omega
  have hx' : ¬ x = 0 := by omega
  have HB := Lib.hid hB
  have HL := Lib.hid hL
  have H2 := Lib.hid (show (sealOf l).length = n + 2 by rw [sealOf_len, hB.len])
  have HD := Lib.hid (sealOf_bd hB.bd)
  clear hB hL
  go_enter Tryd.func4, Tryd.ntmps4
  go_wp2_with (go_at_call 14; (with_reducible refine (crcSeal_is _ _ _ _ _ HB.out HL.out (by omega)).mono ?_); rintro e w1 ⟨v, rfl, ho, hb1⟩; obtain ⟨g, cp, rfl, hg, hlt, hcp, hcm⟩ := ho.form H2.out (by omega))
  have H1 := Lib.hid hb1
  have Hown := Lib.hid ho
  clear ho hb1
  go_wp2
  go_loopw [8, 9] (fun t i wr => ∃ k : Nat, k ≤ 16 ∧ i = .int .i64 k ∧ t = .bool (anyTo x A (n + 2) k) ∧ Own wr w.heap.size 5 (.slice (some ⟨g, 0, none⟩) (n + 2) cp) (turnedTo x A (sealOf l) k) ∧ Below w.heap.size w wr) (fun _ i _ => 16 - (intOf i).toNat)
  case atStart => exact ⟨0, by omega, rfl, rfl, Hown.out, H1.out⟩
  case round =>
    obtain ⟨i, hi, rfl, rfl, hown, hb⟩ := hrel
    by_cases hlt : i < 16
    · have hlt' : (i : Int) < 16 := by omega
      have eb := xb_walk (x := x) i
      have Hb := Lib.hid hb
      have hlen := (turnedTo_len x A (sealOf l) i).trans H2.out
      have hs2 := H2.out
      by_cases ht : turns x A (n + 2) i
      · have E1 := Lib.hid (anyTo_yes ht)
        have E2 := Lib.hid (turnedTo_yes (x := x) (A := A) (l := sealOf l) (i := i) (by rw [hs2]; exact ht))
        have hx1 := ht.1
        have hlim := ht.2
        have hj : (A + i) / 8 < n + 2 := by omega
        have hc := hown.cell hlen hj
        have hf := hown.free hlen ((A + i) / 8)
        have hset := hown.set hlen ((A + i) / 8) (x8 (byAt (turnedTo x A (sealOf l) i) ((A + i) / 8)) (128 / 2 ^ ((A + i) % 8)))
        have e8 := @bits_u8_xor (byAt (turnedTo x A (sealOf l) i) ((A + i) / 8)) (128 / 2 ^ ((A + i) % 8))
        have Hset := Lib.hid (show Own _ _ _ _ (turnAt (turnedTo x A (sealOf l) i) (A + i)) from hset)
        have hbit : (xb x i == 1) = true := by rw [hx1]; rfl
        clear ht hs2 hset hown hb hx1 hlen
        generalize xb x i = xi at *
        generalize byAt (turnedTo x A (sealOf l) i) ((A + i) / 8) = y at *
        have k1 : (A : Int) + i ≤ 9223372036854775807 := by omega
        have k2 : ((A : Int) + i) / 8 < (n : Int) + 2 := by omega
        go_wp2
        go_roundw
        case rel => exact ⟨i + 1, by omega, by go_num, by rw [E1.out], by rw [E2.out]; exact Hset.out, Hb.out.setCell (p := ⟨g, (A + i) / 8, none⟩) hg _⟩
        case measure => simp [intOf]; omega
      · have E1 := Lib.hid (anyTo_no ht)
        have E2 := Lib.hid (turnedTo_no (x := x) (A := A) (l := sealOf l) (i := i) (by rw [hs2]; exact ht))
        have Ho := Lib.hid hown
        have hcase : xb x i ≠ 1 ∨ xb x i = 1 ∧ (9223372036854775807 < (A : Int) + i ∨ ((A : Int) + i ≤ 9223372036854775807 ∧ ¬ ((A : Int) + i) / 8 < (n : Int) + 2)) := by
          unfold turns at ht
          by_cases h : xb x i = 1
          · have : ¬ A + i < 8 * (n + 2) := fun h' => ht ⟨h, h'⟩
            refine .inr ⟨h, ?_⟩
            omega
          · exact .inl h
        clear ht hs2 hown hb hlen
        generalize xb x i = xi at *
        rcases hcase with h1 | ⟨h1, h2 | ⟨h2, h3⟩⟩
        · have hbit : (xi == 1) = false := by simpa using h1
          clear h1
          go_wp2
          go_roundw
          case rel => exact ⟨i + 1, by omega, by go_num, by rw [E1.out], by rw [E2.out]; exact Ho.out, Hb.out⟩
          case measure => simp [intOf]; omega
        · have hbit : (xi == 1) = true := by rw [h1]; rfl
          have hw : wrap64 ((A : Int) + i) = (A : Int) + i - 18446744073709551616 := by unfold wrap64; omega
          clear h1
          go_wp2
          go_roundw
          case rel => exact ⟨i + 1, by omega, by go_num, by rw [E1.out], by rw [E2.out]; exact Ho.out, Hb.out⟩
          case measure => simp [intOf]; omega
        · have hbit : (xi == 1) = true := by rw [h1]; rfl
          clear h1
          go_wp2
          go_roundw
          case rel => exact ⟨i + 1, by omega, by go_num, by rw [E1.out], by rw [E2.out]; exact Ho.out, Hb.out⟩
          case measure => simp [intOf]; omega
    · obtain rfl : i = 16 := by omega
      have HO := openOf_turned l x A
      rw [H2.out] at HO
      have hbd := turnedTo_bd x A HD.out 16
      have hlen := (turnedTo_len x A (sealOf l) 16).trans H2.out
      obtain ⟨a5, c5, e5, hB5⟩ := hown.by hbd
      rw [hlen] at e5 hB5
      obtain ⟨rfl, rfl⟩ : a5 = some ⟨g, 0, none⟩ ∧ c5 = cp := by simpa [eq_comm] using e5
      have HB5 := Lib.hid hB5
      have HL5 := Lib.hid (HL.out.below hb HL.out.lt)
      have Hb := Lib.hid hb
      have hz := hb.size
      clear e5 hB5 hown hbd hlen
      cases hany : anyTo x A (n + 2) 16 with
      | false =>
        rw [hany] at HO
        have HO' := Lib.hid (show openOf (turnedTo x A (sealOf l) 16) = (l, 0) from HO)
        have hd := Lib.hid HB.out.bd
        have hl := Lib.hid HB.out.len
        have q0 := str_run (HB.out.keep hb (Nat.le_refl _))
        clear hany HO hb
        go_wp2_with (first
          | (go_at_call 8; (with_reducible refine (crcOpen_to HO'.out HB5.out HL5.out (by omega) hd.out).mono ?_); rintro e w4 ⟨a6, c6, rfl, hB6, hb6⟩; have q1 := str_run hB6; have q2 := str_run (HB.out.keep (Hb.out.trans (hb6.mono hz)) (Nat.le_refl _)))
          | (go_at_call 7; (with_reducible refine (crcAwake_is _ (HL5.out.below hb6 HL5.out.lt)).mono ?_); rintro e w7 ⟨rfl, hb7⟩))
        go_ret
        exact ⟨rfl, Hb.out.trans ((hb6.trans (hb7.mono hb6.size)).mono hz)⟩
      | true =>
        rw [hany] at HO
        have HO' := Lib.hid (show openOf (turnedTo x A (sealOf l) 16) = ([], 7) from HO)
        clear hany HO hb
        go_wp2_with (first
          | (go_at_call 8; (with_reducible refine (crcOpen_to HO'.out HB5.out HL5.out (by omega) Bd8.nil).mono ?_); rintro e w4 ⟨a6, c6, rfl, hB6, hb6⟩)
          | (go_at_call 7; (with_reducible refine (crcAwake_is _ (HL5.out.below hb6 HL5.out.lt)).mono ?_); rintro e w7 ⟨rfl, hb7⟩))
        go_ret
        exact ⟨rfl, Hb.out.trans ((hb6.trans (hb7.mono hb6.size)).mono hz)⟩

set_option maxHeartbeats 1000000 in
theorem walk (a0 : Option Addr) (len0 cap0 : Nat) (z0 : List Int) (a1 : Int) (a2 : Int) (w : World) (w0 : IsRow .u8 w a0 len0 cap0 z0) (w1 : (Lit.int .i64 a1).wf = true) (w2 : (Lit.int .u16 a2).wf = true) (hL : FoursLaid w) :
    Calls Tryd.prog 4 #[.slice a0 len0 cap0, .int .i64 a1, .int .u16 a2] w fun e w' => e = .returned (.bool true) ∧ Below w.heap.size w w' := by
  have hB := By.of_row w0
  obtain ⟨b1, b2⟩ := bounds_i64 w1
  obtain ⟨b3, b4⟩ : 0 ≤ a2 ∧ a2 < 65536 := by
    simp [Lit.wf, IntKind.min, IntKind.max, IntKind.bits, IntKind.signed] at w2
    omega
  by_cases h : len0 ≤ 600 ∧ 0 ≤ a1 ∧ a2 ≠ 0
  · obtain ⟨h1, h2, h3⟩ := h
    obtain ⟨A, rfl⟩ : ∃ A : Nat, a1 = A := ⟨a1.toNat, by omega⟩
    exact within a0 len0 cap0 A a2 _ w hB h1 (by omega) (by omega) b4 hL
  · have q1 := hB.big
    have q2 := hB.cap
    unfold maxLen at q1
    have HL := Lib.hid hL
    have h' : (600 : Int) < (len0 : Int) ∨ (len0 : Int) ≤ 600 ∧ (a1 < 0 ∨ 0 ≤ a1 ∧ (a2 == 0) = true) := by
      by_cases h0 : a2 = 0
      · have g : (600 : Int) < (len0 : Int) ∨ (len0 : Int) ≤ 600 ∧ (a1 < 0 ∨ 0 ≤ a1) := by omega
        exact g.imp id fun ⟨x, y⟩ => ⟨x, y.imp id fun z => ⟨z, by rw [h0]; rfl⟩⟩
      · have g : (600 : Int) < (len0 : Int) ∨ (len0 : Int) ≤ 600 ∧ a1 < 0 := by omega
        exact g.imp id fun ⟨x, y⟩ => ⟨x, .inl y⟩
    clear w0 w1 w2 hB h hL
    rcases h' with h1 | ⟨h1, h2 | ⟨h2, h3⟩⟩
    all_goals
      go_enter Tryd.func4, Tryd.ntmps4
      go_wp2_with (go_at_call 7; (with_reducible refine (crcAwake_is _ HL.out).mono ?_); rintro e w5 ⟨rfl, hb5⟩)
      go_ret
      exact ⟨rfl, hb5⟩
end Go.Proofs.YtmeflfilfciehaaDoor.crcBursts
