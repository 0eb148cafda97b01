/- The walk of the law CrcNought: it returns true and writes nothing that was there. -/
import Derived.Test.YtmeflfilfciehaaDoorCrcK
namespace Go.Proofs.YtmeflfilfciehaaDoor.crcNought
open Go.RowKit Go.ChangeShapes Go.OpenShut

set_option maxHeartbeats 4000000 in
theorem within (a a' : Option Addr) (n c n' c' : Nat) (l m : List Int) (w : World) (hA : By w a n c l) (hB : By w a' n' c' m) (hn : n ≤ 600) (hn' : n' ≤ 600) (hL : FoursLaid w) :
    Calls Tryd.prog 5 #[.slice a n c, .slice a' n' c'] w fun e w' => e = .returned (.bool true) ∧ Below w.heap.size w w' := by
  obtain ⟨i0, hi, hz0, hz1, hz2⟩ := info_parts infoU8
  have h1 : ¬ (600 : Int) < (n : Int) := by omega
  have h2 : ¬ (600 : Int) < (n' : Int) := by omega
  have g1 : decide ((600 : Int) < (n : Int)) = false := decide_eq_false h1
  have HA := Lib.hid hA
  have HB := Lib.hid hB
  have HL := Lib.hid hL
  have HE := Lib.hid (show wOn 65535 l = wOn (wOn 65535 l) (m.take 0) from rfl)
  have B0 := wOn_bd (c := 65535) (by decide) (by decide) l
  have HZ := Lib.hid (wOn_seal l)
  clear hA hB hL
  go_enter Tryd.func5, Tryd.ntmps5
  go_wp2_with (go_at_call 12; (with_reducible refine (crcOf_to HE.out HA.out HL.out).mono ?_); rintro e w1 ⟨rfl, hb1⟩)
  have HB1 := Lib.hid (HB.out.keep hb1 (Nat.le_refl _))
  have HL1 := Lib.hid (HL.out.below hb1 HL.out.lt)
  go_loop [5, 6] (fun s i => ∃ k : Nat, k ≤ n' ∧ i = .int .i64 k ∧ s = .int .i32 (wOn (wOn 65535 l) (m.take k))) (fun _ i => n' - (intOf i).toNat)
  case atStart => exact ⟨0, by omega, rfl, rfl⟩
  case round =>
    obtain ⟨k, hk, rfl, rfl⟩ := hrel
    have Bk := wOn_bd B0.1 B0.2 (m.take k)
    have Hl := HB.out.len
    by_cases hlt : k < n'
    · have hx := HB.out.bd.at (i := k) (by omega)
      obtain ⟨b, off, rfl, hcs⟩ := HB1.out.lie (by omega)
      have hxc := hcs k hlt
      have HS := Lib.hid (wOn_snoc (c := wOn 65535 l) (l := m) (k := k) (by omega))
      clear hcs Hl
      generalize byAt m k = x at *
      generalize wOn (wOn 65535 l) (m.take k) = s at *
      go_wp2_with (go_at_call 10; (with_reducible refine (crcStep_is s x _ _ hx.1 hx.2 HL1.out HS.out.symm).mono ?_); rintro e w2 ⟨rfl, rfl⟩)
      go_round
      case rel => exact ⟨k + 1, by omega, by go_num, rfl⟩
      case measure => simp [intOf]; omega
    · obtain rfl : k = n' := by omega
      have HT := Lib.hid (show wOn 65535 ([] ++ l ++ m) = wOn (wOn 65535 l) (m.take k) by rw [List.nil_append, wOn_append, List.take_of_length_le (by omega)])
      have Hll := Lib.hid HA.out.len
      have Hlm := Lib.hid Hl
      clear Hl
      generalize wOn (wOn 65535 l) (m.take k) = s at *
      go_wp2_with (first
        | (go_at_call 14; (with_reducible refine (crcSeal_to (HA.out.keep hb1 (Nat.le_refl _)) HL1.out (by omega)).mono ?_); rintro e w2 ⟨a2, c2, rfl, hB2, hb2⟩; have HB2 := Lib.hid hB2; have hb12 := hb1.trans (hb2.mono hb1.size); clear hB2)
        | (go_at_call 12; (with_reducible refine (crcOf_to HZ.out HB2.out (HL.out.below hb12 HL.out.lt)).mono ?_); rintro e w3 ⟨rfl, hb3⟩; have hb := hb12.trans (hb3.mono hb12.size); have hS := hb.size)
        | (at_builtin; refine wpList_append_by rfl _ _ 22 rfl w.heap.size 5 i0 (.int .u8 0) Tryd.underlying22 hi hz0 hz1 hz2 rfl rfl (Own.lit _ 5 hS [] (by unfold maxLen; simp) #[] rfl) rfl (HA.out.keep (hb.alloc hS _) (Nat.le_refl _)) (by simp; omega) (by simp; omega) (hb.alloc hS _) ?_; intro v' w4 ho4 hb' hS')
        | (at_builtin; refine wpList_append_by rfl _ _ 22 rfl w.heap.size 5 i0 (.int .u8 0) Tryd.underlying22 hi hz0 hz1 hz2 rfl rfl (ho4) rfl (HB.out.keep hb' (Nat.le_refl _)) (by simp [Hll.out]; omega) (hS') (hb') ?_; intro v' w5 ho5 hb' hS'; obtain ⟨a5, n5, c5, rfl, h5, hB5⟩ := ho5.byn ((Bd8.nil.append HA.out.bd).append HB.out.bd); clear h5)
        | (go_at_call 12; (with_reducible refine (crcOf_to HT.out hB5 (HL.out.below hb' HL.out.lt)).mono ?_); rintro e w6 ⟨rfl, hb6⟩; have hb7 := hb'.trans (hb6.mono hS'))
        | (go_at_call 7; (with_reducible refine (crcAwake_is _ (HL.out.below hb7 HL.out.lt)).mono ?_); rintro e w8 ⟨rfl, hb8⟩))
      go_ret
      exact ⟨rfl, hb7.trans (hb8.mono hb7.size)⟩

set_option maxHeartbeats 1000000 in
theorem walk (a0 : Option Addr) (len0 cap0 : Nat) (z0 : List Int) (a1 : Option Addr) (len1 cap1 : Nat) (z1 : List Int) (w : World) (w0 : IsRow .u8 w a0 len0 cap0 z0) (w1 : IsRow .u8 w a1 len1 cap1 z1) (hL : FoursLaid w) :
    Calls Tryd.prog 5 #[.slice a0 len0 cap0, .slice a1 len1 cap1] w fun e w' => e = .returned (.bool true) ∧ Below w.heap.size w w' := by
  have hA := By.of_row w0
  have hB := By.of_row w1
  by_cases h : len0 ≤ 600 ∧ len1 ≤ 600
  · exact within a0 a1 len0 cap0 len1 cap1 _ _ w hA hB h.1 h.2 hL
  · have q1 := hA.big
    have q2 := hA.cap
    have q3 := hB.big
    have q4 := hB.cap
    unfold maxLen at q1 q3
    have HL := Lib.hid hL
    have h' : (600 : Int) < (len0 : Int) ∨ (len0 : Int) ≤ 600 ∧ (600 : Int) < (len1 : Int) := by omega
    clear w0 w1 hA hB h hL
    rcases h' with h1 | ⟨h1, h2⟩
    all_goals
      go_enter Tryd.func5, Tryd.ntmps5
      go_wp2_with (go_at_call 7; (with_reducible refine (crcAwake_is _ HL.out).mono ?_); rintro e w5 ⟨rfl, hb5⟩)
      go_ret
      exact ⟨rfl, hb5⟩
end Go.Proofs.YtmeflfilfciehaaDoor.crcNought
