/- What package crc's functions answer. Conditions: the package's table lies as the program's text has it; the slices' cells are bytes. -/
import Derived.Test.YtochnjbacglhbaaDoorProg
import Derived.Test.YtochnjbacglhbaaDoorCrcL
import Derived.Test.YtochnjbacglhbaaDoorBysA
import Derived.Handy
import Derived.Lib.Hide
import Derived.Deep.QuietTactic
import Derived.BigQuiet
import Derived.WalkSmall
import Derived.WalkSpells
import Derived.RegionTactic
import Derived.ChangeAlike
import Derived.PlainAid
import Derived.Outline
namespace Go.Proofs.YtochnjbacglhbaaDoor
open Go.RowKit

def foursT : Array Value := ((List.range 16).map fun i => Value.int .u16 (crcFour i)).toArray
/-- Package crc's table lies in w as the program's text has it. -/
def FoursLaid (w : World) : Prop := ∃ ty, w.heap[0]? = some (.cells foursT ty (0, 0))
theorem FoursLaid.below {w0 w : World} {B : Nat} (h : FoursLaid w0) (hb : Below B w0 w) (hB : 0 < B) : FoursLaid w := by
  obtain ⟨t2, h2⟩ := h
  exact ⟨t2, by rw [hb.block _ hB]; exact h2⟩
theorem FoursLaid.lt {w : World} (h : FoursLaid w) : 0 < w.heap.size := by
  obtain ⟨t2, h2⟩ := h
  exact (Array.getElem?_eq_some_iff.1 h2).1
theorem FoursLaid.cell {w : World} (h : FoursLaid w) (i : Nat) (hi : i < 16) : w.cell? ⟨0, i, none⟩ = some (.int .u16 (crcFour i)) := by
  obtain ⟨t2, h2⟩ := h
  rw [cell_of_row _ _ _ _ _ _ h2]
  simp [foursT, hi]

theorem crcHalf_is (s z : Int) (w : World) (h1 : 0 ≤ s) (h2 : s < 65536) (hL : FoursLaid w) (hz : wHalf s = z) :
    Calls Tryd.prog 63 #[.int .u16 s] w fun e w' => e = .returned (.int .u16 z) ∧ w = w' := by
  subst hz
  obtain ⟨s, rfl⟩ : ∃ n : Nat, s = n := ⟨s.toNat, by omega⟩
  have hs : s < 65536 := by omega
  have hc := hL.cell (s / 4096) (by omega)
  have E := Lib.hid (half_walk hs)
  clear hL
  go_enter Tryd.func63, Tryd.ntmps63
  go_wp2
  go_ret
  exact ⟨retI E.out, rfl⟩

theorem crcStep_is (c b z : Int) (w : World) (h1 : 0 ≤ b) (h2 : b ≤ 255) (hL : FoursLaid w) (hz : wCt c b = z) :
    Calls Tryd.prog 61 #[.int .i32 c, .int .u8 b] w fun e w' => e = .returned (.int .i32 z) ∧ w = w' := by
  have E := ct_half (c := c) h1 h2
  have B1 := wXr_bd (c % 65536) (256 * b)
  have h0 := step_walk (c := c) (b := b)
  generalize wXr (c % 65536) (256 * b) = s0 at *
  obtain ⟨s1, hs1⟩ : ∃ s1, wHalf s0 = s1 := ⟨_, rfl⟩
  have B2 := wHalf_bd s0
  rw [hs1] at E B2
  obtain ⟨s2, hs2⟩ : ∃ s2, wHalf s1 = s2 := ⟨_, rfl⟩
  have B3 := wHalf_bd s1
  rw [hs2] at E B3
  obtain rfl : s2 = z := E.trans hz
  have H1 := Lib.hid hs1
  have H2 := Lib.hid hs2
  have HL := Lib.hid hL
  clear hL hs1 hs2 E hz
  go_enter Tryd.func61, Tryd.ntmps61
  go_wp2_with (first
    | (go_at_call 63; (with_reducible refine (crcHalf_is s0 s1 _ B1.1 B1.2 HL.out H1.out).mono ?_); rintro e w' ⟨rfl, rfl⟩)
    | (go_at_call 63; (with_reducible refine (crcHalf_is s1 s2 _ B2.1 B2.2 HL.out H2.out).mono ?_); rintro e w' ⟨rfl, rfl⟩))
  go_ret
  exact ⟨rfl, rfl⟩

/-- Where a summing stands: behind k bytes. -/
structure SumAt (w : World) (g : Nat) (c : Int) (l : List Int) (k : Nat) (wr : World) : Prop where
  cell : wr.cell? ⟨g, 0, none⟩ = some (.int .i32 (wOn c (l.take k)))
  free : wr.frozen? ⟨g, 0, none⟩ = false
  below : Below g w wr

set_option maxHeartbeats 1000000 in
theorem crcSum_is (a : Option Addr) (n c g : Nat) (c0 : Int) (l : List Int) (w : World) (hB : By w a n c l) (ha : 0 < n → ∀ b off, a = some ⟨b, off, none⟩ → b < g) (h1 : 0 ≤ c0) (h2 : c0 < 65536) (hL : FoursLaid w) (hg : 0 < g)
    (hc : w.cell? ⟨g, 0, none⟩ = some (.int .i32 c0)) (hf : w.frozen? ⟨g, 0, none⟩ = false) :
    Calls Tryd.prog 60 #[.slice a n c, .pointer (some ⟨g, 0, none⟩)] w fun e w' => e = .returned (.int .i32 (wOn c0 l)) ∧ Below g w w' := by
  have hn := hB.cap
  have hn2 := hB.big
  unfold maxLen at hn2
  have HB := Lib.hid hB
  have HL := Lib.hid hL
  have S0 := Lib.hid (show SumAt w g c0 l 0 w from ⟨hc, hf, Below.refl _ _⟩)
  clear hB hL hc hf
  go_enter Tryd.func60, Tryd.ntmps60
  go_wp2
  go_loopw [8] (fun i wr => ∃ k : Nat, k ≤ n ∧ i = .int .i64 k ∧ SumAt w g c0 l k wr) (fun i _ => n - (intOf i).toNat)
  case atStart => exact ⟨0, by omega, rfl, S0.out⟩
  case round =>
    obtain ⟨k, hk, rfl, hcell, hfree, hb⟩ := hrel
    have Hl := HB.out.len
    have Bk := wOn_bd h1 h2 (l.take k)
    by_cases hlt : k < n
    · have hx := HB.out.bd.at (i := k) (by omega)
      obtain ⟨b, off, rfl, hcs⟩ := HB.out.lie (by omega)
      have hbg := ha (by omega) b off rfl
      have hxc : wr.cell? ⟨b, off + k, none⟩ = some (.int .u8 (byAt l k)) := (hb.cell (p := ⟨b, off + k, none⟩) hbg).trans (hcs k hlt)
      have HS := Lib.hid (wOn_snoc (c := c0) (l := l) (k := k) (by omega))
      have HLr := Lib.hid (HL.out.below hb hg)
      clear hcs Hl
      generalize byAt l k = x at *
      obtain ⟨s, hs⟩ : ∃ s, wOn c0 (l.take k) = s := ⟨_, rfl⟩
      rw [hs] at hcell Bk
      rw [hs] at HS
      have HC := Lib.hid hcell
      have HF := Lib.hid hfree
      have BB := Lib.hid hb
      clear hs hb
      go_wp2_with (go_at_call 61; (with_reducible refine (crcStep_is s x _ _ hx.1 hx.2 HLr.out rfl).mono ?_); rintro e w' ⟨rfl, rfl⟩)
      go_roundw
      case rel => exact ⟨k + 1, by omega, by go_num, ⟨by rw [HS.out]; exact World.cell?_setCell_same _ _ _ HC.out, by simpa using HF.out, BB.out.setCell (p := ⟨g, 0, none⟩) (Nat.le_refl _) _⟩⟩
      case measure => simp [intOf]; omega
    · obtain rfl : k = n := by omega
      rw [wOn_take (by omega)] at hcell Bk
      have BB := Lib.hid hb
      clear hb
      go_wp2
      go_ret
      exact ⟨rfl, BB.out⟩

theorem crcSumming_is (c : Int) (w : World) :
    Calls Tryd.prog 56 #[.int .i32 c] w fun e w' => e = .returned (.func (.func 60) #[] #[.pointer (some ⟨w.heap.size, 0, none⟩)]) ∧ w.alloc (.cells #[.int .i32 c] 21) = w' := by
  go_enter Tryd.func56, Tryd.ntmps56
  go_wp2
  go_ret
  exact ⟨rfl, rfl⟩

theorem crcOf_is (a : Option Addr) (n c : Nat) (l : List Int) (w : World) (hB : By w a n c l) (hL : FoursLaid w) :
    Calls Tryd.prog 47 #[.slice a n c] w fun e w' => e = .returned (.int .i32 (wOn 65535 l)) ∧ Below w.heap.size w w' := by
  have hb := (Below.refl w.heap.size w).alloc (Nat.le_refl _) (.cells #[.int .i32 65535] 21)
  have HB := Lib.hid (hB.keep hb (Nat.le_refl _))
  have HL := Lib.hid (hL.below hb hL.lt)
  have Hg := hL.lt
  have Hf : (w.alloc (.cells #[.int .i32 65535] 21)).frozen? ⟨w.heap.size, 0, none⟩ = false := by go_cell
  have Hc : (w.alloc (.cells #[.int .i32 65535] 21)).cell? ⟨w.heap.size, 0, none⟩ = some (.int .i32 65535) := by go_cell
  have HF := Lib.hid Hf
  have HC := Lib.hid Hc
  have HA := Lib.hid (hB.lt)
  clear hB hL Hf Hc
  go_enter Tryd.func47, Tryd.ntmps47
  go_wp2_with (first
    | (go_at_call 56; (with_reducible refine (crcSumming_is 65535 _).mono ?_); rintro e w1 ⟨rfl, rfl⟩)
    | (go_at_call 60; (with_reducible refine (crcSum_is a n c w.heap.size 65535 l _ HB.out HA.out (by decide) (by decide) HL.out Hg HC.out HF.out).mono ?_); rintro e w1 ⟨rfl, hb1⟩))
  go_ret
  exact ⟨rfl, hb.trans hb1⟩

theorem crcTail_is (a : Option Addr) (n c : Nat) (l : List Int) (w : World) (hB : By w a n c l) (hL : FoursLaid w) :
    Calls Tryd.prog 35 #[.slice a n c] w fun e w' => RetBy w 2 (tailOf l) e w' := by
  have hc := crcOf_is a n c l w hB hL
  have B := wOn_bd (c := 65535) (by decide) (by decide) l
  have ht := Lib.hid (show tailOf l = [wOn 65535 l / 256, wOn 65535 l % 256] from rfl)
  have hT := Lib.hid (tailOf_bd l)
  have HC := Lib.hid hc
  clear hB hL hc
  generalize wOn 65535 l = s at *
  go_enter Tryd.func35, Tryd.ntmps35
  go_wp2_with (go_at_call 47; (with_reducible refine HC.out.mono ?_); rintro e w1 ⟨rfl, hb⟩)
  go_ret
  refine ⟨_, _, rfl, ?_, hb.alloc hb.size _⟩
  rw [ht.out]
  exact By.lit w1 5 rfl (by unfold maxLen; simp) (ht.out ▸ hT.out) rfl

set_option maxHeartbeats 1000000 in
theorem crcSeal_is (a : Option Addr) (n c : Nat) (l : List Int) (w : World) (hB : By w a n c l) (hL : FoursLaid w) (hn : n ≤ 140737488355000) :
    Calls Tryd.prog 16 #[.slice a n c] w fun e w' => RetOwn w 5 (sealOf l) e w' := by
  obtain ⟨i0, hi, hz0, hz1, hz2⟩ := info_parts infoU8
  have HB := Lib.hid hB
  have HL := Lib.hid hL
  have Hl := Lib.hid hB.len
  clear hB hL
  go_enter Tryd.func16, Tryd.ntmps16
  go_wp2_with (first
    | (go_at_call 34; (with_reducible refine (bytesClone_is a n c l _ HB.out (by omega)).mono ?_); rintro e w1 ⟨v, rfl, ho, hb1⟩)
    | (go_at_call 35; (with_reducible refine (crcTail_is a n c l _ (HB.out.keep hb1 (Nat.le_refl _)) (HL.out.below hb1 HL.out.lt)).mono ?_); rintro e w2 ⟨a2, c2, rfl, hB2, hb2⟩)
    | (at_builtin; refine wpList_append_by rfl _ _ 28 rfl w.heap.size 5 i0 (.int .u8 0) Tryd.underlying28 hi hz0 hz1 hz2 rfl rfl (ho.below hb2 (Nat.le_refl _)) rfl hB2 (by rw [Hl.out]; omega) (Nat.le_trans hb1.size hb2.size) (hb1.trans (hb2.mono hb1.size)) ?_; intro v' w3 hown hb3 hs3))
  go_ret
  exact ⟨v', rfl, hown, hb3⟩

set_option maxHeartbeats 1000000 in
theorem crcOpen_is (a : Option Addr) (n c : Nat) (l : List Int) (w : World) (hB : By w a n c l) (hL : FoursLaid w) (hn : n ≤ 140737488355000) :
    Calls Tryd.prog 19 #[.slice a n c] w fun e w' => RetOwnE w 5 (openOf l).1 (openOf l).2 e w' := by
  have Hl := hB.len
  by_cases h2 : n < 2
  · have ho := Lib.hid (show openOf l = ([], 4) by unfold openOf; rw [if_pos (by omega)])
    have h2' : (n : Int) - 2 < 0 := by omega
    clear hB hL Hl
    go_enter Tryd.func19, Tryd.ntmps19
    go_wp2
    go_ret2
    rw [ho.out]
    exact retNone w _ 4 (Below.refl _ _)
  · obtain ⟨m, rfl⟩ : ∃ m, n = m + 2 := ⟨n - 2, by omega⟩
    obtain ⟨b, off, rfl, -⟩ := hB.lie (by omega)
    have hcap := hB.cap
    have hbig := hB.big
    unfold maxLen at hbig
    have e0 : l.length - 2 = m := by omega
    have HP := Lib.hid (hB.pre (k := m) (by omega))
    have HQ := Lib.hid (show By w (some ⟨b, off + m, none⟩) 2 (c - m) (l.drop m) by have h := hB.post (k := m) (by omega); rwa [show m + 2 - m = 2 by omega] at h)
    have HL := Lib.hid hL
    clear hB hL
    by_cases hk : okSum l
    · have ho := Lib.hid (show openOf l = (l.take m, 0) by unfold openOf; rw [if_neg (by omega), if_pos hk, e0])
      have hd := Lib.hid (show decide (l.drop m = tailOf (l.take m)) = true by unfold okSum at hk; rw [e0] at hk; exact decide_eq_true hk)
      clear hk e0
      go_enter Tryd.func19, Tryd.ntmps19
      go_wp2
      go_quiet (fail)
      go_wp2_with (first
        | (go_at_call 35; (with_reducible refine (crcTail_is _ _ _ _ _ (HP.out.keep (below_drewN (Below.refl _ _) _) (Nat.le_refl _)) (HL.out.below (below_drewN (Below.refl _ _) _) HL.out.lt)).mono ?_); rintro e w2 ⟨a2, c2, rfl, hB2, hb2⟩; have hb3 : Below w.heap.size w w2 := (below_drewN (Below.refl w.heap.size w) _).trans hb2)
        | (go_at_call 41; (with_reducible refine (bytesEqual_is _ _ _ _ _ _ _ _ true _ (HQ.out.keep hb3 (Nat.le_refl _)) hB2 hd.out).mono ?_); rintro e w3 ⟨rfl, rfl⟩)
        | (go_at_call 34; (with_reducible refine (bytesClone_is _ _ _ _ _ (HP.out.keep hb3 (Nat.le_refl _)) (by omega)).mono ?_); rintro e w4 ⟨v, rfl, ho4, hb4⟩))
      go_ret2
      rw [ho.out]
      exact ⟨v, rfl, ho4.mono hb3.size, hb3.trans (hb4.mono hb3.size)⟩
    · have ho := Lib.hid (show openOf l = ([], 7) by unfold openOf; rw [if_neg (by omega), if_neg hk])
      have hd := Lib.hid (show decide (l.drop m = tailOf (l.take m)) = false by unfold okSum at hk; rw [e0] at hk; exact decide_eq_false hk)
      clear hk e0
      go_enter Tryd.func19, Tryd.ntmps19
      go_wp2
      go_quiet (fail)
      go_wp2_with (first
        | (go_at_call 35; (with_reducible refine (crcTail_is _ _ _ _ _ (HP.out.keep (below_drewN (Below.refl _ _) _) (Nat.le_refl _)) (HL.out.below (below_drewN (Below.refl _ _) _) HL.out.lt)).mono ?_); rintro e w2 ⟨a2, c2, rfl, hB2, hb2⟩; have hb3 : Below w.heap.size w w2 := (below_drewN (Below.refl w.heap.size w) _).trans hb2)
        | (go_at_call 41; (with_reducible refine (bytesEqual_is _ _ _ _ _ _ _ _ false _ (HQ.out.keep hb3 (Nat.le_refl _)) hB2 hd.out).mono ?_); rintro e w3 ⟨rfl, rfl⟩))
      go_ret2
      rw [ho.out]
      exact retNone w _ 7 hb3
end Go.Proofs.YtochnjbacglhbaaDoor
