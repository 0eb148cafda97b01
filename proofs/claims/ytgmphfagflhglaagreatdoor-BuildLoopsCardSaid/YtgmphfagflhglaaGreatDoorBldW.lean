/- The document's Words (astrolaberef21): two lists of words are one. -/
import Derived.Test.YtgmphfagflhglaaGreatDoorLabU
import Derived.StillTailTactics
namespace Go.Proofs.YtgmphfagflhglaaGreatDoor
open Go.RowKit Go.IntWalk

set_option maxRecDepth 100000 in
set_option maxHeartbeats 2000000 in
theorem refBWords_is {a a' : Option Addr} {n c c' : Nat} {l : List Int} {w : World} (h : Ws .u32 w a n c l) (h' : Ws .u32 w a' n c' l) :
    Calls Tryz.prog 35 #[.slice a n c, .slice a' n c'] w fun e w' => e = .returned (.bool true) ∧ Below w.heap.size w w' := by
  have hcap := h.cap
  have hbig := h.big
  have hcap' := h'.cap
  have hbig' := h'.big
  unfold maxLen at hbig hbig'
  have HB := Lib.hid h
  have HB' := Lib.hid h'
  clear h h'
  go_enter Tryz.func35, Tryz.ntmps35
  go_wp2
  go_loopw [5] (fun i wr => ∃ k : Nat, k ≤ n ∧ i = .int .i64 k ∧ Below w.heap.size w wr) (fun i _ => n - (intOf i).toNat)
  case atStart => exact ⟨0, by omega, rfl, Below.refl _ _⟩
  case round =>
    obtain ⟨k, hk, rfl, hb⟩ := hrel
    have Hb := Lib.hid hb
    by_cases hlt : k < n
    · obtain ⟨b, off, rfl, d0⟩ := (HB.out.keep hb).lie (by omega)
      obtain ⟨b', off', rfl, f0⟩ := (HB'.out.keep hb).lie (by omega)
      have d0 := d0 k hlt
      have f0 := f0 k hlt
      have hlt' : (k : Int) < n := by omega
      generalize byAt l k = y at *
      clear hb
      go_wp2
      go_quiet (fail)
      go_wp2
      go_roundw
      case rel => exact ⟨k + 1, by omega, by go_num, ⟨Hb.out.os, Hb.out.tape, Hb.out.output, Hb.out.size, Hb.out.block⟩⟩
      case measure => simp [intOf]; omega
    · obtain rfl : k = n := by omega
      clear hb
      go_wp2
      go_ret
      exact ⟨rfl, Hb.out⟩
end Go.Proofs.YtgmphfagflhglaaGreatDoor
