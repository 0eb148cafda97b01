/- What package word's From answers for a slice of bytes of any length. Conditions: the slice's cells are bytes. -/
import Derived.Test.YtochnjbacglhbaaDoorLayers
namespace Go.Proofs.YtochnjbacglhbaaDoor
open Go.RowKit

theorem from_short (a : Option Addr) (n c : Nat) (w : World) (h : n < 4) :
    Calls Tryd.prog 59 #[.slice a n c] w fun e w' => e = .returned (.tuple #[.int .i32 0, .int .i64 4]) ∧ w = w' := by
  have h' : (n : Int) < 4 := by omega
  go_enter Tryd.func59, Tryd.ntmps59
  go_wp2
  go_ret2
  exact ⟨rfl, rfl⟩

theorem from_long (a : Option Addr) (n c : Nat) (w : World) (h : 4 < n) :
    Calls Tryd.prog 59 #[.slice a n c] w fun e w' => e = .returned (.tuple #[.int .i32 0, .int .i64 5]) ∧ w = w' := by
  have h' : (4 : Int) < n := by omega
  have h'' : ¬ (n : Int) < 4 := by omega
  go_enter Tryd.func59, Tryd.ntmps59
  go_wp2
  go_ret2
  exact ⟨rfl, rfl⟩

theorem from_four (b off c : Nat) (z : Nat → Int) (v : Int) (w : World) (hv : wrap32 (accN z 4) = v) (hc : ∀ i, i < 4 → w.cell? ⟨b, off + i, none⟩ = some (.int .u8 (z i))) (hz : ∀ i, i < 4 → 0 ≤ z i ∧ z i ≤ 255) :
    Calls Tryd.prog 59 #[.slice (some ⟨b, off, none⟩) 4 c] w fun e w' => e = .returned (.tuple #[.int .i32 v, .int .i64 0]) ∧ w = w' := by
  subst hv
  have HC := Lib.hid hc
  have HZ := Lib.hid hz
  clear hc hz
  go_enter Tryd.func59, Tryd.ntmps59
  go_wp2
  go_loop [4, 12] (fun x i => ∃ k : Nat, k ≤ 4 ∧ i = .int .i64 k ∧ x = .int .i32 (accW z k)) (fun _ i => 4 - (intOf i).toNat)
  case atStart => exact ⟨0, by omega, rfl, rfl⟩
  case round =>
    obtain ⟨k, hk, rfl, rfl⟩ := hrel
    by_cases hlt : k < 4
    · have hcell := HC.out k hlt
      have hb := HZ.out k hlt
      have hlt' : (k : Int) < 4 := by omega
      have e := Lib.hid (or_i32_w (accW z k) (z k) hb)
      go_wp2
      go_round
      case rel => exact ⟨k + 1, by omega, by go_num, by rw [e.out]; rfl⟩
      case measure => simp [intOf]; omega
    · have : k = 4 := by omega
      subst this
      go_wp2
      go_ret2
      exact ⟨by rw [accW_eq]; rfl, rfl⟩
end Go.Proofs.YtochnjbacglhbaaDoor
