/- What the document's own plain answers From and Bytes (package astrolaberef01) give. Conditions: the slice's cells are bytes. -/
import Derived.Test.YtaeogbkiegmmjaaRefA
namespace Go.Proofs.Ytaeogbkiegmmjaa
open Go.RowKit

theorem refFrom_short (a : Option Addr) (n c : Nat) (w : World) (h : n < 4) :
    Calls Try.prog 7 #[.slice a n c] w fun e w' => e = .returned (.tuple #[.int .i32 0, .int .i64 4]) ∧ w = w' := by
  have h' : (n : Int) < 4 := by omega
  go_enter Try.func7, Try.ntmps7
  go_wp2
  go_ret2
  exact ⟨rfl, rfl⟩

theorem refFrom_long (a : Option Addr) (n c : Nat) (w : World) (h : 4 < n) :
    Calls Try.prog 7 #[.slice a n c] w fun e w' => e = .returned (.tuple #[.int .i32 0, .int .i64 5]) ∧ w = w' := by
  have h' : (4 : Int) < n := by omega
  have h'' : ¬ (n : Int) < 4 := by omega
  go_enter Try.func7, Try.ntmps7
  go_wp2
  go_ret2
  exact ⟨rfl, rfl⟩

theorem refFrom_four (b off c : Nat) (z : Nat → Int) (v : Int) (w : World) (hv : wrap32 (accN z 4) = v) (hc : ∀ i, i < 4 → w.cell? ⟨b, off + i, none⟩ = some (.int .u8 (z i))) (hz : ∀ i, i < 4 → 0 ≤ z i ∧ z i ≤ 255) :
    Calls Try.prog 7 #[.slice (some ⟨b, off, none⟩) 4 c] w fun e w' => e = .returned (.tuple #[.int .i32 v, .int .i64 0]) ∧ w = w' := by
  subst hv
  have HC := Lib.hid hc
  have HZ := Lib.hid hz
  clear hc hz
  go_enter Try.func7, Try.ntmps7
  go_wp2
  go_loop [4, 5] (fun x i => ∃ k : Nat, k ≤ 4 ∧ i = .int .i64 k ∧ x = .int .i64 (accN z k)) (fun _ i => 4 - (intOf i).toNat)
  case atStart => exact ⟨0, by omega, rfl, rfl⟩
  case round =>
    obtain ⟨k, hk, rfl, rfl⟩ := hrel
    have hn := accN_bd z HZ.out k hk
    by_cases hlt : k < 4
    · have hcell := HC.out k hlt
      have hb := HZ.out k hlt
      have hlt' : (k : Int) < 4 := by omega
      go_wp2
      go_round
      case rel => exact ⟨k + 1, by omega, by go_num, rfl⟩
      case measure => simp [intOf]; omega
    · have : k = 4 := by omega
      subst this
      go_wp2_with (go_at_call 9; refine (refLow_is _ _ _ rfl).mono ?_; rintro e w' ⟨rfl, rfl⟩)
      go_ret2
      exact ⟨rfl, rfl⟩

theorem refBytes_is (x : Int) (w : World) (h1 : -2147483648 ≤ x) (h2 : x ≤ 2147483647) :
    Calls Try.prog 17 #[.int .i32 x] w fun e w' => e = .returned (.slice (some ⟨w.heap.size, 0, none⟩) 4 4) ∧
      w.alloc (.cells #[.int .u8 (x / 16777216 % 256), .int .u8 (x / 65536 % 256), .int .u8 (x / 256 % 256), .int .u8 (x % 256)] 5) = w' := by
  go_enter Try.func17, Try.ntmps17
  go_wp2_with (go_at_call 23; refine (refPlain_is x _ _ rfl (by omega) (by omega)).mono ?_; rintro e w' ⟨rfl, rfl⟩)
  go_ret
  have g1 : x % 4294967296 / 16777216 = x / 16777216 % 256 := by omega
  have g2 : x % 4294967296 / 65536 % 256 = x / 65536 % 256 := by omega
  have g3 : x % 4294967296 / 256 % 256 = x / 256 % 256 := by omega
  exact ⟨rfl, by rw [g1, g2, g3]⟩
end Go.Proofs.Ytaeogbkiegmmjaa
