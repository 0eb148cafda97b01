/- What package word's Bytes answers, and the page's examples. -/
import Derived.Test.YtaeogbkiegmmjaaWordF
namespace Go.Proofs.Ytaeogbkiegmmjaa
open Go.RowKit

theorem bytes_is (x : Int) (w : World) :
    Calls Try.prog 16 #[.int .i32 x] w fun e w' => e = .returned (.slice (some ⟨w.heap.size, 0, none⟩) 4 4) ∧
      w.alloc (.cells #[.int .u8 (x / 16777216 % 256), .int .u8 (x / 65536 % 256), .int .u8 (x / 256 % 256), .int .u8 (x % 256)] 41) = w' := by
  go_enter Try.func16, Try.ntmps16
  go_wp2
  go_rounds 5
  go_ret
  exact ⟨rfl, rfl⟩

theorem bytes_cell (x : Int) (w : World) (i : Nat) (hi : i < 4) :
    (w.alloc (.cells #[.int .u8 (x / 16777216 % 256), .int .u8 (x / 65536 % 256), .int .u8 (x / 256 % 256), .int .u8 (x % 256)] 41)).cell? ⟨w.heap.size, 0 + i, none⟩ = some (.int .u8 (byt x i)) := by
  obtain rfl | rfl | rfl | rfl : i = 0 ∨ i = 1 ∨ i = 2 ∨ i = 3 := by omega
  all_goals (simp only [byt]; go_cell)

theorem awake_is (w : World) :
    Calls Try.prog 20 #[] w fun e w' => e = .returned (.bool true) ∧ Below w.heap.size w w' := by
  have e1 : wrap32 2147483648 = -2147483648 := by unfold wrap32; decide
  have e2 : bits .or .i32 65280 254 = 65534 := by decide
  have e3 : IntKind.i16.wrap 65534 = -2 := by decide
  have e4 : IntKind.i16.wrap 65535 = -1 := by decide
  go_enter Try.func20, Try.ntmps20
  go_wp2
  go_rounds 5
  go_ret
  exact ⟨rfl, (Below.refl _ _).alloc (Nat.le_refl _) _⟩
end Go.Proofs.Ytaeogbkiegmmjaa
