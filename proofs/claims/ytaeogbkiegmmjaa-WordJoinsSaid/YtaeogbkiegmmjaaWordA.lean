/- What package word's functions answer that only reckon: Low, High, Join, Half, Pair. Conditions: the numbers are of the parameters' kinds. -/
import Derived.Test.YtaeogbkiegmmjaaProg
import Derived.Test.YtaeogbkiegmmjaaWordM
import Derived.Handy
import Derived.Lib.Hide
import Derived.Deep.QuietTactic
import Derived.BigQuiet
import Derived.WalkSmall
namespace Go.Proofs.Ytaeogbkiegmmjaa
open Go.RowKit

theorem ret_int {k : IntKind} {a b : Int} (h : a = b) : Ending.returned (.int k a) = .returned (.int k b) := by rw [h]

/-- A call that leaves the world alone, within a region that draws its order. -/
theorem quiet_here {P : Program} {f : FuncId} {args : Array Value} {w : World} {n : Nat} {v : Value}
    (h : Calls P f args (w.drewN n) fun e w' => e = .returned v ∧ w.drewN n = w') : Calls P f args (w.drewN n) fun e w'' => e = .returned v ∧ ∃ m, w'' = w.drewN m :=
  h.mono fun _ _ ⟨he, hm⟩ => ⟨he, n, hm.symm⟩

theorem low_is (x z : Int) (w : World) (h : wrap32 x = z) :
    Calls Try.prog 8 #[.int .i64 x] w fun e w' => e = .returned (.int .i32 z) ∧ w = w' := by
  subst h
  go_enter Try.func8, Try.ntmps8
  go_wp2
  go_ret
  exact ⟨rfl, rfl⟩

theorem high_is (x z : Int) (w : World) (h1 : -9223372036854775808 ≤ x) (h2 : x ≤ 9223372036854775807) (h : x / 4294967296 = z) :
    Calls Try.prog 10 #[.int .i64 x] w fun e w' => e = .returned (.int .i32 z) ∧ w = w' := by
  subst h
  go_enter Try.func10, Try.ntmps10
  go_wp2
  go_ret
  exact ⟨rfl, rfl⟩

theorem join_is (x y z : Int) (w : World) (h1 : -2147483648 ≤ x) (h2 : x ≤ 2147483647) (h : x * 4294967296 + y % 4294967296 = z) :
    Calls Try.prog 12 #[.int .i32 x, .int .i32 y] w fun e w' => e = .returned (.int .i64 z) ∧ w = w' := by
  subst h
  go_enter Try.func12, Try.ntmps12
  go_wp2
  go_ret
  exact ⟨ret_int (by rw [or_i64_32 _ _ ⟨h1, h2⟩ (by omega)]), rfl⟩

theorem half_is (x z : Int) (w : World) (h : wrap16 x = z) :
    Calls Try.prog 14 #[.int .i32 x] w fun e w' => e = .returned (.int .i32 z) ∧ w = w' := by
  subst h
  go_enter Try.func14, Try.ntmps14
  go_wp2
  go_ret
  exact ⟨ret_int (by rw [wrap_i16, IntWalk.wrap32_in _ (by unfold wrap16; omega)]), rfl⟩

theorem pair_is (x y z : Int) (w : World) (h1 : 0 ≤ x) (h2 : x ≤ 255) (h3 : 0 ≤ y) (h4 : y ≤ 255) (h : wrap16 (x * 256 + y) = z) :
    Calls Try.prog 18 #[.int .u8 x, .int .u8 y] w fun e w' => e = .returned (.int .i32 z) ∧ w = w' := by
  subst h
  go_enter Try.func18, Try.ntmps18
  go_wp2_with (go_at_call 14; refine (half_is _ (wrap16 (x * 256 + y)) _ ?_).mono ?_; · rw [or_i32_8 _ _ (by omega) (by omega)])
  rintro e w' ⟨rfl, rfl⟩
  go_wp2
  go_ret
  exact ⟨rfl, rfl⟩
end Go.Proofs.Ytaeogbkiegmmjaa
