/- What package word's functions answer that only reckon: Low, High, Join, Half, Pair. Conditions: the numbers are of the parameters' kinds. -/
import Derived.Test.YtbcfmlcfkihenaaProg
import Derived.Test.YtbcfmlcfkihenaaWordM
import Derived.Handy
import Derived.Lib.Hide
import Derived.Deep.QuietTactic
import Derived.BigQuiet
import Derived.WalkSmall
namespace Go.Proofs.Ytbcfmlcfkihenaa
open Go.RowKit

theorem ret_int {k : IntKind} {a b : Int} (h : a = b) : Ending.returned (.int k a) = .returned (.int k b) := by rw [h]

/-- A call that leaves the world alone, within a region that draws its order. -/
theorem quiet_here {P : Program} {f : FuncId} {args : Array Value} {w : World} {n : Nat} {v : Value}
    (h : Calls P f args (w.drewN n) fun e w' => e = .returned v ∧ w.drewN n = w') : Calls P f args (w.drewN n) fun e w'' => e = .returned v ∧ ∃ m, w'' = w.drewN m :=
  h.mono fun _ _ ⟨he, hm⟩ => ⟨he, n, hm.symm⟩

theorem low_is (x z : Int) (w : World) (h : wrap32 x = z) :
    Calls Try.prog 109 #[.int .i64 x] w fun e w' => e = .returned (.int .i32 z) ∧ w = w' := by
  subst h
  go_enter Try.func109, Try.ntmps109
  go_wp2
  go_ret
  exact ⟨rfl, rfl⟩

theorem high_is (x z : Int) (w : World) (h1 : -9223372036854775808 ≤ x) (h2 : x ≤ 9223372036854775807) (h : x / 4294967296 = z) :
    Calls Try.prog 111 #[.int .i64 x] w fun e w' => e = .returned (.int .i32 z) ∧ w = w' := by
  subst h
  go_enter Try.func111, Try.ntmps111
  go_wp2
  go_ret
  exact ⟨rfl, rfl⟩

theorem half_is (x z : Int) (w : World) (h : wrap16 x = z) :
    Calls Try.prog 118 #[.int .i32 x] w fun e w' => e = .returned (.int .i32 z) ∧ w = w' := by
  subst h
  go_enter Try.func118, Try.ntmps118
  go_wp2
  go_ret
  exact ⟨ret_int (by rw [wrap_i16, IntWalk.wrap32_in _ (by unfold wrap16; omega)]), rfl⟩

end Go.Proofs.Ytbcfmlcfkihenaa
