/- The walk of the law WordJoins: it returns true and writes nothing that was there. -/
import Derived.Test.YtaeogbkiegmmjaaWordB
namespace Go.Proofs.Ytaeogbkiegmmjaa.wordJoins
open Go.RowKit Go.ChangeShapes Go.OpenShut

theorem walk (a0 : Int) (a1 : Int) (a2 : Int) (w0 : (Lit.int .i64 a0).wf = true) (w1 : (Lit.int .i32 a1).wf = true) (w2 : (Lit.int .i32 a2).wf = true) (w : World) :
    Calls Try.prog 4 #[.int .i64 a0, .int .i32 a1, .int .i32 a2] w fun e w' => e = .returned (.bool true) ∧ Below w.heap.size w w' := by
  obtain ⟨b1, b2⟩ := bounds_i64 w0
  obtain ⟨b3, b4⟩ := bounds_i32 w1
  obtain ⟨b5, b6⟩ := bounds_i32 w2
  have f1 := fun w => join_is a1 a2 (a1 * 4294967296 + a2 % 4294967296) w b3 b4 rfl
  have f2 := fun w => join_is (a0 / 4294967296) (wrap32 a0) a0 w (by omega) (by omega) (by unfold wrap32; omega)
  have f3 := fun w => join_is (a1 / 2147483648) a1 a1 w (by omega) (by omega) (by omega)
  have f4 := fun w => high_is a0 _ w b1 b2 rfl
  have f5 := fun w => high_is (a1 * 4294967296 + a2 % 4294967296) a1 w (by omega) (by omega) (by omega)
  have f6 := fun w => low_is a0 _ w rfl
  have f7 := fun w => low_is (a1 * 4294967296 + a2 % 4294967296) a2 w (by unfold wrap32; omega)
  go_enter Try.func4, Try.ntmps4
  go_wp2_with (first
    | (go_at_call 12; (first | (with_reducible refine (f1 _).mono ?_) | (with_reducible refine (f2 _).mono ?_) | (with_reducible refine (f3 _).mono ?_)); rintro e w' ⟨rfl, rfl⟩)
    | (go_at_call 10; (first | (with_reducible refine (f4 _).mono ?_) | (with_reducible refine (f5 _).mono ?_)); rintro e w' ⟨rfl, rfl⟩)
    | (go_at_call 8; (first | (with_reducible refine (f6 _).mono ?_) | (with_reducible refine (f7 _).mono ?_)); rintro e w' ⟨rfl, rfl⟩)
    | (go_at_call 20; refine (awake_is _).mono ?_; rintro e w' ⟨rfl, hb⟩))
  go_ret
  exact ⟨rfl, hb⟩
end Go.Proofs.Ytaeogbkiegmmjaa.wordJoins
