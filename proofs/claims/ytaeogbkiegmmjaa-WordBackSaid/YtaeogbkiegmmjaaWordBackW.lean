/- The walk of the law WordBack: it returns true and writes nothing that was there. -/
import Derived.Test.YtaeogbkiegmmjaaWordB
namespace Go.Proofs.Ytaeogbkiegmmjaa.wordBack
open Go.RowKit Go.ChangeShapes Go.OpenShut

theorem walk (a0 : Int) (w0 : (Lit.int .i32 a0).wf = true) (w : World) :
    Calls Try.prog 5 #[.int .i32 a0] w fun e w' => e = .returned (.bool true) ∧ Below w.heap.size w w' := by
  obtain ⟨b1, b2⟩ := bounds_i32 w0
  have hv := Lib.hid (byt_word a0 b1 b2)
  have f1 := fun w => pair_is (a0 / 256 % 256) (a0 % 256) (wrap16 a0) w (by omega) (by omega) (by omega) (by omega) (by unfold wrap16; omega)
  have f2 := fun w => pair_is (a0 / 16777216 % 256) (a0 / 65536 % 256) (a0 / 65536) w (by omega) (by omega) (by omega) (by omega) (by unfold wrap16; omega)
  have f3 := fun w => half_is a0 _ w rfl
  have e1 : a0 / 65536 * 65536 + bits .and .i32 (wrap16 a0) 65535 = a0 := by rw [and_i32_16]; unfold wrap16; omega
  go_enter Try.func5, Try.ntmps5
  go_wp2_with (first
    | (go_at_call 16; refine (bytes_is _ _).mono ?_; rintro e w' ⟨rfl, rfl⟩)
    | (go_at_call 6; refine (from_four w.heap.size 0 4 (byt a0) a0 _ hv.out (bytes_cell a0 w) (fun i _ => byt_bd a0 i)).mono ?_; rintro e w' ⟨rfl, rfl⟩))
  go_quiet ((first | (go_at_call 18; with_reducible exact quiet_here (f1 _)) | (go_at_call 18; with_reducible exact quiet_here (f2 _))))
  go_wp2_with (first
    | (go_at_call 14; refine (f3 _).mono ?_; rintro e w' ⟨rfl, rfl⟩)
    | (go_at_call 20; refine (awake_is _).mono ?_; rintro e w' ⟨rfl, hb⟩))
  go_ret
  exact ⟨rfl, (below_drewN ((Below.refl _ _).alloc (Nat.le_refl _) _) _).trans (hb.mono (by simp))⟩
end Go.Proofs.Ytaeogbkiegmmjaa.wordBack
