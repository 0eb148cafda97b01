/- What the document's own plain answers for shifted words (package astrolaberef02) give: Sar and Rol. Conditions: the numbers are of the kind int32. -/
import Derived.Test.YtbcfmlcfkihenaaRefShC
import Derived.StillTailTactics
import Derived.Deep.RegionWith
namespace Go.Proofs.Ytbcfmlcfkihenaa
open Go.RowKit

theorem drewN_heap (w : World) (d : Nat) : (w.drewN d).heap = w.heap := rfl

theorem setCell_drewN (w : World) (d : Nat) (a : Addr) (v : Value) : (w.drewN d).setCell a v = (w.setCell a v).drewN d := rfl
theorem drewN_drew (w : World) (d : Nat) : (w.drewN d).drew = w.drewN (d + 1) := rfl

theorem tdiv_exact (x m : Int) (hm : 0 < m) : (x - x % m).tdiv m = x / m := by
  have h : x - x % m = m * (x / m) := by have := Int.mul_ediv_add_emod x m; omega
  rw [h, Int.mul_tdiv_cancel_left _ (by omega)]

set_option maxHeartbeats 1000000 in
theorem refSar_is (x n : Int) (w : World) (h1 : -2147483648 ≤ x) (h2 : x ≤ 2147483647) (h3 : -2147483648 ≤ n) (h4 : n ≤ 2147483647) :
    Calls Try.prog 30 #[.int .i32 x, .int .i32 n] w fun e w' => e = .returned (.int .i32 (wSar x n)) ∧ w = w' := by
  have hs := sn_lt n
  have hw := wSar_bd x n
  have E := Lib.hid (wSar_eq (n := n) h1 h2)
  go_enter Try.func30, Try.ntmps30
  go_wp2
  go_loop [5, 6] (fun m i => ∃ k : Nat, k ≤ sn n ∧ i = .int .i64 k ∧ m = .int .i64 (pw k)) (fun _ i => sn n - (intOf i).toNat)
  case atStart => exact ⟨0, by omega, rfl, rfl⟩
  case round =>
    obtain ⟨k, hk, rfl, rfl⟩ := hrel
    have p0 := pw_pos k
    have p1 : pw k ≤ 2147483648 := pw_mono (m := 31) (by omega)
    by_cases hlt : k < sn n
    · have S := Lib.hid (pw_succ k)
      have hlt' : (k : Int) < sn n := by omega
      go_wp2_with (go_at_call 37; refine (refBy_is n _ h3 h4).mono ?_; rintro e w' ⟨rfl, rfl⟩)
      go_round
      case rel => exact ⟨k + 1, by omega, by go_num, by rw [S.out]⟩
      case measure => simp [intOf]; omega
    · have hkk : k = sn n := by omega
      have hge : ¬ (k : Int) < sn n := by omega
      have q0 := Int.emod_nonneg x (show pw k ≠ 0 by omega)
      have q1 := Int.emod_lt_of_pos x p0
      have T := Lib.hid (tdiv_exact x (pw k) p0)
      have E2 := Lib.hid (show x / pw k = wSar x n by rw [E.out, hkk]; rfl)
      clear hkk
      go_wp2_with (first
        | (go_at_call 37; refine (refBy_is n _ h3 h4).mono ?_; rintro e w' ⟨rfl, rfl⟩)
        | (go_at_call 43; refine (refMod_is x (pw k) _ _ (by omega) (by omega) rfl).mono ?_; rintro e w' ⟨rfl, rfl⟩))
      go_ret
      exact ⟨ret_int (by rw [T.out, E2.out]; exact IntWalk.wrap32_in _ hw), rfl⟩

end Go.Proofs.Ytbcfmlcfkihenaa
