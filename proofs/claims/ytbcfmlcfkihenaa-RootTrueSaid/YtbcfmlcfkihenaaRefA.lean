/- What the document's own plain answers for words (package astrolaberef01) give: Mod, Signed, Low, High, Plain, Join, Half, Pair. Conditions: the numbers are of the parameters' kinds; Mod: by 1 to 2^62; Signed: 1 to 62 bits. -/
import Derived.Test.YtbcfmlcfkihenaaWordA
namespace Go.Proofs.Ytbcfmlcfkihenaa
open Go.RowKit

theorem tmod_neg {x n : Int} (hn : 0 < n) (h : x.tmod n < 0) : x.tmod n + n = x % n := by
  have e := Int.tmod_eq_emod (a := x) (b := n)
  have h0 := Int.emod_nonneg x (show n ≠ 0 by omega)
  have h1 : ((n.natAbs : Nat) : Int) = n := by omega
  split at e
  · omega
  · omega

theorem tmod_pos {x n : Int} (hn : 0 < n) (h : ¬ x.tmod n < 0) : x.tmod n = x % n := by
  have e := Int.tmod_eq_emod (a := x) (b := n)
  have h0 := Int.emod_lt_of_pos x hn
  have h1 : ((n.natAbs : Nat) : Int) = n := by omega
  split at e
  · omega
  · omega

theorem tmod_gt {x n : Int} (hn : 0 < n) : -n < x.tmod n ∧ x.tmod n < n := by
  have e := Int.tmod_eq_emod (a := x) (b := n)
  have h0 := Int.emod_lt_of_pos x hn
  have h2 := Int.emod_nonneg x (show n ≠ 0 by omega)
  have h1 : ((n.natAbs : Nat) : Int) = n := by omega
  split at e
  · omega
  · rename_i hd
    have : x % n ≠ 0 := fun h => hd (Or.inr (Int.dvd_of_emod_eq_zero h))
    omega

theorem refMod_is (x n z : Int) (w : World) (hn : 0 < n) (hn' : n ≤ 4611686018427387904) (h : x % n = z) :
    Calls Try.prog 43 #[.int .i64 x, .int .i64 n] w fun e w' => e = .returned (.int .i64 z) ∧ w = w' := by
  subst h
  have hne : n ≠ 0 := by omega
  have hb := tmod_gt (x := x) hn
  by_cases hs : x.tmod n < 0
  · have e := Lib.hid (tmod_neg hn hs)
    go_enter Try.func43, Try.ntmps43
    go_wp2
    go_ret
    exact ⟨ret_int e.out, rfl⟩
  · have e := Lib.hid (tmod_pos hn hs)
    go_enter Try.func43, Try.ntmps43
    go_wp2
    go_ret
    exact ⟨ret_int e.out, rfl⟩
/-- 2 to the power of k. -/
def pw (k : Nat) : Int := 2 ^ k
theorem pw_succ (k : Nat) : pw (k + 1) = 2 * pw k := by unfold pw; rw [Int.pow_succ]; omega
theorem pw_pos (k : Nat) : 0 < pw k := Int.pow_pos (by decide)
theorem pw_mono {k m : Nat} (h : k ≤ m) : pw k ≤ pw m := by
  unfold pw
  have : 2 ^ k ≤ 2 ^ m := Nat.pow_le_pow_right (by decide) h
  exact_mod_cast this

/-- The lowest n bits, with a sign. -/
def sgn (x : Int) (n : Nat) : Int := if pw n / 2 ≤ x % pw n then x % pw n - pw n else x % pw n

theorem sgn_32 (x : Int) : sgn x 32 = wrap32 x := by
  have : pw 32 = 4294967296 := by decide
  unfold sgn wrap32
  rw [this]
  split <;> omega
theorem sgn_16 (x : Int) : sgn x 16 = wrap16 x := by
  have : pw 16 = 65536 := by decide
  unfold sgn wrap16
  rw [this]
  split <;> omega

theorem refSigned_is (x z : Int) (n : Nat) (w : World) (hn' : n ≤ 61) (h : sgn x n = z) :
    Calls Try.prog 46 #[.int .i64 x, .int .i64 n] w fun e w' => e = .returned (.int .i64 z) ∧ w = w' := by
  subst h
  go_enter Try.func46, Try.ntmps46
  go_wp2
  go_loop [5, 6] (fun m i => ∃ k : Nat, k ≤ n ∧ i = .int .i64 k ∧ m = .int .i64 (pw k)) (fun _ i => n - (intOf i).toNat)
  case atStart => exact ⟨0, by omega, rfl, rfl⟩
  case round =>
    obtain ⟨k, hk, rfl, rfl⟩ := hrel
    have p0 := pw_pos k
    have p1 : pw k ≤ 2305843009213693952 := pw_mono (m := 61) (by omega)
    by_cases hlt : k < n
    · have e := Lib.hid (pw_succ k)
      go_wp2
      go_round
      case rel => exact ⟨k + 1, by omega, by go_num, by rw [e.out]⟩
      case measure => simp [intOf]; omega
    · obtain rfl : k = n := by omega
      have q0 := Int.emod_nonneg x (show pw k ≠ 0 by omega)
      have q1 := Int.emod_lt_of_pos x p0
      by_cases ht : pw k / 2 ≤ x % pw k
      · have e := Lib.hid (show sgn x k = x % pw k - pw k by unfold sgn; rw [if_pos ht])
        go_wp2_with (go_at_call 43; refine (refMod_is x (pw k) _ _ (by omega) (by omega) rfl).mono ?_; rintro e w' ⟨rfl, rfl⟩)
        go_ret
        exact ⟨ret_int e.out.symm, rfl⟩
      · have e := Lib.hid (show sgn x k = x % pw k by unfold sgn; rw [if_neg ht])
        go_wp2_with (go_at_call 43; refine (refMod_is x (pw k) _ _ (by omega) (by omega) rfl).mono ?_; rintro e w' ⟨rfl, rfl⟩)
        go_ret
        exact ⟨ret_int e.out.symm, rfl⟩

theorem refLow_is (x z : Int) (w : World) (h : wrap32 x = z) :
    Calls Try.prog 45 #[.int .i64 x] w fun e w' => e = .returned (.int .i32 z) ∧ w = w' := by
  have hb : -2147483648 ≤ wrap32 x ∧ wrap32 x ≤ 2147483647 := by unfold wrap32; omega
  subst h
  go_enter Try.func45, Try.ntmps45
  go_wp2_with (go_at_call 46; refine (refSigned_is x (wrap32 x) 32 _ (by omega) (sgn_32 x)).mono ?_; rintro e w' ⟨rfl, rfl⟩)
  go_ret
  exact ⟨rfl, rfl⟩

theorem high_q (x : Int) : (x - x % 4294967296).tdiv 4294967296 = x / 4294967296 := by
  rw [Int.tdiv_eq_ediv_of_dvd ⟨x / 4294967296, by omega⟩]; omega

theorem refPlain_is (x z : Int) (w : World) (h : x % 4294967296 = z) (h1 : -2147483648 ≤ x) (h2 : x ≤ 2147483647) :
    Calls Try.prog 44 #[.int .i32 x] w fun e w' => e = .returned (.int .i64 z) ∧ w = w' := by
  subst h
  go_enter Try.func44, Try.ntmps44
  go_wp2_with (go_at_call 43; refine (refMod_is x 4294967296 _ _ (by omega) (by omega) rfl).mono ?_; rintro e w' ⟨rfl, rfl⟩)
  go_ret
  exact ⟨rfl, rfl⟩

end Go.Proofs.Ytbcfmlcfkihenaa
