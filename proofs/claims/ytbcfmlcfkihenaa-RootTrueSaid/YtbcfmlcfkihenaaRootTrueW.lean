/- The walk of the law RootTrue: it returns true and writes nothing that was there. -/
import Derived.Test.YtbcfmlcfkihenaaRootK
import Derived.Test.YtbcfmlcfkihenaaMul64
namespace Go.Proofs.Ytbcfmlcfkihenaa.rootTrue
open Go.RowKit Go.ChangeShapes Go.OpenShut

theorem mul64_v (x y h l : Int) (w : World) (x1 : 0 ≤ x) (x2 : x ≤ 18446744073709551615) (y1 : 0 ≤ y) (y2 : y ≤ 18446744073709551615) (hh : x * y / 18446744073709551616 = h) (hl : x * y % 18446744073709551616 = l) :
    Calls Try.prog 18 #[.int .u64 x, .int .u64 y] w fun e w' => e = .returned (.tuple #[.int .u64 h, .int .u64 l]) ∧ w = w' := by
  subst hh hl; exact mul64_is x y w x1 x2 y1 y2

set_option maxHeartbeats 1000000 in
theorem walk (x : Int) (w0 : (Lit.int .i32 x).wf = true) (w : World) :
    Calls Try.prog 4 #[.int .i32 x] w fun e w' => e = .returned (.bool true) ∧ Below w.heap.size w w' := by
  obtain ⟨x1, x2⟩ := bounds_i32 w0
  have hb := Below.refl w.heap.size w
  have hB := Nat.le_refl w.heap.size
  by_cases h : x < 1
  · go_enter Try.func4, Try.ntmps4
    go_wp2_with (go_at_call 17; refine (keep (rootAwake_is _) hb hB).mono ?_; rintro e w1 ⟨rfl, hb, hB⟩)
    go_ret
    exact ⟨rfl, hb⟩
  · obtain ⟨n, hh, n15, z1, z2, g2, g1, A1, A2⟩ := rs_true (show 1 ≤ x by omega) x2
    obtain ⟨z, hz⟩ : ∃ z, wRs (wLvU x) = z := ⟨_, rfl⟩
    rw [hz] at z1 z2 A1 A2
    have HZ := Lib.hid hz
    have HH := Lib.hid hh
    clear hz hh
    have zz := Int.mul_le_mul z2 z2 (by omega) (by omega)
    have zz0 : 0 ≤ z * z := Int.mul_nonneg (by omega) (by omega)
    rw [Int.mul_comm (x * 2 ^ (2 * n))] at A1 A2
    obtain ⟨hi, hhi⟩ : ∃ hi, z * z * (x * 2 ^ (2 * n)) / 18446744073709551616 = hi := ⟨_, rfl⟩
    obtain ⟨lo, hlo⟩ : ∃ lo, z * z * (x * 2 ^ (2 * n)) % 18446744073709551616 = lo := ⟨_, rfl⟩
    have q1 : hi ≤ 67108867 := by omega
    have q2 : 67108860 ≤ hi := by omega
    have q3 : hi = 67108860 → 0 < lo := by omega
    have l1 : 0 ≤ lo := by omega
    have HI := Lib.hid hhi
    have LO := Lib.hid hlo
    clear hhi hlo A1 A2
    have m1 : z * z ≤ 18446744073709551615 := by omega
    have m2 : x * 2 ^ (2 * n) ≤ 18446744073709551615 := by omega
    have m3 : 0 ≤ x * 2 ^ (2 * n) := by omega
    by_cases p1 : 67108864 ≤ hi
    · clear q3
      go_enter Try.func4, Try.ntmps4
      go_wp2_with (first
        | (go_at_call 11; refine (keep (rsqrt_v x z n _ x1 x2 HZ.out HH.out) hb hB).mono ?_; rintro e w1 ⟨rfl, hb, hB⟩)
        | (go_at_call 17; refine (keep (rootAwake_is _) hb hB).mono ?_; rintro e w1 ⟨rfl, hb, hB⟩)
        | (go_at_call 18; refine (mul64_v _ _ hi lo _ zz0 m1 m3 m2 HI.out LO.out).mono ?_; rintro e w1 ⟨rfl, rfl⟩))
      go_ret
      exact ⟨rfl, hb⟩
    by_cases p2 : 67108860 < hi
    · clear q3
      go_enter Try.func4, Try.ntmps4
      go_wp2_with (first
        | (go_at_call 11; refine (keep (rsqrt_v x z n _ x1 x2 HZ.out HH.out) hb hB).mono ?_; rintro e w1 ⟨rfl, hb, hB⟩)
        | (go_at_call 17; refine (keep (rootAwake_is _) hb hB).mono ?_; rintro e w1 ⟨rfl, hb, hB⟩)
        | (go_at_call 18; refine (mul64_v _ _ hi lo _ zz0 m1 m3 m2 HI.out LO.out).mono ?_; rintro e w1 ⟨rfl, rfl⟩))
      go_ret
      exact ⟨rfl, hb⟩
    · have q4 := q3 (by omega)
      clear q3
      go_enter Try.func4, Try.ntmps4
      go_wp2_with (first
        | (go_at_call 11; refine (keep (rsqrt_v x z n _ x1 x2 HZ.out HH.out) hb hB).mono ?_; rintro e w1 ⟨rfl, hb, hB⟩)
        | (go_at_call 17; refine (keep (rootAwake_is _) hb hB).mono ?_; rintro e w1 ⟨rfl, hb, hB⟩)
        | (go_at_call 18; refine (mul64_v _ _ hi lo _ zz0 m1 m3 m2 HI.out LO.out).mono ?_; rintro e w1 ⟨rfl, rfl⟩))
      go_ret
      exact ⟨rfl, hb⟩
end Go.Proofs.Ytbcfmlcfkihenaa.rootTrue
