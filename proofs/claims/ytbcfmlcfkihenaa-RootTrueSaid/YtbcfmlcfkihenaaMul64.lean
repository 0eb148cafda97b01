/- math/bits.Mul64: the product of two numbers of 64 bits, from 0 on, in two parts. -/
import Derived.Test.YtbcfmlcfkihenaaProg
import Derived.Test.YtbcfmlcfkihenaaWordM
import Derived.Test.YtbcfmlcfkihenaaWordA
import Derived.Handy
import Derived.Lib.Hide
namespace Go.Proofs.Ytbcfmlcfkihenaa
open Go.RowKit

theorem and_u64_32 (x : Int) : bits .and .u64 x 4294967295 = x % 4294967296 := by
  have h := bits_and_mask .u64 32 (by decide) x
  have e1 : ((2 : Int) ^ 32 - 1) = 4294967295 := by decide
  have e2 : ((2 : Int) ^ 32) = 4294967296 := by decide
  rw [e1, e2] at h
  rw [h, IntKind.wrap_u64]; omega
theorem half_prod {a b : Int} (a1 : 0 ≤ a) (a2 : a ≤ 4294967295) (b1 : 0 ≤ b) (b2 : b ≤ 4294967295) : 0 ≤ a * b ∧ a * b ≤ 18446744065119617025 :=
  ⟨Int.mul_nonneg a1 b1, Int.mul_le_mul a2 b2 b1 (by decide)⟩
theorem school {x y x0 x1 y0 y1 t : Int} (hx : x = x1 * 4294967296 + x0) (hy : y = y1 * 4294967296 + y0) (_h0 : 0 ≤ x0 * y0) (ht : t = x1 * y0 + x0 * y0 / 4294967296) :
    x1 * y1 + t / 4294967296 + (t % 4294967296 + x0 * y1) / 4294967296 = x * y / 18446744073709551616 := by
  have e : x * y = x1 * y1 * 18446744073709551616 + (x1 * y0 + x0 * y1) * 4294967296 + x0 * y0 := by subst hx hy; grind
  rw [e]
  generalize x1 * y1 = a at *
  generalize x0 * y0 = d at *
  generalize x1 * y0 = b at *
  generalize x0 * y1 = c at *
  omega

set_option maxHeartbeats 1000000 in
theorem mul64_is (x y : Int) (w : World) (x1 : 0 ≤ x) (x2 : x ≤ 18446744073709551615) (y1 : 0 ≤ y) (y2 : y ≤ 18446744073709551615) :
    Calls Try.prog 18 #[.int .u64 x, .int .u64 y] w fun e w' => e = .returned (.tuple #[.int .u64 (x * y / 18446744073709551616), .int .u64 (x * y % 18446744073709551616)]) ∧ w = w' := by
  have ex := and_u64_32 x
  have ey := and_u64_32 y
  obtain ⟨p, hp⟩ : ∃ p, x % 4294967296 = p := ⟨_, rfl⟩
  obtain ⟨q, hq⟩ : ∃ q, x / 4294967296 = q := ⟨_, rfl⟩
  obtain ⟨r, hr⟩ : ∃ r, y % 4294967296 = r := ⟨_, rfl⟩
  obtain ⟨s, hs⟩ : ∃ s, y / 4294967296 = s := ⟨_, rfl⟩
  rw [hp] at ex
  rw [hr] at ey
  obtain ⟨a1, a2⟩ := half_prod (a := p) (b := r) (by omega) (by omega) (by omega) (by omega)
  obtain ⟨b1, b2⟩ := half_prod (a := q) (b := r) (by omega) (by omega) (by omega) (by omega)
  obtain ⟨c1, c2⟩ := half_prod (a := p) (b := s) (by omega) (by omega) (by omega) (by omega)
  obtain ⟨d1, d2⟩ := half_prod (a := q) (b := s) (by omega) (by omega) (by omega) (by omega)
  have et := and_u64_32 (q * r + p * r / 4294967296)
  have E := Lib.hid (school (x := x) (y := y) (x0 := p) (x1 := q) (y0 := r) (y1 := s) (t := q * r + p * r / 4294967296) (by omega) (by omega) a1 rfl)
  have hi2 : x * y / 18446744073709551616 ≤ 18446744073709551615 := by
    have := Int.mul_le_mul x2 y2 y1 (by decide)
    omega
  rw [← E.out] at hi2
  go_enter Try.func18, Try.ntmps18
  go_wp2
  go_returns
  exact ⟨by rw [E.out, IntKind.wrap_u64]; rfl, rfl⟩
end Go.Proofs.Ytbcfmlcfkihenaa
