/- The plain facts behind the laws of layer 8. Nothing of any program. -/
import Derived.Test.YtbcfmlcfkihenaaRootM
namespace Go.Proofs.Ytbcfmlcfkihenaa
open Go.RowKit

theorem clz_rng {x : Int} (h1 : 1 ≤ x) (h2 : x ≤ 2147483647) : ∃ c : Nat, wClz x = c ∧ 1 ≤ c ∧ c ≤ 31 ∧ 2147483648 ≤ x * 2 ^ c ∧ x * 2 ^ c < 4294967296 := by
  have e := clz_len (wd x)
  have hn : ((wd x).toNat : Int) = x := by
    have h3 := us_wd x
    unfold us at h3; omega
  obtain ⟨n, rfl⟩ : ∃ n : Nat, x = n := ⟨x.toNat, by omega⟩
  have hn' : (wd (n : Int)).toNat = n := by omega
  rw [hn'] at e
  obtain ⟨l1, l2⟩ := bitLen_hi 31 n (by omega) (by decide)
  have l3 := l2 (by omega)
  have b1 : Lib.bitLen n ≤ 31 := by
    apply Nat.le_of_not_lt; intro hlt
    have p := Nat.pow_le_pow_right (n := 2) (by decide) hlt
    have q : (2 : Nat) ^ Nat.succ 31 = 4294967296 := by decide
    omega
  have b2 : 1 ≤ Lib.bitLen n := by
    apply Nat.le_of_not_lt; intro hlt
    have : Lib.bitLen n = 0 := by omega
    rw [this] at l1; omega
  refine ⟨32 - Lib.bitLen n, by unfold wClz; omega, by omega, by omega, ?_, ?_⟩
  · have p : 2 ^ Lib.bitLen n * 2 ^ (32 - Lib.bitLen n) = 4294967296 := by rw [← Nat.pow_add, show Lib.bitLen n + (32 - Lib.bitLen n) = 32 by omega]
    have q := Nat.mul_le_mul_right (2 ^ (32 - Lib.bitLen n)) l3
    rw [p, Nat.mul_assoc] at q
    have r : ((n : Int) * 2 ^ (32 - Lib.bitLen n)) = ((n * 2 ^ (32 - Lib.bitLen n) : Nat) : Int) := by simp
    rw [r]; omega
  · have p : 2 ^ Lib.bitLen n * 2 ^ (32 - Lib.bitLen n) = 4294967296 := by rw [← Nat.pow_add, show Lib.bitLen n + (32 - Lib.bitLen n) = 32 by omega]
    have q := Nat.mul_lt_mul_of_pos_right l1 (show 0 < 2 ^ (32 - Lib.bitLen n) from Nat.pow_pos (by decide))
    rw [p] at q
    have r : ((n : Int) * 2 ^ (32 - Lib.bitLen n)) = ((n * 2 ^ (32 - Lib.bitLen n) : Nat) : Int) := by simp
    rw [r]; omega
theorem sn_nat {k : Nat} (h : k ≤ 31) : sn k = k := by unfold sn; omega
theorem shifted {x : Int} {k : Nat} (hk : k ≤ 31) (h1 : 0 ≤ x * 2 ^ k) (h2 : x * 2 ^ k < 4294967296) : wShr (wShl x k) 2 = x * 2 ^ k / 4 := by
  rw [shl_wrap, shr_div, sn_nat hk, show sn 2 = 2 from rfl]
  generalize x * 2 ^ k = y at *
  unfold wrap32; omega
/-- The level of a number from 1 on. -/
theorem lv_rng {x : Int} (h1 : 1 ≤ x) (h2 : x ≤ 2147483647) :
    ∃ h : Nat, wLvH x = h ∧ h ≤ 15 ∧ 1073741824 ≤ x * 2 ^ (2 * h) ∧ x * 2 ^ (2 * h) < 4294967296 ∧ wLvU x = x * 2 ^ (2 * h) / 4 := by
  obtain ⟨c, hc, c1, c2, c3, c4⟩ := clz_rng h1 h2
  have ht : wLvT x = ((2 * (c / 2) : Nat) : Int) := by unfold wLvT; rw [hc]; omega
  have g : 1073741824 ≤ x * 2 ^ (2 * (c / 2)) ∧ x * 2 ^ (2 * (c / 2)) < 4294967296 := by
    rcases (show c = 2 * (c / 2) ∨ c = 2 * (c / 2) + 1 by omega) with h | h
    · rw [← h]; omega
    · rw [h, Int.pow_succ, ← Int.mul_assoc] at c3 c4; omega
  refine ⟨c / 2, by unfold wLvH; rw [ht]; omega, by omega, g.1, g.2, ?_⟩
  unfold wLvU
  rw [ht, shifted (by omega) (by omega) g.2]
theorem rcv_rng {x : Int} (h1 : 1 ≤ x) (h2 : x ≤ 2147483647) :
    ∃ c : Nat, wClz x = c ∧ 1 ≤ c ∧ c ≤ 31 ∧ 2147483648 ≤ x * 2 ^ c ∧ x * 2 ^ c < 4294967296 ∧ wRcV x = x * 2 ^ c / 4 := by
  obtain ⟨c, hc, c1, c2, c3, c4⟩ := clz_rng h1 h2
  refine ⟨c, hc, c1, c2, c3, c4, ?_⟩
  unfold wRcV
  rw [hc, shifted c2 (by omega) c4]

/-- 1 by the root, of any number from 1 on: how far its square, times the number, is from 2^90. -/
theorem rs_true {x : Int} (h1 : 1 ≤ x) (h2 : x ≤ 2147483647) :
    ∃ h : Nat, wLvH x = h ∧ h ≤ 15 ∧ 268435456 ≤ wRs (wLvU x) ∧ wRs (wLvU x) ≤ 1073742848 ∧ x * 2 ^ (2 * h) < 4294967296 ∧ 1073741824 ≤ x * 2 ^ (2 * h) ∧
      -55340232221128654848 ≤ 1237940039285380274899124224 - x * 2 ^ (2 * h) * (wRs (wLvU x) * wRs (wLvU x)) ∧ 1237940039285380274899124224 - x * 2 ^ (2 * h) * (wRs (wLvU x) * wRs (wLvU x)) ≤ 50728546202701266944 := by
  obtain ⟨h, hh, h15, g1, g2, hu⟩ := lv_rng h1 h2
  have u1 : 268435456 ≤ wLvU x := by omega
  have u2 : wLvU x ≤ 1073741823 := by omega
  have A := rs_all u1 u2
  have z1 := rs_lo u2 A (by decide)
  have z2 := rs_top u1 u2
  obtain ⟨_, A1, A2⟩ := A
  refine ⟨h, hh, h15, z1, z2, g2, g1, ?_⟩
  obtain ⟨r, hr, r0, r3⟩ : ∃ r, x * 2 ^ (2 * h) = 4 * wLvU x + r ∧ 0 ≤ r ∧ r ≤ 3 := ⟨x * 2 ^ (2 * h) - 4 * wLvU x, by omega, by omega, by omega⟩
  rw [hr]
  generalize wRs (wLvU x) = z at *
  generalize wLvU x = u at *
  have zz := abs_mul (a := z) (b := z) (A := 1073742848) (B := 1073742848) (by omega) (by omega) (by omega) (by omega)
  have zz0 : 0 ≤ z * z := Int.mul_nonneg (by omega) (by omega)
  have rz : r * (z * z) ≤ 3 * (z * z) := Int.mul_le_mul_of_nonneg_right r3 zz0
  have rz0 : 0 ≤ r * (z * z) := Int.mul_nonneg r0 zz0
  have e : (4 * u + r) * (z * z) = 4 * (u * (z * z)) + r * (z * z) := by grind
  rw [e]
  omega

theorem pow_two (h : Nat) : (2 : Int) ^ (2 * h) = 2 ^ h * 2 ^ h := by rw [← Int.pow_add]; congr 1; omega
/-- The root of any number from 1 on. -/
theorem sqrt_true {x : Int} (h1 : 1 ≤ x) (h2 : x ≤ 2147483647) :
    0 < wSqrt x ∧ -(64 * x + 8589934592) < wSqrt x * wSqrt x - x * 1073741824 ∧ wSqrt x * wSqrt x - x * 1073741824 < 64 * x + 8589934592 := by
  obtain ⟨h, hh, h15, z1, z2, g2, g1, A1, A2⟩ := rs_true h1 h2
  unfold wSqrt wScale
  rw [hh]
  generalize hz : wRs (wLvU x) = z at *
  have xz := Int.mul_nonneg (show 0 ≤ x by omega) (show 0 ≤ z by omega)
  obtain ⟨T, hT⟩ : ∃ T : Int, T = 2 ^ h := ⟨_, rfl⟩
  have T0 : 1 ≤ T := by rw [hT]; exact Int.pow_pos (by decide)
  have T1 : T ≤ 32768 := by
    have := Nat.pow_le_pow_right (n := 2) (by decide) h15
    have e : ((2 ^ h : Nat) : Int) = 2 ^ h := by simp
    rw [hT, ← e]; omega
  rw [pow_two, ← hT] at g1 g2 A1 A2
  obtain ⟨Y, hY⟩ : ∃ Y, Y = x * z * T := ⟨_, rfl⟩
  have Y0 : 0 ≤ Y := by rw [hY]; exact Int.mul_nonneg xz (by omega)
  have eY : Y * Y = x * (x * (T * T) * (z * z)) := by rw [hY]; grind
  have W1 : 0 ≤ x * (T * T) * (z * z) := Int.mul_nonneg (by omega) (Int.mul_nonneg (by omega) (by omega))
  have xw := Int.mul_le_mul h2 (show x * (T * T) * (z * z) ≤ 1237940094625612496027779072 by omega) W1 (by omega)
  have Yb : Y ≤ 1729382256910270464 := by
    apply Int.not_lt.1; intro hlt
    have p := Int.mul_le_mul (show (1729382256910270464 : Int) ≤ Y by omega) (show (1729382256910270464 : Int) ≤ Y by omega) (by omega) (by omega)
    omega
  have xY : x * z ≤ Y := by
    rw [hY]
    have := Int.mul_le_mul (Int.le_refl (x * z)) T0 (by omega) xz
    omega
  obtain ⟨al, hr, a1, a2⟩ := mulq_ex (a := x) (b := z) (by omega) (by omega)
  have xz1 : 536870912 ≤ x * z := by
    by_cases hx : x = 1
    · subst hx
      have k : 536870912 ≤ z := by
        apply Int.not_lt.1; intro hlt
        have p := Int.mul_le_mul (show z ≤ 536870912 by omega) (show z ≤ 536870912 by omega) (by omega) (by omega)
        have t1 : 1 * (T * T) ≤ 1073741824 := by
          have := Int.mul_le_mul T1 T1 (by omega) (by omega)
          omega
        have q := Int.mul_le_mul t1 p (Int.mul_nonneg (by omega) (by omega)) (by omega)
        omega
      omega
    · have := Int.mul_le_mul (show (2 : Int) ≤ x by omega) z1 (by omega) (by omega)
      omega
  have r1 : 1 ≤ wMulq x z := by unfold wMulq wCut; omega
  generalize wMulq x z = r at *
  have aT := abs_mul (a := al) (b := T) (A := 536870912) (B := T) a1 a2 (by omega) (by omega)
  have rT : 1073741824 * (r * T) = Y + al * T := by rw [hY]; grind
  have s0 := Int.mul_le_mul r1 T0 (by omega) (by omega)
  have hs : wShl r h = r * T := by
    rw [shl_wrap, sn_nat (by omega), ← hT]
    generalize r * T = s at *
    unfold wrap32; omega
  rw [hs]
  obtain ⟨del, hd⟩ : ∃ del, del = 1237940039285380274899124224 - x * (T * T) * (z * z) := ⟨_, rfl⟩
  rw [← hd] at A1 A2
  have E : 1152921504606846976 * (r * T * (r * T) - x * 1073741824) = (T * T) * (2 * (x * z * al) + al * al) - x * del := by
    have e1 : 1152921504606846976 * (r * T * (r * T)) = (1073741824 * (r * T)) * (1073741824 * (r * T)) := by grind
    rw [rT] at e1
    subst hd hY
    grind
  have xd1 := Int.mul_le_mul_of_nonneg_left A1 (show 0 ≤ x by omega)
  have xd2 := Int.mul_le_mul_of_nonneg_left A2 (show 0 ≤ x by omega)
  have c1 := abs_mul (a := x * (T * T)) (b := z * al) (A := 4294967296) (B := 576461302059237376) (by omega) (by omega) (by have := abs_mul (a := z) (b := al) (A := 1073742848) (B := 536870912) (by omega) (by omega) a1 a2; omega) (by have := abs_mul (a := z) (b := al) (A := 1073742848) (B := 536870912) (by omega) (by omega) a1 a2; omega)
  have c2 := abs_mul a1 a2 a1 a2
  have t2 := Int.mul_le_mul T1 T1 (by omega) (by omega)
  have t0 : 0 ≤ T * T := Int.mul_nonneg (by omega) (by omega)
  have c3 := abs_mul (a := T * T) (b := al * al) (A := 1073741824) (B := 288230376151711744) (by omega) (by omega) (by omega) (by omega)
  have e3 : (T * T) * (2 * (x * z * al) + al * al) = 2 * (x * (T * T) * (z * al)) + T * T * (al * al) := by grind
  rw [e3] at E
  refine ⟨by omega, by omega, by omega⟩

/-- 1 by any number from 1 on. -/
theorem rc_true {x : Int} (h1 : 1 ≤ x) (h2 : x ≤ 2147483647) :
    ∃ h : Nat, wClz x - 1 = h ∧ h ≤ 30 ∧ 268435456 ≤ wRc (wRcV x) ∧ wRc (wRcV x) ≤ 1073742848 ∧ 0 ≤ x * 2 ^ h ∧ x * 2 ^ h < 2147483648 ∧
      -17179869184 < x * 2 ^ h * wRc (wRcV x) - 1152921504606846976 ∧ x * 2 ^ h * wRc (wRcV x) - 1152921504606846976 < 17179869184 := by
  obtain ⟨c, hc, c1, c2, c3, c4, hv⟩ := rcv_rng h1 h2
  have v1 : 536870912 ≤ wRcV x := by omega
  have v2 : wRcV x ≤ 1073741823 := by omega
  have A := rc_all v1 v2
  have z1 := rc_bot v1 v2
  have z2 := rc_top v1 v2
  obtain ⟨_, A1, A2⟩ := A
  obtain ⟨h, rfl⟩ : ∃ h, c = h + 1 := ⟨c - 1, by omega⟩
  rw [Int.pow_succ, ← Int.mul_assoc] at c3 c4 hv
  refine ⟨h, by omega, by omega, z1, z2, by omega, by omega, ?_⟩
  generalize x * 2 ^ h = y at *
  obtain ⟨r, hr, r0, r3⟩ : ∃ r, y = 2 * wRcV x + r ∧ 0 ≤ r ∧ r ≤ 1 := ⟨y - 2 * wRcV x, by omega, by omega, by omega⟩
  rw [hr]
  generalize wRc (wRcV x) = z at *
  generalize wRcV x = v at *
  have rz : r * z ≤ 1 * z := Int.mul_le_mul_of_nonneg_right r3 (by omega)
  have rz0 : 0 ≤ r * z := Int.mul_nonneg r0 (by omega)
  have e : (2 * v + r) * z = 2 * (v * z) + r * z := by grind
  rw [e]
  omega
end Go.Proofs.Ytbcfmlcfkihenaa
