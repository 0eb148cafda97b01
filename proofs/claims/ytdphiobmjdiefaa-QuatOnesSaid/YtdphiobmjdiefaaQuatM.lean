/- Quaternions of fixed point: how near a unit's norm is to 1, and where it points. Nothing of any program. -/
import Derived.Test.YtdphiobmjdiefaaRootN
namespace Go.Proofs.Ytdphiobmjdiefaa
open Go.RowKit

/-- The norm of four parts. -/
def wNrm (p0 p1 p2 p3 : Int) : Int := wCut (wCut (wCut (wMulq p0 p0 + wMulq p1 p1) + wMulq p2 p2) + wMulq p3 p3)
theorem sqq (x : Int) : 0 ≤ x * x := by
  rcases (show 0 ≤ x ∨ x ≤ 0 by omega) with h | h
  · exact Int.mul_nonneg h h
  · have := Int.mul_nonneg (show 0 ≤ -x by omega) (show 0 ≤ -x by omega)
    grind
theorem own_sq {a : Int} (h : wMulq a a < 2147483647) : ∃ al, 1073741824 * wMulq a a = a * a + al ∧ -536870912 ≤ al ∧ al ≤ 536870912 := by
  have s := sqq a
  refine ⟨536870912 - (a * a + 536870912) % 1073741824, ?_, by omega, by omega⟩
  unfold wMulq wCut at *
  omega
theorem own_pos (a : Int) : 0 ≤ wMulq a a := by
  have s := sqq a
  unfold wMulq wCut; omega
/-- A norm that isn't cut is what its parts are. -/
theorem nrm_eq {p0 p1 p2 p3 : Int} (h : wNrm p0 p1 p2 p3 < 2147483647) :
    ∃ al, 1073741824 * wNrm p0 p1 p2 p3 = p0 * p0 + p1 * p1 + p2 * p2 + p3 * p3 + al ∧ -2147483648 ≤ al ∧ al ≤ 2147483648 := by
  have m0 := own_pos p0
  have m1 := own_pos p1
  have m2 := own_pos p2
  have m3 := own_pos p3
  have e : wNrm p0 p1 p2 p3 = wMulq p0 p0 + wMulq p1 p1 + wMulq p2 p2 + wMulq p3 p3 := by unfold wNrm wCut at *; omega
  obtain ⟨a0, h0, b0, c0⟩ := own_sq (a := p0) (by omega)
  obtain ⟨a1, h1, b1, c1⟩ := own_sq (a := p1) (by omega)
  obtain ⟨a2, h2, b2, c2⟩ := own_sq (a := p2) (by omega)
  obtain ⟨a3, h3, b3, c3⟩ := own_sq (a := p3) (by omega)
  exact ⟨a0 + a1 + a2 + a3, by omega, by omega, by omega⟩
/-- The bound of a number by its square. -/
theorem by_sq {x B : Int} (hB : 0 ≤ B) (h : x * x < (B + 1) * (B + 1)) : -B ≤ x ∧ x ≤ B := by
  constructor
  · apply Int.not_lt.1; intro hlt
    have := Int.mul_le_mul (show B + 1 ≤ -x by omega) (show B + 1 ≤ -x by omega) (by omega) (by omega)
    have e : -x * -x = x * x := by grind
    omega
  · apply Int.not_lt.1; intro hlt
    have := Int.mul_le_mul (show B + 1 ≤ x by omega) (show B + 1 ≤ x by omega) (by omega) (by omega)
    omega
/-- A part of the unit: what it is, but for half a unit of what is rounded. -/
theorem part_eq {p z n rest al : Int} {h : Nat} (hn : 1073741824 * n = p * p + rest + al) (r0 : 0 ≤ rest) (al1 : -2147483648 ≤ al) (hh : h ≤ 1)
    (z1 : 0 ≤ z) (z2 : z ≤ 1073742848) (w : n * 2 ^ (2 * h) * (z * z) ≤ 1237940094625612496027779072) :
    ∃ e, 1073741824 * wScale p z h = 2 ^ h * (p * z + e) ∧ -536870912 ≤ e ∧ e ≤ 536870912 ∧ (-1154047404513689600 ≤ 2 ^ h * (p * z) ∧ 2 ^ h * (p * z) ≤ 1154047404513689600) ∧ (-1342177280 ≤ wScale p z h ∧ wScale p z h ≤ 1342177280) := by
  obtain ⟨T, hT⟩ : ∃ T : Int, T = 2 ^ h := ⟨_, rfl⟩
  have hT2 : T = 1 ∨ T = 2 := by
    rcases (show h = 0 ∨ h = 1 by omega) with rfl | rfl
    · left; rw [hT]; rfl
    · right; rw [hT]; rfl
  have hp2 : (2 : Int) ^ (2 * h) = T * T := by rw [pow_two, hT]
  rw [hp2] at w
  have zz := sqq z
  have zzb := Int.mul_le_mul z2 z2 z1 (by decide)
  have TT : T * T ≤ 4 := by rcases hT2 with rfl | rfl <;> decide
  have TT1 : 1 ≤ T * T := by rcases hT2 with rfl | rfl <;> decide
  have Tz : 0 ≤ T * T * (z * z) := Int.mul_nonneg (by omega) zz
  have Tzb : T * T * (z * z) ≤ 4 * 1152923703631151104 := Int.mul_le_mul TT zzb zz (by decide)
  have sq : (T * (p * z)) * (T * (p * z)) ≤ 1331825411864783514947473805148160000 := by
    have e1 : (T * (p * z)) * (T * (p * z)) = p * p * (T * T * (z * z)) := by grind
    have e2 : p * p ≤ 1073741824 * n + 2147483648 := by omega
    have q := Int.mul_le_mul_of_nonneg_right e2 Tz
    have e3 : (1073741824 * n + 2147483648) * (T * T * (z * z)) = 1073741824 * (n * (T * T) * (z * z)) + 2147483648 * (T * T * (z * z)) := by grind
    rw [e1]
    omega
  have b := by_sq (x := T * (p * z)) (B := 1154047404513689600) (by decide) (by omega)
  have pz : -1154047404513689600 ≤ p * z ∧ p * z ≤ 1154047404513689600 := by rcases hT2 with rfl | rfl <;> omega
  obtain ⟨e, he, e1, e2⟩ := mulq_ex (a := p) (b := z) (by omega) (by omega)
  have hs : wScale p z h = wMulq p z * T := by
    unfold wScale
    rw [shl_wrap, sn_nat (by omega), ← hT]
    rcases hT2 with hT' | hT'
    · rw [hT'] at b ⊢; unfold wrap32; omega
    · rw [hT'] at b ⊢; unfold wrap32; omega
  refine ⟨e, ?_, e1, e2, ?_, ?_⟩
  · rw [hs, ← hT, ← he]; grind
  · rw [← hT]; exact b
  · rw [hs]
    rcases hT2 with hT' | hT'
    · rw [hT'] at b ⊢; omega
    · rw [hT'] at b ⊢; omega

theorem hTwo {h : Nat} (hh : h ≤ 1) : (2 : Int) ^ h = 1 ∨ (2 : Int) ^ h = 2 := by
  rcases (show h = 0 ∨ h = 1 by omega) with rfl | rfl
  · left; rfl
  · right; rfl
/-- Two parts of the unit, crosswise. -/
theorem cross_eq {p q z u v e f T : Int} (hT : T = 1 ∨ T = 2) (hu : 1073741824 * u = T * (p * z + e)) (hv : 1073741824 * v = T * (q * z + f)) (e1 : -536870912 ≤ e ∧ e ≤ 536870912) (f1 : -536870912 ≤ f ∧ f ≤ 536870912)
    (pb : -1518500250 ≤ p ∧ p ≤ 1518500250) (qb : -1518500250 ≤ q ∧ q ≤ 1518500250) : -8589934592 < u * q - v * p ∧ u * q - v * p < 8589934592 := by
  have a := abs_mul e1.1 e1.2 qb.1 qb.2
  have b := abs_mul f1.1 f1.2 pb.1 pb.2
  have E : 1073741824 * (u * q - v * p) = T * (e * q - f * p) := by
    have i : 1073741824 * (u * q - v * p) = (1073741824 * u) * q - (1073741824 * v) * p := by grind
    rw [i, hu, hv]; grind
  rcases hT with rfl | rfl <;> omega
/-- P10.4: of the norm 1, and pointing where it did. -/
theorem unit_true {p0 p1 p2 p3 : Int} (n1 : 536870912 ≤ wNrm p0 p1 p2 p3) (n2 : wNrm p0 p1 p2 p3 ≤ 2146435072) :
    ∃ z : Int, ∃ h : Nat, wRs (wLvU (wNrm p0 p1 p2 p3)) = z ∧ wLvH (wNrm p0 p1 p2 p3) = h ∧
      (-68719476736 < wScale p0 z h * wScale p0 z h + wScale p1 z h * wScale p1 z h + wScale p2 z h * wScale p2 z h + wScale p3 z h * wScale p3 z h - 1152921504606846976
        ∧ wScale p0 z h * wScale p0 z h + wScale p1 z h * wScale p1 z h + wScale p2 z h * wScale p2 z h + wScale p3 z h * wScale p3 z h - 1152921504606846976 < 68719476736)
      ∧ (∀ p, p = p0 ∨ p = p1 ∨ p = p2 ∨ p = p3 → -1342177280 ≤ wScale p z h ∧ wScale p z h ≤ 1342177280)
      ∧ (∀ p q, (p = p0 ∨ p = p1 ∨ p = p2 ∨ p = p3) → (q = p0 ∨ q = p1 ∨ q = p2 ∨ q = p3) → -8589934592 < wScale p z h * q - wScale q z h * p ∧ wScale p z h * q - wScale q z h * p < 8589934592) := by
  obtain ⟨al, hn, al1, al2⟩ := nrm_eq (p0 := p0) (p1 := p1) (p2 := p2) (p3 := p3) (by omega)
  obtain ⟨h, hh, h15, z1, z2, g2, g1, A1, A2⟩ := rs_true (x := wNrm p0 p1 p2 p3) (by omega) (by omega)
  obtain ⟨z, hz⟩ : ∃ z, wRs (wLvU (wNrm p0 p1 p2 p3)) = z := ⟨_, rfl⟩
  rw [hz] at z1 z2 A1 A2
  refine ⟨z, h, hz, hh, ?_⟩
  generalize wNrm p0 p1 p2 p3 = n at *
  have h1 : h ≤ 1 := by
    apply Nat.le_of_not_lt; intro hlt
    obtain ⟨k, rfl⟩ : ∃ k, h = 2 + k := ⟨h - 2, by omega⟩
    have e : (2 : Int) ^ (2 * (2 + k)) = 16 * (2 ^ (2 * k)) := by rw [show 2 * (2 + k) = 4 + 2 * k by omega, Int.pow_add]; rfl
    have p := pow_pos' (2 * k)
    rw [e] at g2
    have := Int.mul_le_mul_of_nonneg_left (show (16 : Int) ≤ 16 * 2 ^ (2 * k) by omega) (show 0 ≤ n by omega)
    omega
  have s0 := sqq p0
  have s1 := sqq p1
  have s2 := sqq p2
  have s3 := sqq p3
  have w : n * 2 ^ (2 * h) * (z * z) ≤ 1237940094625612496027779072 := by omega
  obtain ⟨e0, q0, a0, b0, c0, t0⟩ := part_eq (p := p0) (z := z) (n := n) (rest := p1 * p1 + p2 * p2 + p3 * p3) (al := al) (h := h) (by omega) (by omega) al1 h1 (by omega) z2 w
  obtain ⟨e1, q1, a1, b1, c1, t1⟩ := part_eq (p := p1) (z := z) (n := n) (rest := p0 * p0 + p2 * p2 + p3 * p3) (al := al) (h := h) (by omega) (by omega) al1 h1 (by omega) z2 w
  obtain ⟨e2, q2, a2, b2, c2, t2⟩ := part_eq (p := p2) (z := z) (n := n) (rest := p0 * p0 + p1 * p1 + p3 * p3) (al := al) (h := h) (by omega) (by omega) al1 h1 (by omega) z2 w
  obtain ⟨e3, q3, a3, b3, c3, t3⟩ := part_eq (p := p3) (z := z) (n := n) (rest := p0 * p0 + p1 * p1 + p2 * p2) (al := al) (h := h) (by omega) (by omega) al1 h1 (by omega) z2 w
  have bp : ∀ {p rest : Int}, 1073741824 * n = p * p + rest + al → 0 ≤ rest → -1518500250 ≤ p ∧ p ≤ 1518500250 := by
    intro p rest x1 x2
    exact by_sq (by decide) (by omega)
  have tt := hTwo h1
  refine ⟨?_, by rintro p (rfl | rfl | rfl | rfl) <;> assumption, ?_⟩
  rotate_left
  · have v0 := bp (p := p0) (rest := p1 * p1 + p2 * p2 + p3 * p3) (by omega) (by omega)
    have v1 := bp (p := p1) (rest := p0 * p0 + p2 * p2 + p3 * p3) (by omega) (by omega)
    have v2 := bp (p := p2) (rest := p0 * p0 + p1 * p1 + p3 * p3) (by omega) (by omega)
    have v3 := bp (p := p3) (rest := p0 * p0 + p1 * p1 + p2 * p2) (by omega) (by omega)
    have all : ∀ p, (p = p0 ∨ p = p1 ∨ p = p2 ∨ p = p3) → ∃ e, 1073741824 * wScale p z h = 2 ^ h * (p * z + e) ∧ (-536870912 ≤ e ∧ e ≤ 536870912) ∧ (-1518500250 ≤ p ∧ p ≤ 1518500250) := by
      rintro p (rfl | rfl | rfl | rfl)
      · exact ⟨e0, q0, ⟨a0, b0⟩, v0⟩
      · exact ⟨e1, q1, ⟨a1, b1⟩, v1⟩
      · exact ⟨e2, q2, ⟨a2, b2⟩, v2⟩
      · exact ⟨e3, q3, ⟨a3, b3⟩, v3⟩
    intro p q hp hq
    obtain ⟨e, x1, x2, x3⟩ := all p hp
    obtain ⟨f, y1, y2, y3⟩ := all q hq
    exact cross_eq tt x1 y1 x2 y2 x3 y3
  clear t0 t1 t2 t3 bp
  generalize wScale p0 z h = u0 at *
  generalize wScale p1 z h = u1 at *
  generalize wScale p2 z h = u2 at *
  generalize wScale p3 z h = u3 at *
  obtain ⟨T, hT⟩ : ∃ T : Int, T = 2 ^ h := ⟨_, rfl⟩
  have hT2 : T = 1 ∨ T = 2 := by
    rcases (show h = 0 ∨ h = 1 by omega) with rfl | rfl
    · left; rw [hT]; rfl
    · right; rw [hT]; rfl
  have hp2 : (2 : Int) ^ (2 * h) = T * T := by rw [pow_two, hT]
  rw [hp2] at A1 A2
  rw [← hT] at q0 q1 q2 q3 c0 c1 c2 c3
  -- what is near, and what is lost
  obtain ⟨de, hde⟩ : ∃ de, de = 1237940039285380274899124224 - n * (T * T) * (z * z) := ⟨_, rfl⟩
  rw [← hde] at A1 A2
  have zz := sqq z
  have TT1 : 1 ≤ T * T := by rcases hT2 with rfl | rfl <;> decide
  have TT4 : T * T ≤ 4 := by rcases hT2 with rfl | rfl <;> decide
  have Tz : 0 ≤ T * T * (z * z) := Int.mul_nonneg (by omega) zz
  have Tzb : T * T * (z * z) ≤ 2305844108725321728 := by
    apply Int.not_lt.1; intro hlt
    have q := Int.mul_le_mul n1 (show 2305844108725321728 ≤ T * T * (z * z) by omega) (by decide) (by omega)
    have e : n * (T * T * (z * z)) = n * (T * T) * (z * z) := by grind
    omega
  have k0 := abs_mul (a := T * T * (z * z)) (b := al) (A := 2305844108725321728) (B := 2147483648) (by omega) Tzb al1 al2
  have m : ∀ {p e : Int}, -1154047404513689600 ≤ T * (p * z) → T * (p * z) ≤ 1154047404513689600 → -536870912 ≤ e → e ≤ 536870912 → -2478297930209989808147660800 ≤ T * (2 * (T * (p * z) * e)) ∧ T * (2 * (T * (p * z) * e)) ≤ 2478297930209989808147660800 := by
    intro p e x1 x2 x3 x4
    have y := abs_mul x1 x2 x3 x4
    rcases hT2 with rfl | rfl <;> omega
  have f0 := m c0.1 c0.2 a0 b0
  have f1 := m c1.1 c1.2 a1 b1
  have f2 := m c2.1 c2.2 a2 b2
  have f3 := m c3.1 c3.2 a3 b3
  have sm : ∀ {e : Int}, -536870912 ≤ e → e ≤ 536870912 → 0 ≤ T * T * (e * e) ∧ T * T * (e * e) ≤ 1152921504606846976 := by
    intro e x3 x4
    have y := abs_mul x3 x4 x3 x4
    have y0 := sqq e
    exact ⟨Int.mul_nonneg (by omega) y0, by
      have := Int.mul_le_mul TT4 (show e * e ≤ 288230376151711744 by omega) y0 (by decide)
      omega⟩
  have g0 := sm a0 b0
  have g1' := sm a1 b1
  have g2' := sm a2 b2
  have g3 := sm a3 b3
  have E : 1152921504606846976 * (u0 * u0 + u1 * u1 + u2 * u2 + u3 * u3 - 1152921504606846976) = -(1073741824 * de) - T * T * (z * z) * al
      + (T * (2 * (T * (p0 * z) * e0)) + T * (2 * (T * (p1 * z) * e1)) + T * (2 * (T * (p2 * z) * e2)) + T * (2 * (T * (p3 * z) * e3)))
      + (T * T * (e0 * e0) + T * T * (e1 * e1) + T * T * (e2 * e2) + T * T * (e3 * e3)) := by
    have i0 : 1152921504606846976 * (u0 * u0) = (1073741824 * u0) * (1073741824 * u0) := by grind
    have i1 : 1152921504606846976 * (u1 * u1) = (1073741824 * u1) * (1073741824 * u1) := by grind
    have i2 : 1152921504606846976 * (u2 * u2) = (1073741824 * u2) * (1073741824 * u2) := by grind
    have i3 : 1152921504606846976 * (u3 * u3) = (1073741824 * u3) * (1073741824 * u3) := by grind
    have j : 1152921504606846976 * (u0 * u0 + u1 * u1 + u2 * u2 + u3 * u3 - 1152921504606846976) = 1152921504606846976 * (u0 * u0) + 1152921504606846976 * (u1 * u1) + 1152921504606846976 * (u2 * u2) + 1152921504606846976 * (u3 * u3) - 1329227995784915872903807060280344576 := by omega
    rw [j, i0, i1, i2, i3, q0, q1, q2, q3]
    have l : 1329227995784915872903807060280344576 = 1073741824 * de + 1073741824 * (n * (T * T) * (z * z)) := by omega
    rw [l]
    have l2 : 1073741824 * (n * (T * T) * (z * z)) = (1073741824 * n) * (T * T * (z * z)) := by grind
    rw [l2, hn]
    grind
  constructor
  · omega
  · omega
end Go.Proofs.Ytdphiobmjdiefaa
