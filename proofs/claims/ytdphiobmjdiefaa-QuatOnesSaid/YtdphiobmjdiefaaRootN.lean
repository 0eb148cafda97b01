/- Roots, and 1 by roots: what layer 8's functions mean, and how near they come. Nothing of any program. -/
import Derived.Test.YtdphiobmjdiefaaNum
namespace Go.Proofs.Ytdphiobmjdiefaa
open Go.RowKit

/-- The level of a number: how far it is shifted (an even number), the shifted number by 4, and half of how far. -/
def wLvT (x : Int) : Int := wClz x % 32 / 2 * 2
def wLvU (x : Int) : Int := wShr (wShl x (wLvT x)) 2
def wLvH (x : Int) : Int := wLvT x / 2
/-- 1 by the root: the beginning, what is left, and a step. -/
def wRs0 (u : Int) : Int := wCut (1184766729 - wMulq 715827883 u)
def wRsE (u z : Int) : Int := wCut (1073741824 - wShl (wMulq u (wMulq z z)) 2)
def wRsZ (u z : Int) : Int := wCut (z + wSar (wMulq z (wRsE u z)) 1)
def wRs (u : Int) : Int := wRsZ u (wRsZ u (wRsZ u (wRsZ u (wRs0 u))))
def wScale (v z h : Int) : Int := wShl (wMulq v z) h
def wSqrt (x : Int) : Int := wScale x (wRs (wLvU x)) (wLvH x)
/-- 1 by a number: the shifted number by 4, the beginning, what is left, and a step. -/
def wRcV (x : Int) : Int := wShr (wShl x (wClz x)) 2
def wRc0 (v : Int) : Int := wCut (1564549212 - v)
def wRcE (v z : Int) : Int := wCut (1073741824 - wShl (wMulq v z) 1)
def wRcZ (v z : Int) : Int := wCut (z + wMulq z (wRcE v z))
def wRc (v : Int) : Int := wRcZ v (wRcZ v (wRcZ v (wRcZ v (wRc0 v))))

theorem wRsE_bd (u z : Int) : -2147483648 ≤ wRsE u z ∧ wRsE u z ≤ 2147483647 := wCut_bd _
theorem wRsZ_bd (u z : Int) : -2147483648 ≤ wRsZ u z ∧ wRsZ u z ≤ 2147483647 := wCut_bd _
theorem wRs0_bd (u : Int) : -2147483648 ≤ wRs0 u ∧ wRs0 u ≤ 2147483647 := wCut_bd _
theorem wRs_bd (u : Int) : -2147483648 ≤ wRs u ∧ wRs u ≤ 2147483647 := wCut_bd _
theorem wRcE_bd (v z : Int) : -2147483648 ≤ wRcE v z ∧ wRcE v z ≤ 2147483647 := wCut_bd _
theorem wRcZ_bd (v z : Int) : -2147483648 ≤ wRcZ v z ∧ wRcZ v z ≤ 2147483647 := wCut_bd _
theorem wRc0_bd (v : Int) : -2147483648 ≤ wRc0 v ∧ wRc0 v ≤ 2147483647 := wCut_bd _
theorem wRc_bd (v : Int) : -2147483648 ≤ wRc v ∧ wRc v ≤ 2147483647 := wCut_bd _
theorem wLvT_bd (x : Int) : 0 ≤ wLvT x ∧ wLvT x ≤ 30 := by unfold wLvT; omega
theorem wLvH_bd (x : Int) : 0 ≤ wLvH x ∧ wLvH x ≤ 15 := by have := wLvT_bd x; unfold wLvH; omega
theorem wLvU_bd (x : Int) : -2147483648 ≤ wLvU x ∧ wLvU x ≤ 2147483647 := wShr_bd _ _
theorem wRcV_bd (x : Int) : -2147483648 ≤ wRcV x ∧ wRcV x ≤ 2147483647 := wShr_bd _ _
theorem wSqrt_bd (x : Int) : -2147483648 ≤ wSqrt x ∧ wSqrt x ≤ 2147483647 := wShl_bd _ _

theorem shl_wrap (x n : Int) : wShl x n = wrap32 (x * 2 ^ sn n) := by unfold wShl; rw [← wd_mul_pow, sg_wd]
theorem shr_div (x n : Int) : wShr x n = wrap32 (x % 4294967296 / 2 ^ sn n) := by unfold wShr; rw [sg_us, ← us_shr, us_wd]

theorem abs_mul {a b A B : Int} (h1 : -A ≤ a) (h2 : a ≤ A) (h3 : -B ≤ b) (h4 : b ≤ B) : -(A * B) ≤ a * b ∧ a * b ≤ A * B := by
  have p1 := Int.mul_nonneg (show 0 ≤ A - a by omega) (show 0 ≤ B + b by omega)
  have p2 := Int.mul_nonneg (show 0 ≤ A + a by omega) (show 0 ≤ B - b by omega)
  have p3 := Int.mul_nonneg (show 0 ≤ A - a by omega) (show 0 ≤ B - b by omega)
  have p4 := Int.mul_nonneg (show 0 ≤ A + a by omega) (show 0 ≤ B + b by omega)
  grind
/-- A product of Q2.30 that needs no cut: what is lost is half a unit at most. -/
theorem mulq_ex {a b : Int} (h1 : -2147483648 * 1073741824 ≤ a * b) (h2 : a * b ≤ 2147483647 * 1073741824) :
    ∃ al, 1073741824 * wMulq a b = a * b + al ∧ -536870912 ≤ al ∧ al ≤ 536870912 := by
  refine ⟨536870912 - (a * b + 536870912) % 1073741824, ?_, by omega, by omega⟩
  unfold wMulq wCut
  omega
theorem cut_in {x : Int} (h1 : -2147483648 ≤ x) (h2 : x ≤ 2147483647) : wCut x = x := by unfold wCut; omega
theorem shl_2 {x : Int} (h1 : -536870912 ≤ x) (h2 : x ≤ 536870911) : wShl x 2 = 4 * x := by
  rw [shl_wrap, show sn 2 = 2 from rfl]; unfold wrap32; omega
theorem shl_1 {x : Int} (h1 : -1073741824 ≤ x) (h2 : x ≤ 1073741823) : wShl x 1 = 2 * x := by
  rw [shl_wrap, show sn 1 = 1 from rfl]; unfold wrap32; omega
theorem sar_1 {x : Int} (h1 : -2147483648 ≤ x) (h2 : x ≤ 2147483647) : wSar x 1 = x / 2 := by
  rw [wSar_eq h1 h2]; rfl

/-- z is 1 by the root of 4 u, but for D. -/
def RsIn (u z D : Int) : Prop := 0 < z ∧ -D ≤ 1237940039285380274899124224 - 4 * (u * (z * z)) ∧ 1237940039285380274899124224 - 4 * (u * (z * z)) ≤ D

theorem rs_hi {u z D : Int} (u1 : 268435456 ≤ u) (h : RsIn u z D) (hD : D ≤ 386856262276681335905976320) : z ≤ 1234803098 := by
  obtain ⟨h0, h1, h2⟩ := h
  apply Int.not_lt.1; intro hlt
  have p := Int.mul_le_mul (show (1234803098 : Int) ≤ z by omega) (show (1234803098 : Int) ≤ z by omega) (by omega) (by omega)
  have q := Int.mul_le_mul u1 p (by omega) (by omega)
  omega
theorem rs_lo {u z D : Int} (u2 : u ≤ 1073741823) (h : RsIn u z D) (hD : D ≤ 386856262276681335905976320) : 268435456 ≤ z := by
  obtain ⟨h0, h1, h2⟩ := h
  apply Int.not_lt.1; intro hlt
  have p := Int.mul_le_mul (show z ≤ 268435456 by omega) (show z ≤ 268435456 by omega) (by omega) (by omega)
  have q := Int.mul_le_mul u2 p (Int.mul_nonneg (by omega) (by omega)) (by omega)
  omega

theorem rs_new {u z d al be q1 q2 e mu m nu s zp : Int} (h1 : 1073741824 * q1 = z * z + al) (h2 : 1073741824 * q2 = u * q1 + be) (he : e = 1073741824 - 4 * q2)
    (hm : 1073741824 * m = z * e + mu) (hs : 2 * s = m - nu) (hz : zp = z + s) (hd : d = 1237940039285380274899124224 - 4 * (u * (z * z))) :
    2475880078570760549798248448 * zp = z * (2475880078570760549798248448 + d) + (1152921504606846976 * (mu - 1073741824 * nu) - z * (4 * (u * al) + 4294967296 * be)) := by
  grind
theorem rs_left {u z d zp T k : Int} (hd : d = 1237940039285380274899124224 - 4 * (u * (z * z))) (hT : T = z * (2475880078570760549798248448 + d)) (hz : 2475880078570760549798248448 * zp = T + k) :
    6129982163463555433433388108601236734474956488734408704 * (1237940039285380274899124224 - 4 * (u * (zp * zp))) = d * d * (3713820117856140824697372672 + d) - 4 * (u * (2 * (T * k) + k * k)) := by
  have e1 : 6129982163463555433433388108601236734474956488734408704 * (4 * (u * (zp * zp))) = 4 * (u * ((2475880078570760549798248448 * zp) * (2475880078570760549798248448 * zp))) := by grind
  have e2 : 4 * (u * (T * T)) = (1237940039285380274899124224 - d) * ((2475880078570760549798248448 + d) * (2475880078570760549798248448 + d)) := by subst hT; grind
  rw [hz] at e1
  grind

theorem rs_step {u z D D' : Int} (u1 : 268435456 ≤ u) (u2 : u ≤ 1073741823) (h : RsIn u z D) (hD : D ≤ 386856262276681335905976320)
    (hN : D * D * (3713820117856140824697372672 + D) + 282695530364541492733327600118866962532397423500099033299456992206819164160 ≤ 6129982163463555433433388108601236734474956488734408704 * D') : RsIn u (wRsZ u z) D' := by
  have z2 := rs_hi u1 h hD
  have z1 := rs_lo u2 h hD
  obtain ⟨_, d1, d2⟩ := h
  have zz := abs_mul (a := z) (b := z) (A := 1234803098) (B := 1234803098) (by omega) (by omega) (by omega) (by omega)
  have zz0 : 0 ≤ z * z := Int.mul_nonneg (by omega) (by omega)
  obtain ⟨al, h1, a1, a2⟩ := mulq_ex (a := z) (b := z) (by omega) (by omega)
  generalize hq1 : wMulq z z = q1 at h1
  have uq := abs_mul (a := u) (b := q1) (A := 1073741824) (B := 1420023563) (by omega) (by omega) (by omega) (by omega)
  obtain ⟨be, h2, b1, b2⟩ := mulq_ex (a := u) (b := q1) (by omega) (by omega)
  generalize hq2 : wMulq u q1 = q2 at h2
  have ua := abs_mul (a := u) (b := al) (A := 1073741824) (B := 536870912) (by omega) (by omega) (by omega) (by omega)
  have hq : 1152921504606846976 * q2 = u * (z * z) + u * al + 1073741824 * be := by grind
  have sh := shl_2 (x := q2) (by omega) (by omega)
  obtain ⟨e, he⟩ : ∃ e, e = 1073741824 - 4 * q2 := ⟨_, rfl⟩
  have hE : wRsE u z = e := by
    unfold wRsE; rw [hq1, hq2, sh, ← he]; exact cut_in (by omega) (by omega)
  have e1 : -536870912 ≤ e ∧ e ≤ 536870912 := by omega
  have ze := abs_mul (a := z) (b := e) (A := z) (B := 536870912) (by omega) (by omega) e1.1 e1.2
  obtain ⟨mu, hm, m1, m2⟩ := mulq_ex (a := z) (b := e) (by omega) (by omega)
  generalize hmm : wMulq z e = m at hm
  have sr := sar_1 (x := m) (by omega) (by omega)
  obtain ⟨zp, hz⟩ : ∃ zp, zp = z + m / 2 := ⟨_, rfl⟩
  have hZ : wRsZ u z = zp := by
    unfold wRsZ; rw [hE, hmm, sr, ← hz]; exact cut_in (by omega) (by omega)
  rw [hZ]
  obtain ⟨d, hd⟩ : ∃ d, d = 1237940039285380274899124224 - 4 * (u * (z * z)) := ⟨_, rfl⟩
  rw [← hd] at d1 d2
  have N1 := rs_new (s := m / 2) (nu := m % 2) (zp := zp) h1 h2 he hm (by omega) hz hd
  have N2 := rs_left (T := z * (2475880078570760549798248448 + d)) (k := 1152921504606846976 * (mu - 1073741824 * (m % 2)) - z * (4 * (u * al) + 4294967296 * be)) hd rfl N1
  have g := abs_mul (a := z) (b := 4 * (u * al) + 4294967296 * be) (A := 1234803098) (B := 4611686018427387904) (by omega) (by omega) (by omega) (by omega)
  have hk : -7551434241485494084255612928 ≤ 1152921504606846976 * (mu - 1073741824 * (m % 2)) - z * (4 * (u * al) + 4294967296 * be) ∧ 1152921504606846976 * (mu - 1073741824 * (m % 2)) - z * (4 * (u * al) + 4294967296 * be) ≤ 7551434241485494084255612928 := by omega
  generalize 1152921504606846976 * (mu - 1073741824 * (m % 2)) - z * (4 * (u * al) + 4294967296 * be) = k at *
  have T1 := abs_mul (a := z) (b := 2475880078570760549798248448 + d) (A := 1234803098) (B := 2862736340847441885704224768) (by omega) (by omega) (by omega) (by omega)
  generalize z * (2475880078570760549798248448 + d) = T at *
  have tk := abs_mul (a := T) (b := k) (A := 3534915702435605185842538655214731264) (B := 7551434241485494084255612928) (by omega) (by omega) hk.1 hk.2
  have kk := abs_mul (a := k) (b := k) (A := 7551434241485494084255612928) (B := 7551434241485494084255612928) hk.1 hk.2 hk.1 hk.2
  have un := abs_mul (a := u) (b := 2 * (T * k) + k * k) (A := 1073741824) (B := 53387367009298112623086150778484512868202279190610098079209095168) (by omega) (by omega) (by omega) (by omega)
  have dd := abs_mul d1 d2 d1 d2
  have dd0 : 0 ≤ d * d := by
    rcases (show 0 ≤ d ∨ d ≤ 0 by omega) with h | h
    · exact Int.mul_nonneg h h
    · have := Int.mul_nonneg (show 0 ≤ -d by omega) (show 0 ≤ -d by omega)
      grind
  have c0 : 0 ≤ d * d * (3713820117856140824697372672 + d) := Int.mul_nonneg dd0 (by omega)
  have c1 : d * d * (3713820117856140824697372672 + d) ≤ D * D * (3713820117856140824697372672 + D) := Int.mul_le_mul dd.2 (by omega) (by omega) (by have := Int.mul_nonneg (show 0 ≤ D by omega) (show 0 ≤ D by omega); omega)
  refine ⟨by omega, ?_, ?_⟩
  · omega
  · omega

/-- The beginning, piece by piece. -/
theorem rs_grid : ((List.range 48).all fun i =>
    decide (4 * (((i : Int) + 17) * 16777216 * ((1272133589147844608 - 715827883 * (((i : Int) + 16) * 16777216)) * (1272133589147844608 - 715827883 * (((i : Int) + 16) * 16777216)))) ≤ 1873262596676572343889000334902462366502354944)
    && decide (981232788735347418227571603996527906263138304 ≤ 4 * (((i : Int) + 16) * 16777216 * ((1272133588074102784 - 715827883 * (((i : Int) + 17) * 16777216)) * (1272133588074102784 - 715827883 * (((i : Int) + 17) * 16777216)))))
    && decide (0 < 1272133588074102784 - 715827883 * (((i : Int) + 17) * 16777216))) = true := by decide +kernel
theorem rs_start {u : Int} (u1 : 268435456 ≤ u) (u2 : u ≤ 1073741823) : RsIn u (wRs0 u) 386856262276681335905976320 := by
  obtain ⟨al, h1, a1, a2⟩ := mulq_ex (a := 715827883) (b := u) (by omega) (by omega)
  have hz : wRs0 u = 1184766729 - wMulq 715827883 u := cut_in (by omega) (by omega)
  rw [hz]
  obtain ⟨y, hy⟩ : ∃ y, y = 1184766729 - wMulq 715827883 u := ⟨_, rfl⟩
  rw [← hy]
  have hy2 : 1073741824 * y = 1272133588610973696 - 715827883 * u - al := by omega
  obtain ⟨i, hi⟩ : ∃ i : Nat, (i : Int) = u / 16777216 - 16 := ⟨(u / 16777216 - 16).toNat, by omega⟩
  have g := List.all_eq_true.1 rs_grid i (List.mem_range.2 (by omega))
  simp only [Bool.and_eq_true, decide_eq_true_eq] at g
  obtain ⟨⟨g1, g2⟩, g3⟩ := g
  have i1 : ((i : Int) + 16) * 16777216 ≤ u := by omega
  have i2 : u ≤ ((i : Int) + 17) * 16777216 := by omega
  have i0 : 0 ≤ ((i : Int) + 16) * 16777216 := by omega
  generalize ((i : Int) + 16) * 16777216 = A at *
  generalize ((i : Int) + 17) * 16777216 = B at *
  have l1 : 1272133588074102784 - 715827883 * B ≤ 1073741824 * y := by omega
  have l2 : 1073741824 * y ≤ 1272133589147844608 - 715827883 * A := by omega
  generalize 1272133588074102784 - 715827883 * B = L at *
  generalize 1272133589147844608 - 715827883 * A = H at *
  have p1 := Int.mul_le_mul l1 l1 (by omega) (by omega)
  have p2 := Int.mul_le_mul l2 l2 (by omega) (by omega)
  have q1 := Int.mul_le_mul i1 p1 (Int.mul_nonneg (by omega) (by omega)) (by omega)
  have q2 := Int.mul_le_mul i2 p2 (Int.mul_nonneg (by omega) (by omega)) (by omega)
  have e : u * (1073741824 * y * (1073741824 * y)) = 1152921504606846976 * (u * (y * y)) := by grind
  rw [e] at q1 q2
  refine ⟨by omega, by omega, by omega⟩
/-- Four steps: 1 by the root, but for some 25 bits. -/
theorem rs_all {u : Int} (u1 : 268435456 ≤ u) (u2 : u ≤ 1073741823) : RsIn u (wRs u) 50728546202701266944 := by
  have s0 := rs_start u1 u2
  have s1 := rs_step (D' := 101549768847628850675318784) u1 u2 s0 (by decide) (by decide)
  have s2 := rs_step (D' := 6649092007880460460883968) u1 u2 s1 (by decide) (by decide)
  have s3 := rs_step (D' := 28334198897217871282176) u1 u2 s2 (by decide) (by decide)
  exact rs_step (D' := 50728546202701266944) u1 u2 s3 (by decide) (by decide)
theorem rs_top {u : Int} (u1 : 268435456 ≤ u) (u2 : u ≤ 1073741823) : wRs u ≤ 1073741824 + 1024 := by
  obtain ⟨h0, h1, h2⟩ := rs_all u1 u2
  apply Int.not_lt.1; intro hlt
  have p := Int.mul_le_mul (show (1073742848 : Int) ≤ wRs u by omega) (show (1073742848 : Int) ≤ wRs u by omega) (by omega) (by omega)
  have q := Int.mul_le_mul u1 p (by omega) (by omega)
  omega

/-- z is 1 by 2 v, but for D. -/
def RcIn (v z D : Int) : Prop := 0 < z ∧ -D ≤ 1152921504606846976 - 2 * (v * z) ∧ 1152921504606846976 - 2 * (v * z) ≤ D
theorem rc_hi {v z D : Int} (v1 : 536870912 ≤ v) (h : RcIn v z D) (hD : D ≤ 144115188075855872) : z ≤ 1207959552 := by
  obtain ⟨h0, h1, h2⟩ := h
  apply Int.not_lt.1; intro hlt
  have q := Int.mul_le_mul v1 (show (1207959552 : Int) + 1 ≤ z by omega) (by omega) (by omega)
  omega
theorem rc_lo {v z D : Int} (v2 : v ≤ 1073741823) (h : RcIn v z D) (hD : D ≤ 144115188075855872) : 469762048 ≤ z := by
  obtain ⟨h0, h1, h2⟩ := h
  apply Int.not_lt.1; intro hlt
  have q := Int.mul_le_mul v2 (show z ≤ 469762048 by omega) (by omega) (by omega)
  omega
theorem rc_left {v z d be q e mu m zp : Int} (h1 : 1073741824 * q = v * z + be) (he : e = 1073741824 - 2 * q) (hm : 1073741824 * m = z * e + mu) (hz : zp = z + m) (hd : d = 1152921504606846976 - 2 * (v * z)) :
    1152921504606846976 * (1152921504606846976 - 2 * (v * zp)) = d * d - 2 * (v * (1073741824 * mu - 2 * (z * be))) := by
  have e1 : 1152921504606846976 * zp = z * (1152921504606846976 + d) + (1073741824 * mu - 2 * (z * be)) := by grind
  have e2 : 1152921504606846976 * (2 * (v * zp)) = 2 * (v * (1152921504606846976 * zp)) := by grind
  rw [e1] at e2
  grind
theorem rc_step {v z D D' : Int} (v1 : 536870912 ≤ v) (v2 : v ≤ 1073741823) (h : RcIn v z D) (hD : D ≤ 144115188075855872) (hN : D * D + 4951760157141521099596496896 ≤ 1152921504606846976 * D') : RcIn v (wRcZ v z) D' := by
  have z2 := rc_hi v1 h hD
  have z1 := rc_lo v2 h hD
  obtain ⟨_, d1, d2⟩ := h
  have vz := abs_mul (a := v) (b := z) (A := 1073741824) (B := 1207959552) (by omega) (by omega) (by omega) (by omega)
  obtain ⟨be, h1, b1, b2⟩ := mulq_ex (a := v) (b := z) (by omega) (by omega)
  generalize hq : wMulq v z = q at h1
  have sh := shl_1 (x := q) (by omega) (by omega)
  obtain ⟨e, he⟩ : ∃ e, e = 1073741824 - 2 * q := ⟨_, rfl⟩
  have hE : wRcE v z = e := by
    unfold wRcE; rw [hq, sh, ← he]; exact cut_in (by omega) (by omega)
  have e1 : -268435456 ≤ e ∧ e ≤ 268435456 := by omega
  have ze := abs_mul (a := z) (b := e) (A := z) (B := 268435456) (by omega) (by omega) e1.1 e1.2
  obtain ⟨mu, hm, m1, m2⟩ := mulq_ex (a := z) (b := e) (by omega) (by omega)
  generalize hmm : wMulq z e = m at hm
  obtain ⟨zp, hz⟩ : ∃ zp, zp = z + m := ⟨_, rfl⟩
  have hZ : wRcZ v z = zp := by
    unfold wRcZ; rw [hE, hmm, ← hz]; exact cut_in (by omega) (by omega)
  rw [hZ]
  obtain ⟨d, hd⟩ : ∃ d, d = 1152921504606846976 - 2 * (v * z) := ⟨_, rfl⟩
  rw [← hd] at d1 d2
  have L := rc_left h1 he hm hz hd
  have zb := abs_mul (a := z) (b := be) (A := 1207959552) (B := 536870912) (by omega) (by omega) (by omega) (by omega)
  have vk := abs_mul (a := v) (b := 1073741824 * mu - 2 * (z * be)) (A := 1073741824) (B := 1873497444986126336) (by omega) (by omega) (by omega) (by omega)
  have dd := abs_mul d1 d2 d1 d2
  have dd0 : 0 ≤ d * d := by
    rcases (show 0 ≤ d ∨ d ≤ 0 by omega) with h | h
    · exact Int.mul_nonneg h h
    · have := Int.mul_nonneg (show 0 ≤ -d by omega) (show 0 ≤ -d by omega)
      grind
  refine ⟨by omega, by omega, by omega⟩
theorem rc_grid : ((List.range 32).all fun i =>
    decide (2 * ((((i : Int) + 33) * 16777216) * (1564549212 - ((i : Int) + 32) * 16777216)) ≤ 1297036692682702848)
    && decide (1008806316530991104 ≤ 2 * ((((i : Int) + 32) * 16777216) * (1564549212 - ((i : Int) + 33) * 16777216)))) = true := by decide +kernel
theorem rc_start {v : Int} (v1 : 536870912 ≤ v) (v2 : v ≤ 1073741823) : RcIn v (wRc0 v) 144115188075855872 := by
  have hz : wRc0 v = 1564549212 - v := cut_in (by omega) (by omega)
  rw [hz]
  obtain ⟨i, hi⟩ : ∃ i : Nat, (i : Int) = v / 16777216 - 32 := ⟨(v / 16777216 - 32).toNat, by omega⟩
  have g := List.all_eq_true.1 rc_grid i (List.mem_range.2 (by omega))
  simp only [Bool.and_eq_true, decide_eq_true_eq] at g
  obtain ⟨g1, g2⟩ := g
  have i1 : ((i : Int) + 32) * 16777216 ≤ v := by omega
  have i2 : v ≤ ((i : Int) + 33) * 16777216 := by omega
  have i0 : 0 ≤ ((i : Int) + 32) * 16777216 := by omega
  have i3 : ((i : Int) + 33) * 16777216 ≤ 1073741824 := by omega
  generalize ((i : Int) + 32) * 16777216 = A at *
  generalize ((i : Int) + 33) * 16777216 = B at *
  have q1 := Int.mul_le_mul i1 (show 1564549212 - B ≤ 1564549212 - v by omega) (by omega) (by omega)
  have q2 := Int.mul_le_mul i2 (show 1564549212 - v ≤ 1564549212 - A by omega) (by omega) (by omega)
  refine ⟨by omega, by omega, by omega⟩
theorem rc_all {v : Int} (v1 : 536870912 ≤ v) (v2 : v ≤ 1073741823) : RcIn v (wRc v) 4294971921 := by
  have s0 := rc_start v1 v2
  have s1 := rc_step (D' := 18014402804449280) v1 v2 s0 (by decide) (by decide)
  have s2 := rc_step (D' := 281479405895696) v1 v2 s1 (by decide) (by decide)
  have s3 := rc_step (D' := 73016606738) v1 v2 s2 (by decide) (by decide)
  exact rc_step (D' := 4294971921) v1 v2 s3 (by decide) (by decide)
theorem rc_top {v : Int} (v1 : 536870912 ≤ v) (v2 : v ≤ 1073741823) : wRc v ≤ 1073741824 + 1024 := by
  obtain ⟨h0, h1, h2⟩ := rc_all v1 v2
  apply Int.not_lt.1; intro hlt
  have q := Int.mul_le_mul v1 (show (1073742848 : Int) ≤ wRc v by omega) (by omega) (by omega)
  omega
theorem rc_bot {v : Int} (v1 : 536870912 ≤ v) (v2 : v ≤ 1073741823) : 268435456 ≤ wRc v := by
  have := rc_lo v2 (rc_all v1 v2) (by decide)
  omega

theorem clz_rng {x : Int} (h1 : 1 ≤ x) (h2 : x ≤ 2147483647) : ∃ c : Nat, wClz x = c ∧ 1 ≤ c ∧ c ≤ 31 ∧ 2147483648 ≤ x * 2 ^ c ∧ x * 2 ^ c < 4294967296 := by
  have e := clz_len (wd x)
  have hn : ((wd x).toNat : Int) = x := by
    have h3 := us_wd x
    unfold us at h3; omega
  obtain ⟨n, rfl⟩ : ∃ n : Nat, x = n := ⟨x.toNat, by omega⟩
  have hn' : (wd (n : Int)).toNat = n := by omega
  rw [hn'] at e
  obtain ⟨l1, l2⟩ := bitLen_hi 31 n (by omega) (by decide)
  have l3 := l2 (by omega)
  have b1 : Lib.bitLen n ≤ 31 := by
    apply Nat.le_of_not_lt; intro hlt
    have p := Nat.pow_le_pow_right (n := 2) (by decide) hlt
    have q : (2 : Nat) ^ Nat.succ 31 = 4294967296 := by decide
    omega
  have b2 : 1 ≤ Lib.bitLen n := by
    apply Nat.le_of_not_lt; intro hlt
    have : Lib.bitLen n = 0 := by omega
    rw [this] at l1; omega
  refine ⟨32 - Lib.bitLen n, by unfold wClz; omega, by omega, by omega, ?_, ?_⟩
  · have p : 2 ^ Lib.bitLen n * 2 ^ (32 - Lib.bitLen n) = 4294967296 := by rw [← Nat.pow_add, show Lib.bitLen n + (32 - Lib.bitLen n) = 32 by omega]
    have q := Nat.mul_le_mul_right (2 ^ (32 - Lib.bitLen n)) l3
    rw [p, Nat.mul_assoc] at q
    have r : ((n : Int) * 2 ^ (32 - Lib.bitLen n)) = ((n * 2 ^ (32 - Lib.bitLen n) : Nat) : Int) := by simp
    rw [r]; omega
  · have p : 2 ^ Lib.bitLen n * 2 ^ (32 - Lib.bitLen n) = 4294967296 := by rw [← Nat.pow_add, show Lib.bitLen n + (32 - Lib.bitLen n) = 32 by omega]
    have q := Nat.mul_lt_mul_of_pos_right l1 (show 0 < 2 ^ (32 - Lib.bitLen n) from Nat.pow_pos (by decide))
    rw [p] at q
    have r : ((n : Int) * 2 ^ (32 - Lib.bitLen n)) = ((n * 2 ^ (32 - Lib.bitLen n) : Nat) : Int) := by simp
    rw [r]; omega
theorem sn_nat {k : Nat} (h : k ≤ 31) : sn k = k := by unfold sn; omega
theorem shifted {x : Int} {k : Nat} (hk : k ≤ 31) (h1 : 0 ≤ x * 2 ^ k) (h2 : x * 2 ^ k < 4294967296) : wShr (wShl x k) 2 = x * 2 ^ k / 4 := by
  rw [shl_wrap, shr_div, sn_nat hk, show sn 2 = 2 from rfl]
  generalize x * 2 ^ k = y at *
  unfold wrap32; omega
/-- The level of a number from 1 on. -/
theorem lv_rng {x : Int} (h1 : 1 ≤ x) (h2 : x ≤ 2147483647) :
    ∃ h : Nat, wLvH x = h ∧ h ≤ 15 ∧ 1073741824 ≤ x * 2 ^ (2 * h) ∧ x * 2 ^ (2 * h) < 4294967296 ∧ wLvU x = x * 2 ^ (2 * h) / 4 := by
  obtain ⟨c, hc, c1, c2, c3, c4⟩ := clz_rng h1 h2
  have ht : wLvT x = ((2 * (c / 2) : Nat) : Int) := by unfold wLvT; rw [hc]; omega
  have g : 1073741824 ≤ x * 2 ^ (2 * (c / 2)) ∧ x * 2 ^ (2 * (c / 2)) < 4294967296 := by
    rcases (show c = 2 * (c / 2) ∨ c = 2 * (c / 2) + 1 by omega) with h | h
    · rw [← h]; omega
    · rw [h, Int.pow_succ, ← Int.mul_assoc] at c3 c4; omega
  refine ⟨c / 2, by unfold wLvH; rw [ht]; omega, by omega, g.1, g.2, ?_⟩
  unfold wLvU
  rw [ht, shifted (by omega) (by omega) g.2]
theorem rcv_rng {x : Int} (h1 : 1 ≤ x) (h2 : x ≤ 2147483647) :
    ∃ c : Nat, wClz x = c ∧ 1 ≤ c ∧ c ≤ 31 ∧ 2147483648 ≤ x * 2 ^ c ∧ x * 2 ^ c < 4294967296 ∧ wRcV x = x * 2 ^ c / 4 := by
  obtain ⟨c, hc, c1, c2, c3, c4⟩ := clz_rng h1 h2
  refine ⟨c, hc, c1, c2, c3, c4, ?_⟩
  unfold wRcV
  rw [hc, shifted c2 (by omega) c4]

/-- 1 by the root, of any number from 1 on: how far its square, times the number, is from 2^90. -/
theorem rs_true {x : Int} (h1 : 1 ≤ x) (h2 : x ≤ 2147483647) :
    ∃ h : Nat, wLvH x = h ∧ h ≤ 15 ∧ 268435456 ≤ wRs (wLvU x) ∧ wRs (wLvU x) ≤ 1073742848 ∧ x * 2 ^ (2 * h) < 4294967296 ∧ 1073741824 ≤ x * 2 ^ (2 * h) ∧
      -55340232221128654848 ≤ 1237940039285380274899124224 - x * 2 ^ (2 * h) * (wRs (wLvU x) * wRs (wLvU x)) ∧ 1237940039285380274899124224 - x * 2 ^ (2 * h) * (wRs (wLvU x) * wRs (wLvU x)) ≤ 50728546202701266944 := by
  obtain ⟨h, hh, h15, g1, g2, hu⟩ := lv_rng h1 h2
  have u1 : 268435456 ≤ wLvU x := by omega
  have u2 : wLvU x ≤ 1073741823 := by omega
  have A := rs_all u1 u2
  have z1 := rs_lo u2 A (by decide)
  have z2 := rs_top u1 u2
  obtain ⟨_, A1, A2⟩ := A
  refine ⟨h, hh, h15, z1, z2, g2, g1, ?_⟩
  obtain ⟨r, hr, r0, r3⟩ : ∃ r, x * 2 ^ (2 * h) = 4 * wLvU x + r ∧ 0 ≤ r ∧ r ≤ 3 := ⟨x * 2 ^ (2 * h) - 4 * wLvU x, by omega, by omega, by omega⟩
  rw [hr]
  generalize wRs (wLvU x) = z at *
  generalize wLvU x = u at *
  have zz := abs_mul (a := z) (b := z) (A := 1073742848) (B := 1073742848) (by omega) (by omega) (by omega) (by omega)
  have zz0 : 0 ≤ z * z := Int.mul_nonneg (by omega) (by omega)
  have rz : r * (z * z) ≤ 3 * (z * z) := Int.mul_le_mul_of_nonneg_right r3 zz0
  have rz0 : 0 ≤ r * (z * z) := Int.mul_nonneg r0 zz0
  have e : (4 * u + r) * (z * z) = 4 * (u * (z * z)) + r * (z * z) := by grind
  rw [e]
  omega

theorem pow_two (h : Nat) : (2 : Int) ^ (2 * h) = 2 ^ h * 2 ^ h := by rw [← Int.pow_add]; congr 1; omega
/-- The root of any number from 1 on. -/
theorem sqrt_true {x : Int} (h1 : 1 ≤ x) (h2 : x ≤ 2147483647) :
    0 < wSqrt x ∧ -(64 * x + 8589934592) < wSqrt x * wSqrt x - x * 1073741824 ∧ wSqrt x * wSqrt x - x * 1073741824 < 64 * x + 8589934592 := by
  obtain ⟨h, hh, h15, z1, z2, g2, g1, A1, A2⟩ := rs_true h1 h2
  unfold wSqrt wScale
  rw [hh]
  generalize hz : wRs (wLvU x) = z at *
  have xz := Int.mul_nonneg (show 0 ≤ x by omega) (show 0 ≤ z by omega)
  obtain ⟨T, hT⟩ : ∃ T : Int, T = 2 ^ h := ⟨_, rfl⟩
  have T0 : 1 ≤ T := by rw [hT]; exact Int.pow_pos (by decide)
  have T1 : T ≤ 32768 := by
    have := Nat.pow_le_pow_right (n := 2) (by decide) h15
    have e : ((2 ^ h : Nat) : Int) = 2 ^ h := by simp
    rw [hT, ← e]; omega
  rw [pow_two, ← hT] at g1 g2 A1 A2
  obtain ⟨Y, hY⟩ : ∃ Y, Y = x * z * T := ⟨_, rfl⟩
  have Y0 : 0 ≤ Y := by rw [hY]; exact Int.mul_nonneg xz (by omega)
  have eY : Y * Y = x * (x * (T * T) * (z * z)) := by rw [hY]; grind
  have W1 : 0 ≤ x * (T * T) * (z * z) := Int.mul_nonneg (by omega) (Int.mul_nonneg (by omega) (by omega))
  have xw := Int.mul_le_mul h2 (show x * (T * T) * (z * z) ≤ 1237940094625612496027779072 by omega) W1 (by omega)
  have Yb : Y ≤ 1729382256910270464 := by
    apply Int.not_lt.1; intro hlt
    have p := Int.mul_le_mul (show (1729382256910270464 : Int) ≤ Y by omega) (show (1729382256910270464 : Int) ≤ Y by omega) (by omega) (by omega)
    omega
  have xY : x * z ≤ Y := by
    rw [hY]
    have := Int.mul_le_mul (Int.le_refl (x * z)) T0 (by omega) xz
    omega
  obtain ⟨al, hr, a1, a2⟩ := mulq_ex (a := x) (b := z) (by omega) (by omega)
  have xz1 : 536870912 ≤ x * z := by
    by_cases hx : x = 1
    · subst hx
      have k : 536870912 ≤ z := by
        apply Int.not_lt.1; intro hlt
        have p := Int.mul_le_mul (show z ≤ 536870912 by omega) (show z ≤ 536870912 by omega) (by omega) (by omega)
        have t1 : 1 * (T * T) ≤ 1073741824 := by
          have := Int.mul_le_mul T1 T1 (by omega) (by omega)
          omega
        have q := Int.mul_le_mul t1 p (Int.mul_nonneg (by omega) (by omega)) (by omega)
        omega
      omega
    · have := Int.mul_le_mul (show (2 : Int) ≤ x by omega) z1 (by omega) (by omega)
      omega
  have r1 : 1 ≤ wMulq x z := by unfold wMulq wCut; omega
  generalize wMulq x z = r at *
  have aT := abs_mul (a := al) (b := T) (A := 536870912) (B := T) a1 a2 (by omega) (by omega)
  have rT : 1073741824 * (r * T) = Y + al * T := by rw [hY]; grind
  have s0 := Int.mul_le_mul r1 T0 (by omega) (by omega)
  have hs : wShl r h = r * T := by
    rw [shl_wrap, sn_nat (by omega), ← hT]
    generalize r * T = s at *
    unfold wrap32; omega
  rw [hs]
  obtain ⟨del, hd⟩ : ∃ del, del = 1237940039285380274899124224 - x * (T * T) * (z * z) := ⟨_, rfl⟩
  rw [← hd] at A1 A2
  have E : 1152921504606846976 * (r * T * (r * T) - x * 1073741824) = (T * T) * (2 * (x * z * al) + al * al) - x * del := by
    have e1 : 1152921504606846976 * (r * T * (r * T)) = (1073741824 * (r * T)) * (1073741824 * (r * T)) := by grind
    rw [rT] at e1
    subst hd hY
    grind
  have xd1 := Int.mul_le_mul_of_nonneg_left A1 (show 0 ≤ x by omega)
  have xd2 := Int.mul_le_mul_of_nonneg_left A2 (show 0 ≤ x by omega)
  have c1 := abs_mul (a := x * (T * T)) (b := z * al) (A := 4294967296) (B := 576461302059237376) (by omega) (by omega) (by have := abs_mul (a := z) (b := al) (A := 1073742848) (B := 536870912) (by omega) (by omega) a1 a2; omega) (by have := abs_mul (a := z) (b := al) (A := 1073742848) (B := 536870912) (by omega) (by omega) a1 a2; omega)
  have c2 := abs_mul a1 a2 a1 a2
  have t2 := Int.mul_le_mul T1 T1 (by omega) (by omega)
  have t0 : 0 ≤ T * T := Int.mul_nonneg (by omega) (by omega)
  have c3 := abs_mul (a := T * T) (b := al * al) (A := 1073741824) (B := 288230376151711744) (by omega) (by omega) (by omega) (by omega)
  have e3 : (T * T) * (2 * (x * z * al) + al * al) = 2 * (x * (T * T) * (z * al)) + T * T * (al * al) := by grind
  rw [e3] at E
  refine ⟨by omega, by omega, by omega⟩

/-- 1 by any number from 1 on. -/
theorem rc_true {x : Int} (h1 : 1 ≤ x) (h2 : x ≤ 2147483647) :
    ∃ h : Nat, wClz x - 1 = h ∧ h ≤ 30 ∧ 268435456 ≤ wRc (wRcV x) ∧ wRc (wRcV x) ≤ 1073742848 ∧ 0 ≤ x * 2 ^ h ∧ x * 2 ^ h < 2147483648 ∧
      -17179869184 < x * 2 ^ h * wRc (wRcV x) - 1152921504606846976 ∧ x * 2 ^ h * wRc (wRcV x) - 1152921504606846976 < 17179869184 := by
  obtain ⟨c, hc, c1, c2, c3, c4, hv⟩ := rcv_rng h1 h2
  have v1 : 536870912 ≤ wRcV x := by omega
  have v2 : wRcV x ≤ 1073741823 := by omega
  have A := rc_all v1 v2
  have z1 := rc_bot v1 v2
  have z2 := rc_top v1 v2
  obtain ⟨_, A1, A2⟩ := A
  obtain ⟨h, rfl⟩ : ∃ h, c = h + 1 := ⟨c - 1, by omega⟩
  rw [Int.pow_succ, ← Int.mul_assoc] at c3 c4 hv
  refine ⟨h, by omega, by omega, z1, z2, by omega, by omega, ?_⟩
  generalize x * 2 ^ h = y at *
  obtain ⟨r, hr, r0, r3⟩ : ∃ r, y = 2 * wRcV x + r ∧ 0 ≤ r ∧ r ≤ 1 := ⟨y - 2 * wRcV x, by omega, by omega, by omega⟩
  rw [hr]
  generalize wRc (wRcV x) = z at *
  generalize wRcV x = v at *
  have rz : r * z ≤ 1 * z := Int.mul_le_mul_of_nonneg_right r3 (by omega)
  have rz0 : 0 ≤ r * z := Int.mul_nonneg r0 (by omega)
  have e : (2 * v + r) * z = 2 * (v * z) + r * z := by grind
  rw [e]
  omega

end Go.Proofs.Ytdphiobmjdiefaa
