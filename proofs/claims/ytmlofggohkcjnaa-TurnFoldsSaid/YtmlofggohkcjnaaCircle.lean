/- Angles by turning: how near they come, and sines and cosines as polynomials. Nothing of any program. -/
import Derived.WalkKit
import Derived.Test.YtmlofggohkcjnaaRootN
namespace Go.Proofs.Ytmlofggohkcjnaa
open Go.RowKit

def ev : List Int → Int → Int
  | [], _ => 0
  | c :: p, a => c + a * ev p a
def padd : List Int → List Int → List Int
  | [], q => q
  | p, [] => p
  | c :: p, d :: q => (c + d) :: padd p q
def psc (k : Int) (p : List Int) : List Int := p.map (k * ·)
/-- The polynomial at a + b. -/
def psh : List Int → Int → List Int
  | [], _ => []
  | c :: p, b => padd [c] (padd (psc b (psh p b)) (0 :: psh p b))
def iabs (c : Int) : Int := (c.natAbs : Int)
/-- No value at -A to A is further from 0. -/
def pbd : List Int → Int → Int
  | [], _ => 0
  | c :: p, A => iabs c + A * pbd p A

theorem ev_padd (p q : List Int) (a : Int) : ev (padd p q) a = ev p a + ev q a := by
  induction p generalizing q with
  | nil => simp [padd, ev]
  | cons c p ih =>
    cases q with
    | nil => simp [padd, ev]
    | cons d q => simp only [padd, ev, ih]; grind
theorem ev_psc (k : Int) (p : List Int) (a : Int) : ev (psc k p) a = k * ev p a := by
  induction p with
  | nil => simp [psc, ev]
  | cons c p ih =>
    have : psc k (c :: p) = k * c :: psc k p := rfl
    rw [this, ev, ev, ih]; grind
theorem ev_psh (p : List Int) (a b : Int) : ev (psh p b) a = ev p (a + b) := by
  induction p with
  | nil => rfl
  | cons c p ih =>
    rw [psh, ev_padd, ev_padd, ev_psc, ev, ev, ev, ev, ih]; grind
theorem pbd_nonneg (p : List Int) {A : Int} (hA : 0 ≤ A) : 0 ≤ pbd p A := by
  induction p with
  | nil => exact Int.le_refl 0
  | cons c p ih =>
    have := Int.mul_nonneg hA ih
    unfold pbd iabs; omega
theorem ev_bd (p : List Int) {a A : Int} (h1 : -A ≤ a) (h2 : a ≤ A) : -(pbd p A) ≤ ev p a ∧ ev p a ≤ pbd p A := by
  induction p with
  | nil => exact ⟨by simp [ev, pbd], by simp [ev, pbd]⟩
  | cons c p ih =>
    have q1 := Int.mul_nonneg (show 0 ≤ A - a by omega) (show 0 ≤ pbd p A + ev p a by omega)
    have q2 := Int.mul_nonneg (show 0 ≤ A + a by omega) (show 0 ≤ pbd p A - ev p a by omega)
    have q3 := Int.mul_nonneg (show 0 ≤ A - a by omega) (show 0 ≤ pbd p A - ev p a by omega)
    have q4 := Int.mul_nonneg (show 0 ≤ A + a by omega) (show 0 ≤ pbd p A + ev p a by omega)
    have e1 : (A - a) * (pbd p A + ev p a) + (A + a) * (pbd p A - ev p a) = 2 * (A * pbd p A) - 2 * (a * ev p a) := by grind
    have e2 : (A - a) * (pbd p A - ev p a) + (A + a) * (pbd p A + ev p a) = 2 * (A * pbd p A) + 2 * (a * ev p a) := by grind
    unfold ev pbd iabs
    omega
/-- Between c - h and c + h the value is near that at c. -/
def pnear (p : List Int) (c h : Int) : Int × Int :=
  match psh p c with
  | [] => (0, 0)
  | d :: q => (d - h * pbd q h, d + h * pbd q h)
theorem ev_near (p : List Int) {a c h : Int} (h1 : c - h ≤ a) (h2 : a ≤ c + h) : (pnear p c h).1 ≤ ev p a ∧ ev p a ≤ (pnear p c h).2 := by
  have e : ev p a = ev (psh p c) (a - c) := by rw [ev_psh]; congr 1; omega
  rw [e]
  unfold pnear
  split
  · rename_i hp; rw [hp]; exact ⟨Int.le_refl 0, Int.le_refl 0⟩
  · rename_i d q hp
    rw [hp]
    have b := ev_bd (p := 0 :: q) (a := a - c) (A := h) (by omega) (by omega)
    simp only [ev, pbd, iabs] at b
    simp only [ev]
    constructor <;> omega
/-- Lower and upper bounds of a polynomial over a row of pieces of half width h, beginning at l: piece k is around l + (2 k + 1) h. -/
def pover (p : List Int) (l h : Int) (n : Nat) (test : Int → Int → Bool) : Bool :=
  (List.range n).all fun k => test (pnear p (l + (2 * (k : Int) + 1) * h) h).1 (pnear p (l + (2 * (k : Int) + 1) * h) h).2
theorem pover_at {p : List Int} {l h : Int} {n : Nat} {test : Int → Int → Bool} (hv : pover p l h n test = true) (hh : 0 < h) {a : Int} (h1 : l ≤ a) (h2 : a ≤ l + 2 * (n : Int) * h) (hn : 0 < n) :
    ∃ lo hi, test lo hi = true ∧ lo ≤ ev p a ∧ ev p a ≤ hi := by
  obtain ⟨k, hk, k1, k2⟩ : ∃ k : Nat, k < n ∧ l + 2 * (k : Int) * h ≤ a ∧ a ≤ l + (2 * (k : Int) + 2) * h := by
    have e0 := Int.emod_nonneg (a - l) (show 2 * h ≠ 0 by omega)
    have e1 := Int.emod_lt_of_pos (a - l) (show 0 < 2 * h by omega)
    have e2 := Int.mul_ediv_add_emod (a - l) (2 * h)
    have q0 : 0 ≤ (a - l) / (2 * h) := Int.ediv_nonneg (by omega) (by omega)
    obtain ⟨k, hk⟩ : ∃ k : Nat, (k : Int) = (a - l) / (2 * h) := ⟨((a - l) / (2 * h)).toNat, by omega⟩
    rw [← hk] at e2
    have f1 : 2 * h * (k : Int) = 2 * (k : Int) * h := by grind
    by_cases hkn : k < n
    · exact ⟨k, hkn, by omega, by
        have : (2 * (k : Int) + 2) * h = 2 * (k : Int) * h + 2 * h := by grind
        omega⟩
    · have hle : (n : Int) ≤ k := by omega
      have := Int.mul_le_mul_of_nonneg_right hle (show 0 ≤ 2 * h by omega)
      have f2 : (n : Int) * (2 * h) = 2 * (n : Int) * h := by grind
      have f3 : (k : Int) * (2 * h) = 2 * (k : Int) * h := by grind
      have f4 : (2 * ((n - 1 : Nat) : Int) + 2) * h = 2 * (n : Int) * h := by
        have : ((n - 1 : Nat) : Int) = (n : Int) - 1 := by omega
        rw [this]; grind
      have f5 : 2 * ((n - 1 : Nat) : Int) * h = 2 * (n : Int) * h - 2 * h := by
        have : ((n - 1 : Nat) : Int) = (n : Int) - 1 := by omega
        rw [this]; grind
      exact ⟨n - 1, by omega, by omega, by omega⟩
  have t := List.all_eq_true.1 hv k (List.mem_range.2 hk)
  have f1 : l + (2 * (k : Int) + 1) * h - h = l + 2 * (k : Int) * h := by grind
  have f2 : l + (2 * (k : Int) + 1) * h + h = l + (2 * (k : Int) + 2) * h := by grind
  have b := ev_near p (a := a) (c := l + (2 * (k : Int) + 1) * h) (h := h) (by omega) (by omega)
  exact ⟨_, _, t, b.1, b.2⟩

/-- What 1 is. -/
def one : Int := 9627690086832809936414562588387344342415026070718286113048585856151142267640940150359517426467139587434951766263062744316915524198542544421542675028939882970607875227004128364713780854128640000
def sinL : List Int := [0, 17932970238538104922351543956226379317073200029727604450748461962027740231977664214297230218475944525441064995272201941007590897751120001862836396375559052397697931578390539371806720000, 0, -10369581488928484281232732682051962285539834894639255770600317469146457861419397108019447560677888598250504535304082355186509714715890433715595601152104454401556480000, 0, 1798835644489877504329083370360885648770564951045995665431020521023579617877242495946930801848839924202573629809246278374748210154130268221341696000, 0, -148594401043831444088230183103932429250440826844247776286277481341128718331800045195662734644339606682000129396265097889841152000, 0, 7160283219151304864791891692980800763689588349034947011397705476484887989796415693947009003213076419313664000, 0, -225838388998264610405488049316814403762605537199268676406275209712690659475486922086809600, 0, 5022655835539383262771720184378928813884053819466657495892126754406400, 0, -82980180853924507484728746263793647229292888719360, 0, 1058438733589000135038751211520, 0, -10737418240]
def cosL : List Int := [9627690086832809936414562588387344342415026070718286113048585856151142267640940150359517426467139587434951766263062744316915524198542544421542675028939882970607875227004128364713780854128640000, 0, -16701380013058059776529245037796329070882126716643203469690365681450572080889404019617689976911940169931449922986516674056268201909139754122902077041155707461478124911329280000, 0, 4828712664976941552587194685848412236915824420116495234239994301063221814771833414220925215947389881243232886914202177518284746779077888333981670975733760000, 0, -558432081245468775533476028082546358546417501769337699261500351448723306841292262060856695550444201939606924171635967485218063665594368000, 0, 34597330038396512178757736250742438540430932036658696896926844804810527323698635491463992429044937408063590851674112000, 0, -1333706680527199965862909647260010384710428928776634300387968397975878415591347160553002544345907200, 0, 35054731648145959154623257821552207656609133072083920924346150475350931826278400, 0, -668244680594570836687157221188892319516951194228159728844800, 0, 9660164459366876106328417810587404206080, 0, -109527542937650462720, 0, 1]
def tabL : List Int := [421657428, 248918915, 131521918, 66762579, 33510843, 16771758, 8387925, 4194219, 2097141, 1048575, 524288, 262144, 131072, 65536, 32768, 16384, 8192, 4096, 2048, 1024, 512, 256, 128, 64, 32, 16, 8, 4]
def tab (i : Nat) : Int := tabL.getD i 0
/-- The table's angles, together. -/
def far : Int := 935919873
def sinP (a : Int) : Int := ev sinL a
def cosP (a : Int) : Int := ev cosL a

theorem sin_bd {a : Int} (h1 : -far ≤ a) (h2 : a ≤ far) : -(3 * one) ≤ sinP a ∧ sinP a ≤ 3 * one := by
  have h := ev_bd sinL h1 h2
  have k : pbd sinL far ≤ 3 * one := by decide +kernel
  unfold sinP; omega
theorem cos_bd {a : Int} (h1 : -far ≤ a) (h2 : a ≤ far) : -(3 * one) ≤ cosP a ∧ cosP a ≤ 3 * one := by
  have h := ev_bd cosL h1 h2
  have k : pbd cosL far ≤ 3 * one := by decide +kernel
  unfold cosP; omega

/-- What is left of sine and cosine of a sum. -/
def leftS (t g : Int) : List Int := padd (psc one (psh sinL (g * t))) (padd (psc (-cosP t) sinL) (psc (-(g * sinP t)) cosL))
def leftC (t g : Int) : List Int := padd (psc one (psh cosL (g * t))) (padd (psc (-cosP t) cosL) (psc (g * sinP t) sinL))
theorem left_small : ((List.range 28).all fun i => decide (pbd (leftS (tab i) 1) far * 137438953472 ≤ one * one) && decide (pbd (leftS (tab i) (-1)) far * 137438953472 ≤ one * one)
    && decide (pbd (leftC (tab i) 1) far * 137438953472 ≤ one * one) && decide (pbd (leftC (tab i) (-1)) far * 137438953472 ≤ one * one)) = true := by decide +kernel
theorem sin_turn {i : Nat} (hi : i < 28) {g a : Int} (hg : g = 1 ∨ g = -1) (h1 : -far ≤ a) (h2 : a ≤ far) :
    ∃ d, one * sinP (a + g * tab i) = sinP a * cosP (tab i) + g * (cosP a * sinP (tab i)) + d ∧ -(one * one) ≤ d * 137438953472 ∧ d * 137438953472 ≤ one * one := by
  have k := List.all_eq_true.1 left_small i (List.mem_range.2 hi)
  simp only [Bool.and_eq_true, decide_eq_true_eq] at k
  have b := ev_bd (leftS (tab i) g) h1 h2
  refine ⟨ev (leftS (tab i) g) a, ?_, ?_, ?_⟩
  · unfold leftS sinP cosP
    rw [ev_padd, ev_padd, ev_psc, ev_psc, ev_psc, ev_psh]
    generalize ev sinL (a + g * tab i) = s1
    generalize ev sinL a = s2
    generalize ev cosL a = s3
    generalize ev sinL (tab i) = s4
    generalize ev cosL (tab i) = s5
    grind
  · rcases hg with rfl | rfl <;> omega
  · rcases hg with rfl | rfl <;> omega
theorem cos_turn {i : Nat} (hi : i < 28) {g a : Int} (hg : g = 1 ∨ g = -1) (h1 : -far ≤ a) (h2 : a ≤ far) :
    ∃ d, one * cosP (a + g * tab i) = cosP a * cosP (tab i) - g * (sinP a * sinP (tab i)) + d ∧ -(one * one) ≤ d * 137438953472 ∧ d * 137438953472 ≤ one * one := by
  have k := List.all_eq_true.1 left_small i (List.mem_range.2 hi)
  simp only [Bool.and_eq_true, decide_eq_true_eq] at k
  have b := ev_bd (leftC (tab i) g) h1 h2
  refine ⟨ev (leftC (tab i) g) a, ?_, ?_, ?_⟩
  · unfold leftC sinP cosP
    rw [ev_padd, ev_padd, ev_psc, ev_psc, ev_psc, ev_psh]
    generalize ev cosL (a + g * tab i) = s1
    generalize ev sinL a = s2
    generalize ev cosL a = s3
    generalize ev sinL (tab i) = s4
    generalize ev cosL (tab i) = s5
    grind
  · rcases hg with rfl | rfl <;> omega
  · rcases hg with rfl | rfl <;> omega

/-- How far a vector may come to be from its place, step by step: units of what the place's parts are together. -/
def errL : List Int := [0, 16, 34, 52, 69, 86, 103, 120, 137, 154, 171, 188, 205, 222, 239, 256, 273, 290, 307, 324, 341, 358, 375, 392, 409, 426, 443, 460, 477]
def err (i : Nat) : Int := errL.getD i 0
def bigL : List Int := [536870912, 1073741824, 1610612738, 1811939332, 1868562438, 1883160584, 1886838634, 1887759944, 1887990385, 1888048003, 1888062409, 1888066012, 1888066914, 1888067141, 1888067199, 1888067215, 1888067220, 1888067222, 1888067224, 1888067226, 1888067228, 1888067230, 1888067232, 1888067234, 1888067236, 1888067238, 1888067240, 1888067242, 1888067244]
def big (i : Nat) : Int := bigL.getD i 0
def sumT : Nat → Int
  | 0 => 0
  | k + 1 => sumT k + tab k
theorem steps_ok : ((List.range 28).all fun i => decide (0 < tab i) && decide (0 ≤ sinP (tab i)) && decide (sinP (tab i) ≤ one) && decide (0 ≤ cosP (tab i)) && decide (cosP (tab i) ≤ one)
    && decide (-(2 ^ i * one) ≤ (2 ^ i * sinP (tab i) - cosP (tab i)) * 1073741824) && decide ((2 ^ i * sinP (tab i) - cosP (tab i)) * 1073741824 ≤ 2 ^ i * one)
    && decide ((2 ^ i * cosP (tab i) + sinP (tab i)) * err i + 2 ^ i * one * 16 ≤ 2 ^ i * one * err (i + 1)) && decide (0 ≤ err i)
    && decide (i = 0 ∨ (2 ^ i * 2 ^ i + 2) * big i + i * 2 ^ i + 2 ^ i * 2 ^ i ≤ 2 ^ i * 2 ^ i * big (i + 1)) && decide (big (i + 1) ≤ 1888067244) && decide (i = 0 ∨ 2 ^ i * big i + 2 * big i + i * 2 ^ i ≤ 2 ^ i * 3221225472) && decide (sumT (i + 1) ≤ far)) = true := by decide +kernel

theorem turn_err {S C S' C' cT sT D1 D2 g p x y xr yr x' y' X Y u : Int} (hg : g = 1 ∨ g = -1)
    (hS : u * S' = S * cT + g * (C * sT) + D1) (hC : u * C' = C * cT - g * (S * sT) + D2) (hx : p * x' = p * x + g * (y - yr)) (hy : p * y' = p * y - g * (x - xr)) :
    p * u * (X * (x' * S' + y' * C') - Y * (x' * C' - y' * S')) = (p * cT + sT) * (X * (x * S + y * C) - Y * (x * C - y * S)) + g * ((p * sT - cT) * (X * (x * C - y * S) + Y * (x * S + y * C)))
      + X * (D1 * (p * x') + D2 * (p * y') - g * (yr * (u * S' - D1)) + g * (xr * (u * C' - D2))) - Y * (D2 * (p * x') - D1 * (p * y') - g * (yr * (u * C' - D2)) - g * (xr * (u * S' - D1))) := by
  have e1 : p * u * (X * (x' * S' + y' * C') - Y * (x' * C' - y' * S')) = X * ((u * S') * (p * x') + (u * C') * (p * y')) - Y * ((u * C') * (p * x') - (u * S') * (p * y')) := by grind
  rw [e1]
  have e2 : u * S' - D1 = S * cT + g * (C * sT) := by omega
  have e3 : u * C' - D2 = C * cT - g * (S * sT) := by omega
  rw [e2, e3]
  have e4 : (u * S') * (p * x') = (S * cT + g * (C * sT)) * (p * x + g * (y - yr)) + D1 * (p * x') := by rw [hS]; rw [← hx]; grind
  have e5 : (u * C') * (p * y') = (C * cT - g * (S * sT)) * (p * y - g * (x - xr)) + D2 * (p * y') := by rw [hC]; rw [← hy]; grind
  have e6 : (u * C') * (p * x') = (C * cT - g * (S * sT)) * (p * x + g * (y - yr)) + D2 * (p * x') := by rw [hC]; rw [← hx]; grind
  have e7 : (u * S') * (p * y') = (S * cT + g * (C * sT)) * (p * y - g * (x - xr)) + D1 * (p * y') := by rw [hS]; rw [← hy]; grind
  rw [e4, e5, e6, e7]
  rcases hg with rfl | rfl
  · grind
  · grind

theorem sign_mul {g b B : Int} (hg : g = 1 ∨ g = -1) (h1 : -B ≤ b) (h2 : b ≤ B) : -B ≤ g * b ∧ g * b ≤ B := by
  rcases hg with rfl | rfl <;> omega

/-- What a step loses. -/
theorem turn_lost {u p D1 D2 x' y' xr yr S' C' g W : Int} (hg : g = 1 ∨ g = -1) (hp : 0 ≤ p) (hW : W = u * u * p)
    (d1 : -(u * u) ≤ D1 * 137438953472 ∧ D1 * 137438953472 ≤ u * u) (d2 : -(u * u) ≤ D2 * 137438953472 ∧ D2 * 137438953472 ≤ u * u)
    (x1 : -2147483648 ≤ x' ∧ x' ≤ 2147483648) (y1 : -2147483648 ≤ y' ∧ y' ≤ 2147483648) (r1 : -p ≤ xr ∧ xr ≤ p) (r2 : -p ≤ yr ∧ yr ≤ p)
    (s1 : -(3 * (u * u)) ≤ u * S' ∧ u * S' ≤ 3 * (u * u)) (c1 : -(3 * (u * u)) ≤ u * C' ∧ u * C' ≤ 3 * (u * u)) :
    (-(412316860417 * 2 * W + 4294967296 * W) ≤ 137438953472 * (D1 * (p * x') + D2 * (p * y') - g * (yr * (u * S' - D1)) + g * (xr * (u * C' - D2)))
      ∧ 137438953472 * (D1 * (p * x') + D2 * (p * y') - g * (yr * (u * S' - D1)) + g * (xr * (u * C' - D2))) ≤ 412316860417 * 2 * W + 4294967296 * W)
    ∧ (-(412316860417 * 2 * W + 4294967296 * W) ≤ 137438953472 * (D2 * (p * x') - D1 * (p * y') - g * (yr * (u * C' - D2)) - g * (xr * (u * S' - D1)))
      ∧ 137438953472 * (D2 * (p * x') - D1 * (p * y') - g * (yr * (u * C' - D2)) - g * (xr * (u * S' - D1))) ≤ 412316860417 * 2 * W + 4294967296 * W) := by
  have px := abs_mul (a := p) (b := x') (A := p) (B := 2147483648) (by omega) (by omega) x1.1 x1.2
  have py := abs_mul (a := p) (b := y') (A := p) (B := 2147483648) (by omega) (by omega) y1.1 y1.2
  generalize p * x' = px' at *
  generalize p * y' = py' at *
  have w1 : u * u * (p * 2147483648) = 2147483648 * W := by subst hW; grind
  have a1 := abs_mul d1.1 d1.2 px.1 px.2
  have a2 := abs_mul d2.1 d2.2 py.1 py.2
  have a3 := abs_mul d2.1 d2.2 px.1 px.2
  have a4 := abs_mul d1.1 d1.2 py.1 py.2
  have w2 : p * (412316860417 * (u * u)) = 412316860417 * W := by subst hW; grind
  have b1 := abs_mul (a := yr) (b := 137438953472 * (u * S' - D1)) (A := p) (B := 412316860417 * (u * u)) (by omega) (by omega) (by omega) (by omega)
  have b2 := abs_mul (a := xr) (b := 137438953472 * (u * C' - D2)) (A := p) (B := 412316860417 * (u * u)) (by omega) (by omega) (by omega) (by omega)
  have b3 := abs_mul (a := yr) (b := 137438953472 * (u * C' - D2)) (A := p) (B := 412316860417 * (u * u)) (by omega) (by omega) (by omega) (by omega)
  have b4 := abs_mul (a := xr) (b := 137438953472 * (u * S' - D1)) (A := p) (B := 412316860417 * (u * u)) (by omega) (by omega) (by omega) (by omega)
  rw [w1] at a1 a2 a3 a4
  rw [w2] at b1 b2 b3 b4
  have f1 := sign_mul hg b1.1 b1.2
  have f2 := sign_mul hg b2.1 b2.2
  have f3 := sign_mul hg b3.1 b3.2
  have f4 := sign_mul hg b4.1 b4.2
  have e1 : 137438953472 * (D1 * px' + D2 * py' - g * (yr * (u * S' - D1)) + g * (xr * (u * C' - D2))) = D1 * 137438953472 * px' + D2 * 137438953472 * py' - g * (yr * (137438953472 * (u * S' - D1))) + g * (xr * (137438953472 * (u * C' - D2))) := by grind
  have e2 : 137438953472 * (D2 * px' - D1 * py' - g * (yr * (u * C' - D2)) - g * (xr * (u * S' - D1))) = D2 * 137438953472 * px' - D1 * 137438953472 * py' - g * (yr * (137438953472 * (u * C' - D2))) - g * (xr * (137438953472 * (u * S' - D1))) := by grind
  rw [e1, e2]
  omega

/-- A step's error out of the one ahead of it. -/
theorem turn_next {u p D1 D2 x y x' y' xr yr S C S' C' cT sT g X Y r r' : Int} (hg : g = 1 ∨ g = -1) (hp : 0 < p) (hu : 0 < u)
    (hS : u * S' = S * cT + g * (C * sT) + D1) (hC : u * C' = C * cT - g * (S * sT) + D2) (hx : p * x' = p * x + g * (y - yr)) (hy : p * y' = p * y - g * (x - xr))
    (d1 : -(u * u) ≤ D1 * 137438953472 ∧ D1 * 137438953472 ≤ u * u) (d2 : -(u * u) ≤ D2 * 137438953472 ∧ D2 * 137438953472 ≤ u * u)
    (x1 : -2147483648 ≤ x' ∧ x' ≤ 2147483648) (y1 : -2147483648 ≤ y' ∧ y' ≤ 2147483648) (r1 : -p ≤ xr ∧ xr ≤ p) (r2 : -p ≤ yr ∧ yr ≤ p)
    (s0 : -(3 * u) ≤ S ∧ S ≤ 3 * u) (c0 : -(3 * u) ≤ C ∧ C ≤ 3 * u) (s1 : -(3 * u) ≤ S' ∧ S' ≤ 3 * u) (c1 : -(3 * u) ≤ C' ∧ C' ≤ 3 * u)
    (hcT : 0 ≤ cT) (hsT : 0 ≤ sT) (ht : -(p * u) ≤ (p * sT - cT) * 1073741824 ∧ (p * sT - cT) * 1073741824 ≤ p * u)
    (hX : 0 ≤ X) (hY : 0 ≤ Y) (hxy : ∃ ax ay, -ax ≤ x ∧ x ≤ ax ∧ -ay ≤ y ∧ y ≤ ay ∧ ax + ay ≤ 3221225472)
    (hR : -(r * ((X + Y) * u)) ≤ X * (x * S + y * C) - Y * (x * C - y * S) ∧ X * (x * S + y * C) - Y * (x * C - y * S) ≤ r * ((X + Y) * u))
    (hr : (p * cT + sT) * r + p * u * 16 ≤ p * u * r') :
    -(r' * ((X + Y) * u)) ≤ X * (x' * S' + y' * C') - Y * (x' * C' - y' * S') ∧ X * (x' * S' + y' * C') - Y * (x' * C' - y' * S') ≤ r' * ((X + Y) * u) := by
  obtain ⟨ax, ay, ax1, ax2, ay1, ay2, hxy⟩ := hxy
  have E := turn_err (X := X) (Y := Y) hg hS hC hx hy
  have us1 := abs_mul (a := u) (b := S') (A := u) (B := 3 * u) (by omega) (by omega) s1.1 s1.2
  have uc1 := abs_mul (a := u) (b := C') (A := u) (B := 3 * u) (by omega) (by omega) c1.1 c1.2
  have w0 : u * (3 * u) = 3 * (u * u) := by grind
  rw [w0] at us1 uc1
  obtain ⟨L1, L2⟩ := turn_lost (W := u * u * p) hg (by omega) rfl d1 d2 x1 y1 r1 r2 us1 uc1
  generalize D1 * (p * x') + D2 * (p * y') - g * (yr * (u * S' - D1)) + g * (xr * (u * C' - D2)) = Q1 at *
  generalize D2 * (p * x') - D1 * (p * y') - g * (yr * (u * C' - D2)) - g * (xr * (u * S' - D1)) = Q2 at *
  -- what is turned besides
  have p1 := abs_mul (a := x) (b := C) (A := ax) (B := 3 * u) ax1 ax2 c0.1 c0.2
  have p2 := abs_mul (a := y) (b := S) (A := ay) (B := 3 * u) ay1 ay2 s0.1 s0.2
  have p3 := abs_mul (a := x) (b := S) (A := ax) (B := 3 * u) ax1 ax2 s0.1 s0.2
  have p4 := abs_mul (a := y) (b := C) (A := ay) (B := 3 * u) ay1 ay2 c0.1 c0.2
  have w3 : ax * (3 * u) + ay * (3 * u) ≤ 9663676416 * u := by
    have := Int.mul_le_mul_of_nonneg_right hxy (show 0 ≤ 3 * u by omega)
    have e : (ax + ay) * (3 * u) = ax * (3 * u) + ay * (3 * u) := by grind
    omega
  have P1 : -(9663676416 * u) ≤ x * C - y * S ∧ x * C - y * S ≤ 9663676416 * u := by omega
  have P2 : -(9663676416 * u) ≤ x * S + y * C ∧ x * S + y * C ≤ 9663676416 * u := by omega
  generalize x * C - y * S = P at *
  generalize x * S + y * C = Q at *
  have q1 := abs_mul (a := X) (b := P) (A := X) (B := 9663676416 * u) (by omega) (by omega) P1.1 P1.2
  have q2 := abs_mul (a := Y) (b := Q) (A := Y) (B := 9663676416 * u) (by omega) (by omega) P2.1 P2.2
  have q3 := abs_mul (a := (p * sT - cT) * 1073741824) (b := X * P + Y * Q) (A := p * u) (B := (X + Y) * (9663676416 * u)) ht.1 ht.2 (by
    have e : (X + Y) * (9663676416 * u) = X * (9663676416 * u) + Y * (9663676416 * u) := by grind
    omega) (by
    have e : (X + Y) * (9663676416 * u) = X * (9663676416 * u) + Y * (9663676416 * u) := by grind
    omega)
  have q4 := sign_mul hg q3.1 q3.2
  -- what is lost
  have m1 := abs_mul (a := X) (b := 137438953472 * Q1) (A := X) (B := 412316860417 * 2 * (u * u * p) + 4294967296 * (u * u * p)) (by omega) (by omega) L1.1 L1.2
  have m2 := abs_mul (a := Y) (b := 137438953472 * Q2) (A := Y) (B := 412316860417 * 2 * (u * u * p) + 4294967296 * (u * u * p)) (by omega) (by omega) L2.1 L2.2
  have rho : 0 ≤ p * cT + sT := by
    have := Int.mul_nonneg (show 0 ≤ p by omega) hcT
    omega
  have k1 := Int.mul_le_mul_of_nonneg_left hR.1 rho
  have k2 := Int.mul_le_mul_of_nonneg_left hR.2 rho
  have Vu : 0 ≤ (X + Y) * u := Int.mul_nonneg (by omega) (by omega)
  have k3 := Int.mul_le_mul_of_nonneg_right hr Vu
  generalize hRR : X * Q - Y * P = R at *
  generalize X * (x' * S' + y' * C') - Y * (x' * C' - y' * S') = R' at *
  have pu : 0 < p * u := Int.mul_pos hp hu
  generalize hV : (X + Y) * u = V at *
  have z1 : (p * cT + sT) * -(r * V) = -((p * cT + sT) * r * V) := by grind
  have z2 : (p * cT + sT) * (r * V) = (p * cT + sT) * r * V := by grind
  rw [z1] at k1
  rw [z2] at k2
  have z3 : ((p * cT + sT) * r + p * u * 16) * V = (p * cT + sT) * r * V + 16 * (p * u * V) := by grind
  rw [z3] at k3
  have z4 : p * u * ((X + Y) * (9663676416 * u)) = 9663676416 * (p * u * V) := by subst hV; grind
  rw [z4] at q4
  have z5 : g * ((p * sT - cT) * 1073741824 * (X * P + Y * Q)) = 1073741824 * (g * ((p * sT - cT) * (X * P + Y * Q))) := by grind
  rw [z5] at q4
  have z6 : X * (412316860417 * 2 * (u * u * p) + 4294967296 * (u * u * p)) + Y * (412316860417 * 2 * (u * u * p) + 4294967296 * (u * u * p)) = 828928688130 * (p * u * V) := by subst hV; grind
  have z7 : X * (137438953472 * Q1) = 137438953472 * (X * Q1) := by grind
  have z8 : Y * (137438953472 * Q2) = 137438953472 * (Y * Q2) := by grind
  rw [z7] at m1
  rw [z8] at m2
  have z9 : p * u * r' * V = p * u * (r' * V) := by grind
  rw [z9] at k3
  have up : p * u * R' ≤ p * u * (r' * V) := by omega
  have dn : p * u * -(r' * V) ≤ p * u * R' := by
    have z : p * u * -(r' * V) = -(p * u * (r' * V)) := by grind
    rw [z]; omega
  exact ⟨Int.le_of_mul_le_mul_left dn pu, Int.le_of_mul_le_mul_left up pu⟩

/-- How far a step goes with its place: what is not turned away grows. -/
theorem turn_pos {u p D1 D2 x y x' y' xr yr S C S' C' cT sT g k : Int} (hg : g = 1 ∨ g = -1) (hp : 0 < p) (hu : 0 < u)
    (hS : u * S' = S * cT + g * (C * sT) + D1) (hC : u * C' = C * cT - g * (S * sT) + D2) (hx : p * x' = p * x + g * (y - yr)) (hy : p * y' = p * y - g * (x - xr))
    (d1 : -(u * u) ≤ D1 * 137438953472 ∧ D1 * 137438953472 ≤ u * u) (d2 : -(u * u) ≤ D2 * 137438953472 ∧ D2 * 137438953472 ≤ u * u)
    (x1 : -2147483648 ≤ x' ∧ x' ≤ 2147483648) (y1 : -2147483648 ≤ y' ∧ y' ≤ 2147483648) (r1 : -p ≤ xr ∧ xr ≤ p) (r2 : -p ≤ yr ∧ yr ≤ p)
    (s0 : -(3 * u) ≤ S ∧ S ≤ 3 * u) (c0 : -(3 * u) ≤ C ∧ C ≤ 3 * u) (s1 : -(3 * u) ≤ S' ∧ S' ≤ 3 * u) (c1 : -(3 * u) ≤ C' ∧ C' ≤ 3 * u)
    (ht : -(p * u) ≤ (p * sT - cT) * 1073741824 ∧ (p * sT - cT) * 1073741824 ≤ p * u) (hrho : p * u ≤ p * cT + sT)
    (hxy : ∃ ax ay, -ax ≤ x ∧ x ≤ ax ∧ -ay ≤ y ∧ y ≤ ay ∧ ax + ay ≤ 3221225472) (hk : 0 ≤ k) (hP : k * u ≤ x * C - y * S) : (k - 16) * u ≤ x' * C' - y' * S' := by
  obtain ⟨ax, ay, ax1, ax2, ay1, ay2, hxy⟩ := hxy
  have E := turn_err (X := 0) (Y := -1) hg hS hC hx hy
  have us1 := abs_mul (a := u) (b := S') (A := u) (B := 3 * u) (by omega) (by omega) s1.1 s1.2
  have uc1 := abs_mul (a := u) (b := C') (A := u) (B := 3 * u) (by omega) (by omega) c1.1 c1.2
  have w0 : u * (3 * u) = 3 * (u * u) := by grind
  rw [w0] at us1 uc1
  obtain ⟨_, L2⟩ := turn_lost (W := u * u * p) hg (by omega) rfl d1 d2 x1 y1 r1 r2 us1 uc1
  generalize D1 * (p * x') + D2 * (p * y') - g * (yr * (u * S' - D1)) + g * (xr * (u * C' - D2)) = Q1 at *
  generalize D2 * (p * x') - D1 * (p * y') - g * (yr * (u * C' - D2)) - g * (xr * (u * S' - D1)) = Q2 at *
  have p3 := abs_mul (a := x) (b := S) (A := ax) (B := 3 * u) ax1 ax2 s0.1 s0.2
  have p4 := abs_mul (a := y) (b := C) (A := ay) (B := 3 * u) ay1 ay2 c0.1 c0.2
  have w3 : ax * (3 * u) + ay * (3 * u) ≤ 9663676416 * u := by
    have := Int.mul_le_mul_of_nonneg_right hxy (show 0 ≤ 3 * u by omega)
    have e : (ax + ay) * (3 * u) = ax * (3 * u) + ay * (3 * u) := by grind
    omega
  have P2 : -(9663676416 * u) ≤ x * S + y * C ∧ x * S + y * C ≤ 9663676416 * u := by omega
  generalize x * S + y * C = Q at *
  generalize x * C - y * S = P at *
  generalize x' * S' + y' * C' = Q' at *
  generalize x' * C' - y' * S' = P' at *
  have q3 := abs_mul (a := (p * sT - cT) * 1073741824) (b := Q) (A := p * u) (B := 9663676416 * u) ht.1 ht.2 P2.1 P2.2
  have q4 := sign_mul hg q3.1 q3.2
  have pu : 0 < p * u := Int.mul_pos hp hu
  have P0 : 0 ≤ P := by
    have := Int.mul_nonneg hk (show 0 ≤ u by omega)
    omega
  have k1 := Int.mul_le_mul_of_nonneg_right hrho P0
  have k2 := Int.mul_le_mul_of_nonneg_left hP (show 0 ≤ p * u by omega)
  have z1 : p * u * (0 * Q' - -1 * P') = p * u * P' := by grind
  have z2 : (p * cT + sT) * (0 * Q - -1 * P) = (p * cT + sT) * P := by grind
  have z3 : 1073741824 * (g * ((p * sT - cT) * (0 * P + -1 * Q))) = -(g * ((p * sT - cT) * 1073741824 * Q)) := by grind
  have z4 : p * u * (9663676416 * u) = 9663676416 * (u * u * p) := by grind
  rw [z1, z2] at E
  rw [z4] at q4
  have z5 : p * u * ((k - 16) * u) = p * u * (k * u) - 16 * (u * u * p) := by grind
  refine Int.le_of_mul_le_mul_left ?_ pu
  rw [z5, E]
  omega

/-- A step of a vector: x, y, and its angle. -/
def vStep (i : Nat) (x y a : Int) : Int × Int × Int :=
  (wrap32 (x + wFlip (wSar y i) (wSign y)), wrap32 (y - wFlip (wSar x i) (wSign y)), wrap32 (a + wFlip (tab i) (wSign y)))
def vN (y x : Int) : Nat → Int × Int × Int
  | 0 => (x, y, 0)
  | k + 1 => vStep k (vN y x k).1 (vN y x k).2.1 (vN y x k).2.2
/-- A step of an angle: cosine, sine, and what is left of it. -/
def uStep (i : Nat) (x y b : Int) : Int × Int × Int :=
  (wrap32 (x - wFlip (wSar y i) (wSign b)), wrap32 (y + wFlip (wSar x i) (wSign b)), wrap32 (b - wFlip (tab i) (wSign b)))
def uN (b : Int) : Nat → Int × Int × Int
  | 0 => (652032874, 0, b)
  | k + 1 => uStep k (uN b k).1 (uN b k).2.1 (uN b k).2.2
def wGr (y x : Int) : Int := wMax (wAbs x) (wAbs y)
def wLs (y x : Int) : Int := wMin (wAbs x) (wAbs y)
def wNorm (v g : Int) : Int := wShr (wShl v (wClz g - 1)) 2
/-- The angle of the octant, turned into its place. -/
def wAng (y x : Int) : Int :=
  let a := (vN (wNorm (wLs y x) (wGr y x)) (wNorm (wGr y x) (wGr y x)) 28).2.2
  let b := if wAbs x < wAbs y then wrap32 (843314857 - a) else a
  let c := if x < 0 then wrap32 (1686629713 - b) else b
  if y < 0 then wrap32 (0 - c) else c
def wWvB (a : Int) : Int := if 843314857 < wAbs a then (if a < 0 then wrap32 (0 - 1686629713 - a) else wrap32 (1686629713 - a)) else a
def wWvY (a : Int) : Int := (uN (wWvB a) 28).2.1
def wWvX (a : Int) : Int := if 843314857 < wAbs a then wrap32 (0 - (uN (wWvB a) 28).1) else (uN (wWvB a) 28).1

theorem flip_keep {v : Int} (h1 : -2147483648 ≤ v) (h2 : v ≤ 2147483647) : wFlip v 0 = v := by
  unfold wFlip; rw [wd_0, BitVec.xor_zero, sg_wd_in h1 h2]; unfold wrap32; omega
theorem flip_turn {v : Int} (h1 : -2147483648 ≤ v) (h2 : v ≤ 2147483647) : wFlip v (-1) = wrap32 (-v) := by
  unfold wFlip
  have h3 : ~~~(wd v) = wd (-1 - v) := us_inj (by
    have h4 : us (~~~(wd v)) = 4294967295 - us (wd v) := by
      have := (wd v).isLt
      unfold us; rw [BitVec.toNat_not]; omega
    rw [h4, us_wd, us_wd]; omega)
  rw [wd_m1, BitVec.xor_allOnes, h3, sg_wd_in (by omega) (by omega)]
  unfold wrap32; omega
/-- A number with the sign of another one. -/
def gOf (y : Int) : Int := if y < 0 then -1 else 1
theorem gOf_or (y : Int) : gOf y = 1 ∨ gOf y = -1 := by unfold gOf; split <;> simp
theorem flip_g {v : Int} (y : Int) (h1 : -2147483648 ≤ v) (h2 : v ≤ 2147483647) : wFlip v (wSign y) = wrap32 (gOf y * v) := by
  unfold wSign gOf
  split
  · rw [flip_turn h1 h2]; congr 1; omega
  · rw [flip_keep h1 h2, IntWalk.wrap32_in _ (by omega)]; omega
theorem sar_nat {x : Int} {i : Nat} (hi : i ≤ 31) (h1 : -2147483648 ≤ x) (h2 : x ≤ 2147483647) : wSar x i = x / 2 ^ i := by
  rw [wSar_eq h1 h2, sn_nat' hi]
where
  sn_nat' {k : Nat} (h : k ≤ 31) : sn k = k := by unfold sn; omega
theorem wrap_add (x v : Int) : wrap32 (x + wrap32 v) = wrap32 (x + v) := by unfold wrap32; omega
theorem wrap_sub (x v : Int) : wrap32 (x - wrap32 v) = wrap32 (x - v) := by unfold wrap32; omega
theorem div_word {x : Int} (i : Nat) (h1 : -2147483648 ≤ x) (h2 : x ≤ 2147483647) : -2147483648 ≤ x / 2 ^ i ∧ x / 2 ^ i ≤ 2147483647 := by
  have hk := pow_pos' i
  have ha := Int.natAbs_ediv_le_natAbs x (2 ^ i)
  by_cases hx : 0 ≤ x
  · have := Int.ediv_le_self (2 ^ i) hx
    have := Int.ediv_nonneg hx (show (0 : Int) ≤ 2 ^ i by omega)
    omega
  · have := Int.ediv_neg_of_neg_of_pos (show x < 0 by omega) hk
    omega
theorem tab_bd {i : Nat} (hi : i < 28) : 0 < tab i ∧ tab i ≤ 421657428 := by
  have : ((List.range 28).all fun i => decide (0 < tab i) && decide (tab i ≤ 421657428)) = true := by decide +kernel
  simpa using List.all_eq_true.1 this i (List.mem_range.2 hi)
/-- A step in plain numbers. -/
theorem vStep_eq {i : Nat} (hi : i < 28) {x y : Int} (a : Int) (x1 : -2147483648 ≤ x) (x2 : x ≤ 2147483647) (y1 : -2147483648 ≤ y) (y2 : y ≤ 2147483647) :
    vStep i x y a = (wrap32 (x + gOf y * (y / 2 ^ i)), wrap32 (y - gOf y * (x / 2 ^ i)), wrap32 (a + gOf y * tab i)) := by
  obtain ⟨t1, t2⟩ := tab_bd hi
  have dx := div_word i x1 x2
  have dy := div_word i y1 y2
  unfold vStep
  rw [sar_nat (by omega) y1 y2, sar_nat (by omega) x1 x2, flip_g y dy.1 dy.2, flip_g y dx.1 dx.2, flip_g y (by omega) (by omega), wrap_add, wrap_sub, wrap_add]
theorem uStep_eq {i : Nat} (hi : i < 28) {x y : Int} (b : Int) (x1 : -2147483648 ≤ x) (x2 : x ≤ 2147483647) (y1 : -2147483648 ≤ y) (y2 : y ≤ 2147483647) :
    uStep i x y b = (wrap32 (x - gOf b * (y / 2 ^ i)), wrap32 (y + gOf b * (x / 2 ^ i)), wrap32 (b - gOf b * tab i)) := by
  obtain ⟨t1, t2⟩ := tab_bd hi
  have dx := div_word i x1 x2
  have dy := div_word i y1 y2
  unfold uStep
  rw [sar_nat (by omega) y1 y2, sar_nat (by omega) x1 x2, flip_g b dy.1 dy.2, flip_g b dx.1 dx.2, flip_g b (by omega) (by omega), wrap_sub, wrap_add, wrap_sub]
theorem vN_bd (y x : Int) (hy : -2147483648 ≤ y ∧ y ≤ 2147483647) (hx : -2147483648 ≤ x ∧ x ≤ 2147483647) (k : Nat) :
    (-2147483648 ≤ (vN y x k).1 ∧ (vN y x k).1 ≤ 2147483647) ∧ (-2147483648 ≤ (vN y x k).2.1 ∧ (vN y x k).2.1 ≤ 2147483647) ∧ (-2147483648 ≤ (vN y x k).2.2 ∧ (vN y x k).2.2 ≤ 2147483647) := by
  cases k
  · exact ⟨hx, hy, (by decide : (-2147483648 : Int) ≤ 0), (by decide : (0 : Int) ≤ 2147483647)⟩
  · refine ⟨?_, ?_, ?_⟩ <;> (unfold vN vStep wrap32; simp only; omega)
theorem uN_bd (b : Int) (hb : -2147483648 ≤ b ∧ b ≤ 2147483647) (k : Nat) :
    (-2147483648 ≤ (uN b k).1 ∧ (uN b k).1 ≤ 2147483647) ∧ (-2147483648 ≤ (uN b k).2.1 ∧ (uN b k).2.1 ≤ 2147483647) ∧ (-2147483648 ≤ (uN b k).2.2 ∧ (uN b k).2.2 ≤ 2147483647) := by
  cases k
  · exact ⟨⟨(by decide : (-2147483648 : Int) ≤ 652032874), (by decide : (652032874 : Int) ≤ 2147483647)⟩, ⟨(by decide : (-2147483648 : Int) ≤ 0), (by decide : (0 : Int) ≤ 2147483647)⟩, hb⟩
  · refine ⟨?_, ?_, ?_⟩ <;> (unfold uN uStep wrap32; simp only; omega)

theorem one_pos : 0 < one := by decide
/-- What holds of a vector behind i steps. -/
def VI (X Y : Int) (i : Nat) (x y a : Int) : Prop :=
  X ≤ x ∧ x ≤ big i ∧ -(2 * x + i * 2 ^ i) ≤ 2 ^ i * y ∧ 2 ^ i * y ≤ 2 * x + i * 2 ^ i ∧ -sumT i ≤ a ∧ a ≤ sumT i
    ∧ -(err i * ((X + Y) * one)) ≤ X * (x * sinP a + y * cosP a) - Y * (x * cosP a - y * sinP a) ∧ X * (x * sinP a + y * cosP a) - Y * (x * cosP a - y * sinP a) ≤ err i * ((X + Y) * one)

theorem pow_bd {i : Nat} (hi : i < 28) : (1 : Int) ≤ 2 ^ i ∧ (2 : Int) ^ i ≤ 134217728 := by
  have : ((List.range 28).all fun i => decide ((1 : Int) ≤ 2 ^ i) && decide ((2 : Int) ^ i ≤ 134217728)) = true := by decide +kernel
  simpa using List.all_eq_true.1 this i (List.mem_range.2 hi)
theorem sum_far {i : Nat} (hi : i ≤ 28) : 0 ≤ sumT i ∧ sumT i ≤ far := by
  have : ((List.range 29).all fun i => decide (0 ≤ sumT i) && decide (sumT i ≤ far)) = true := by decide +kernel
  simpa using List.all_eq_true.1 this i (List.mem_range.2 (by omega))
theorem half_mul {p t c : Int} (hp : 2 ≤ p) (h : p * t ≤ 2 * c) (hc : 0 ≤ c) : t ≤ c := by
  apply Int.not_lt.1; intro hlt
  have := Int.mul_le_mul_of_nonneg_right hp (show 0 ≤ t by omega)
  omega
theorem cancel_mul {p t c : Int} (hp : 0 < p) (h : p * t ≤ p * c) : t ≤ c := Int.le_of_mul_le_mul_left h hp

theorem vi_next {X Y : Int} {i : Nat} {x y a : Int} (hi : i < 28) (hX : 1 ≤ X) (hY : 0 ≤ Y) (g : Int) (hg : g = gOf y)
    (hax : -far ≤ a ∧ a ≤ far) (hax' : -far ≤ a + g * tab i ∧ a + g * tab i ≤ far)
    (b1 : -2147483648 ≤ x + g * (y / 2 ^ i) ∧ x + g * (y / 2 ^ i) ≤ 2147483648) (b2 : -2147483648 ≤ y - g * (x / 2 ^ i) ∧ y - g * (x / 2 ^ i) ≤ 2147483648)
    (hxy : ∃ ax ay, -ax ≤ x ∧ x ≤ ax ∧ -ay ≤ y ∧ y ≤ ay ∧ ax + ay ≤ 3221225472)
    (hR : -(err i * ((X + Y) * one)) ≤ X * (x * sinP a + y * cosP a) - Y * (x * cosP a - y * sinP a) ∧ X * (x * sinP a + y * cosP a) - Y * (x * cosP a - y * sinP a) ≤ err i * ((X + Y) * one)) :
    -(err (i + 1) * ((X + Y) * one)) ≤ X * ((x + g * (y / 2 ^ i)) * sinP (a + g * tab i) + (y - g * (x / 2 ^ i)) * cosP (a + g * tab i)) - Y * ((x + g * (y / 2 ^ i)) * cosP (a + g * tab i) - (y - g * (x / 2 ^ i)) * sinP (a + g * tab i))
      ∧ X * ((x + g * (y / 2 ^ i)) * sinP (a + g * tab i) + (y - g * (x / 2 ^ i)) * cosP (a + g * tab i)) - Y * ((x + g * (y / 2 ^ i)) * cosP (a + g * tab i) - (y - g * (x / 2 ^ i)) * sinP (a + g * tab i)) ≤ err (i + 1) * ((X + Y) * one) := by
  have k := List.all_eq_true.1 steps_ok i (List.mem_range.2 hi)
  simp only [Bool.and_eq_true, decide_eq_true_eq] at k
  obtain ⟨⟨⟨⟨⟨⟨⟨⟨⟨⟨⟨⟨k1, k2⟩, k3⟩, k4⟩, k5⟩, k6⟩, k7⟩, k8⟩, k9⟩, k10⟩, k11⟩, k12⟩, k13⟩ := k
  have hgg : g = 1 ∨ g = -1 := by rw [hg]; exact gOf_or y
  obtain ⟨d1, hS, d1a, d1b⟩ := sin_turn hi hgg hax.1 hax.2
  obtain ⟨d2, hC, d2a, d2b⟩ := cos_turn hi hgg hax.1 hax.2
  obtain ⟨p1, p2⟩ := pow_bd hi
  have s0 := sin_bd hax.1 hax.2
  have c0 := cos_bd hax.1 hax.2
  have s1 := sin_bd hax'.1 hax'.2
  have c1 := cos_bd hax'.1 hax'.2
  have ex := Int.mul_ediv_add_emod x (2 ^ i)
  have ey := Int.mul_ediv_add_emod y (2 ^ i)
  have rx0 := Int.emod_nonneg x (show (2 : Int) ^ i ≠ 0 by omega)
  have rx1 := Int.emod_lt_of_pos x (show (0 : Int) < 2 ^ i by omega)
  have ry0 := Int.emod_nonneg y (show (2 : Int) ^ i ≠ 0 by omega)
  have ry1 := Int.emod_lt_of_pos y (show (0 : Int) < 2 ^ i by omega)
  have o := one_pos
  refine turn_next (p := 2 ^ i) (xr := x % 2 ^ i) (yr := y % 2 ^ i) (r := err i) hgg (by omega) o hS hC ?_ ?_ ⟨d1a, d1b⟩ ⟨d2a, d2b⟩ b1 b2 ⟨by omega, by omega⟩ ⟨by omega, by omega⟩ s0 c0 s1 c1 k4 k2 ⟨k6, k7⟩ (by omega) hY hxy hR k8
  · generalize y / 2 ^ i = q at *
    generalize y % 2 ^ i = r at *
    have : y - r = 2 ^ i * q := by omega
    rw [this]; grind
  · generalize x / 2 ^ i = q at *
    generalize x % 2 ^ i = r at *
    have : x - r = 2 ^ i * q := by omega
    rw [this]; grind

theorem vi_step {X Y : Int} {i : Nat} {x y a : Int} (h1 : 1 ≤ i) (hi : i < 28) (hX : 1 ≤ X) (hY : 0 ≤ Y) (h : VI X Y i x y a) :
    (-2147483648 ≤ x ∧ x ≤ 2147483647) ∧ (-2147483648 ≤ y ∧ y ≤ 2147483647) ∧ ∃ x' y' a', vStep i x y a = (x', y', a') ∧ VI X Y (i + 1) x' y' a' := by
  have k := List.all_eq_true.1 steps_ok i (List.mem_range.2 hi)
  simp only [Bool.and_eq_true, decide_eq_true_eq] at k
  obtain ⟨⟨⟨⟨⟨⟨⟨⟨⟨⟨⟨⟨k1, k2⟩, k3⟩, k4⟩, k5⟩, k6⟩, k7⟩, k8⟩, k9⟩, k10⟩, k11⟩, k12⟩, k13⟩ := k
  obtain ⟨i1, i2, i3, i4, i5, i6, i7, i8⟩ := h
  obtain ⟨p1, p2⟩ := pow_bd hi
  have pp : (2 : Int) ≤ 2 ^ i := by
    obtain ⟨j, rfl⟩ : ∃ j, i = j + 1 := ⟨i - 1, by omega⟩
    have := pow_pos' j
    rw [Int.pow_succ]; omega
  have hbig : big i ≤ 1888067244 := by
    have kk := List.all_eq_true.1 steps_ok (i - 1) (List.mem_range.2 (by omega))
    simp only [Bool.and_eq_true, decide_eq_true_eq] at kk
    have := kk.1.1.2
    rw [show i - 1 + 1 = i by omega] at this; exact this
  have k10' := k10.resolve_left (by omega)
  have k12' := k12.resolve_left (by omega)
  obtain ⟨sa1, sa2⟩ := sum_far (i := i) (by omega)
  have sn : sumT (i + 1) = sumT i + tab i := rfl
  have hfar : far = 935919873 := rfl
  have ex := Int.mul_ediv_add_emod x (2 ^ i)
  have ey := Int.mul_ediv_add_emod y (2 ^ i)
  have rx0 := Int.emod_nonneg x (show (2 : Int) ^ i ≠ 0 by omega)
  have rx1 := Int.emod_lt_of_pos x (show (0 : Int) < 2 ^ i by omega)
  have ry0 := Int.emod_nonneg y (show (2 : Int) ^ i ≠ 0 by omega)
  have ry1 := Int.emod_lt_of_pos y (show (0 : Int) < 2 ^ i by omega)
  have yi1 : 2 ^ i * (y - i) ≤ 2 * x := by
    have : 2 ^ i * (y - (i : Int)) = 2 ^ i * y - i * 2 ^ i := by grind
    omega
  have yi2 : 2 ^ i * (-y - i) ≤ 2 * x := by
    have : 2 ^ i * (-y - (i : Int)) = -(2 ^ i * y) - i * 2 ^ i := by grind
    omega
  have y2 := half_mul pp yi1 (by omega)
  have y1 := half_mul pp yi2 (by omega)
  refine ⟨by omega, by omega, ?_⟩
  rw [vStep_eq hi a (by omega) (by omega) (by omega) (by omega)]
  have hgg := gOf_or y
  have hgy : (0 ≤ y ∧ gOf y = 1) ∨ (y < 0 ∧ gOf y = -1) := by unfold gOf; split <;> omega
  have nx := fun hax' b1 b2 hxy => vi_next (X := X) (Y := Y) hi hX hY (gOf y) rfl (by omega) hax' b1 b2 hxy ⟨i7, i8⟩
  obtain ⟨g, hg⟩ : ∃ g, gOf y = g := ⟨_, rfl⟩
  rw [hg] at hgg hgy nx ⊢
  obtain ⟨x', hx'⟩ : ∃ x', x' = x + g * (y / 2 ^ i) := ⟨_, rfl⟩
  obtain ⟨y', hy'⟩ : ∃ y', y' = y - g * (x / 2 ^ i) := ⟨_, rfl⟩
  obtain ⟨a', ha'⟩ : ∃ a', a' = a + g * tab i := ⟨_, rfl⟩
  rw [← hx', ← hy', ← ha'] at nx ⊢
  have hxm : 2 ^ i * x' = 2 ^ i * x + g * (y - y % 2 ^ i) := by
    have : y - y % 2 ^ i = 2 ^ i * (y / 2 ^ i) := by omega
    rw [this, hx']; grind
  have hym : 2 ^ i * y' = 2 ^ i * y - g * (x - x % 2 ^ i) := by
    have : x - x % 2 ^ i = 2 ^ i * (x / 2 ^ i) := by omega
    rw [this, hy']; grind
  have hpx : 2 ^ i * (2 ^ i * x') = 2 ^ i * (2 ^ i * x) + g * (2 ^ i * y - 2 ^ i * (y % 2 ^ i)) := by rw [hxm]; grind
  have pr : 2 ^ i * (y % 2 ^ i) ≤ 2 ^ i * 2 ^ i := Int.mul_le_mul_of_nonneg_left (by omega) (by omega)
  have pr0 : 0 ≤ 2 ^ i * (y % 2 ^ i) := Int.mul_nonneg (by omega) ry0
  have pp0 : 0 ≤ (2 : Int) ^ i * 2 ^ i := Int.mul_nonneg (by omega) (by omega)
  have ip0 : 0 ≤ (i : Int) * 2 ^ i := Int.mul_nonneg (by omega) (by omega)
  -- the greater part grows, within its bound
  have gx : x ≤ x' := by
    rw [hx']
    rcases hgy with ⟨h0, rfl⟩ | ⟨h0, rfl⟩
    · have := Int.ediv_nonneg h0 (show (0 : Int) ≤ 2 ^ i by omega); omega
    · have := Int.ediv_neg_of_neg_of_pos h0 (show (0 : Int) < 2 ^ i by omega); omega
  have bigx : x' ≤ big (i + 1) := by
    have q : (2 : Int) ^ i * 2 ^ i * x' ≤ 2 ^ i * 2 ^ i * big (i + 1) := by
      refine Int.le_trans ?_ k10'
      have e1 : (2 : Int) ^ i * 2 ^ i * x' = 2 ^ i * (2 ^ i * x') := by grind
      have e2 : (2 ^ i * 2 ^ i + 2) * big i = 2 ^ i * (2 ^ i * big i) + 2 * big i := by grind
      have e3 : 2 ^ i * (2 ^ i * x) ≤ 2 ^ i * (2 ^ i * big i) := Int.mul_le_mul_of_nonneg_left (Int.mul_le_mul_of_nonneg_left i2 (by omega)) (by omega)
      rw [e1, hpx, e2]
      rcases hgy with ⟨h0, rfl⟩ | ⟨h0, rfl⟩ <;> omega
    exact cancel_mul (by
      have := Int.mul_pos (show (0 : Int) < 2 ^ i by omega) (show (0 : Int) < 2 ^ i by omega)
      exact this) q
  have e2p : (2 : Int) ^ (i + 1) = 2 * 2 ^ i := by rw [Int.pow_succ]; omega
  have hi2 : ((i + 1 : Nat) : Int) * (2 * 2 ^ i) = 2 * (i * 2 ^ i) + 2 * 2 ^ i := by
    have : ((i + 1 : Nat) : Int) = i + 1 := by omega
    rw [this]; grind
  have y3 : -(2 * x' + ((i + 1 : Nat) : Int) * 2 ^ (i + 1)) ≤ 2 ^ (i + 1) * y' := by
    rw [e2p, hi2]
    have e : 2 * 2 ^ i * y' = 2 * (2 ^ i * y') := by grind
    rw [e, hym]
    rcases hgy with ⟨h0, rfl⟩ | ⟨h0, rfl⟩
    · have := Int.mul_nonneg (show (0 : Int) ≤ 2 ^ i by omega) h0; omega
    · omega
  have y4 : 2 ^ (i + 1) * y' ≤ 2 * x' + ((i + 1 : Nat) : Int) * 2 ^ (i + 1) := by
    rw [e2p, hi2]
    have e : 2 * 2 ^ i * y' = 2 * (2 ^ i * y') := by grind
    rw [e, hym]
    rcases hgy with ⟨h0, rfl⟩ | ⟨h0, rfl⟩
    · omega
    · have := Int.mul_nonneg (show (0 : Int) ≤ 2 ^ i by omega) (show 0 ≤ -y by omega)
      have e : 2 ^ i * -y = -(2 ^ i * y) := by grind
      omega
  have yb1 : 2 ^ i * (y' - ((i + 1 : Nat) : Int)) ≤ 2 * x' := by
    have e : 2 ^ i * (y' - ((i + 1 : Nat) : Int)) = 2 ^ i * y' - ((i + 1 : Nat) : Int) * 2 ^ i := by grind
    have e' : ((i + 1 : Nat) : Int) * 2 ^ (i + 1) = 2 * (((i + 1 : Nat) : Int) * 2 ^ i) := by rw [e2p]; grind
    have e'' : 2 ^ (i + 1) * y' = 2 * (2 ^ i * y') := by rw [e2p]; grind
    omega
  have yb2 : 2 ^ i * (-y' - ((i + 1 : Nat) : Int)) ≤ 2 * x' := by
    have e : 2 ^ i * (-y' - ((i + 1 : Nat) : Int)) = -(2 ^ i * y') - ((i + 1 : Nat) : Int) * 2 ^ i := by grind
    have e' : ((i + 1 : Nat) : Int) * 2 ^ (i + 1) = 2 * (((i + 1 : Nat) : Int) * 2 ^ i) := by rw [e2p]; grind
    have e'' : 2 ^ (i + 1) * y' = 2 * (2 ^ i * y') := by rw [e2p]; grind
    omega
  have y5 := half_mul pp yb1 (by omega)
  have y6 := half_mul pp yb2 (by omega)
  have a5 : -sumT (i + 1) ≤ a' := by rw [sn, ha']; rcases hgg with rfl | rfl <;> omega
  have a6 : a' ≤ sumT (i + 1) := by rw [sn, ha']; rcases hgg with rfl | rfl <;> omega
  have R := nx (by omega) (by omega) (by omega) (by
    rcases hgy with ⟨h0, _⟩ | ⟨h0, _⟩
    · refine ⟨x, y, by omega, by omega, by omega, by omega, ?_⟩
      refine cancel_mul (p := 2 ^ i) (by omega) ?_
      have e : 2 ^ i * (x + y) = 2 ^ i * x + 2 ^ i * y := by grind
      have e3 : 2 ^ i * x ≤ 2 ^ i * big i := Int.mul_le_mul_of_nonneg_left i2 (by omega)
      omega
    · refine ⟨x, -y, by omega, by omega, by omega, by omega, ?_⟩
      refine cancel_mul (p := 2 ^ i) (by omega) ?_
      have e : 2 ^ i * (x + -y) = 2 ^ i * x - 2 ^ i * y := by grind
      have e3 : 2 ^ i * x ≤ 2 ^ i * big i := Int.mul_le_mul_of_nonneg_left i2 (by omega)
      omega)
  refine ⟨x', y', a', ?_, by omega, bigx, y3, y4, a5, a6, R.1, R.2⟩
  rw [IntWalk.wrap32_in _ (by omega), IntWalk.wrap32_in _ (by omega), IntWalk.wrap32_in _ (by omega)]

theorem vi_start {X Y : Int} (hY : 0 ≤ Y) (hYX : Y ≤ X) (hX1 : 268435456 ≤ X) (hX2 : X < 536870912) : ∃ x y a, vN Y X 1 = (x, y, a) ∧ VI X Y 1 x y a := by
  have e : vN Y X 1 = vStep 0 X Y 0 := rfl
  rw [e, vStep_eq (by decide) 0 (by omega) (by omega) (by omega) (by omega)]
  have hg : gOf Y = 1 := by unfold gOf; rw [if_neg (by omega)]
  have nx := vi_next (X := X) (Y := Y) (i := 0) (x := X) (y := Y) (a := 0) (by decide) (by omega) hY 1 hg.symm (by decide) (by decide)
    (by rw [show (2 : Int) ^ 0 = 1 from rfl]; omega) (by rw [show (2 : Int) ^ 0 = 1 from rfl]; omega) ⟨X, Y, by omega, by omega, by omega, by omega, by omega⟩ (by
      have s0 : sinP 0 = 0 := by decide +kernel
      have c0 : cosP 0 = one := by decide +kernel
      have e0 : err 0 = 0 := rfl
      rw [s0, c0, e0]
      have : X * (X * 0 + Y * one) - Y * (X * one - Y * 0) = 0 := by grind
      rw [this]; omega)
  rw [hg]
  have q1 : (2 : Int) ^ 0 = 1 := rfl
  rw [q1, Int.ediv_one, Int.ediv_one] at nx ⊢
  have t0 : tab 0 = 421657428 := rfl
  refine ⟨X + 1 * Y, Y - 1 * X, 0 + 1 * tab 0, ?_, ?_, ?_, ?_, ?_, ?_, ?_, nx.1, nx.2⟩
  · rw [IntWalk.wrap32_in _ (by omega), IntWalk.wrap32_in _ (by omega), IntWalk.wrap32_in _ (by omega)]
  · omega
  · have : big 1 = 1073741824 := rfl
    omega
  · rw [show (2 : Int) ^ 1 = 2 from rfl]; omega
  · rw [show (2 : Int) ^ 1 = 2 from rfl]; omega
  · have : sumT 1 = 421657428 := rfl
    omega
  · have : sumT 1 = 421657428 := rfl
    omega
theorem vi_all {X Y : Int} (hY : 0 ≤ Y) (hYX : Y ≤ X) (hX1 : 268435456 ≤ X) (hX2 : X < 536870912) : ∀ k : Nat, 1 ≤ k → k ≤ 28 → ∃ x y a, vN Y X k = (x, y, a) ∧ VI X Y k x y a := by
  intro k
  induction k with
  | zero => intro h; omega
  | succ k ih =>
    intro _ hk
    by_cases h0 : k = 0
    · subst h0; exact vi_start hY hYX hX1 hX2
    · obtain ⟨x, y, a, e, h⟩ := ih (by omega) (by omega)
      obtain ⟨_, _, x', y', a', e', h'⟩ := vi_step (by omega) (by omega) (by omega) hY h
      refine ⟨x', y', a', ?_, h'⟩
      show vStep k (vN Y X k).1 (vN Y X k).2.1 (vN Y X k).2.2 = _
      rw [e]; exact e'
/-- The angle of a vector of the first octant is near to that of its place. -/
theorem vec_near {X Y : Int} (hY : 0 ≤ Y) (hYX : Y ≤ X) (hX1 : 268435456 ≤ X) (hX2 : X < 536870912) :
    ∃ a, (vN Y X 28).2.2 = a ∧ -far ≤ a ∧ a ≤ far ∧ -(606 * ((X + Y) * one)) ≤ 268435456 * (X * sinP a - Y * cosP a) ∧ 268435456 * (X * sinP a - Y * cosP a) ≤ 606 * ((X + Y) * one) := by
  obtain ⟨x, y, a, e, i1, i2, i3, i4, i5, i6, i7, i8⟩ := vi_all hY hYX hX1 hX2 28 (by decide) (by decide)
  have hbig : big 28 = 1888067244 := rfl
  have herr : err 28 = 477 := rfl
  obtain ⟨sa1, sa2⟩ := sum_far (i := 28) (by decide)
  have p28 : (2 : Int) ^ 28 = 268435456 := rfl
  rw [p28] at i3 i4
  rw [herr] at i7 i8
  have o := one_pos
  refine ⟨a, by rw [e], by omega, by omega, ?_⟩
  have s0 := sin_bd (a := a) (by omega) (by omega)
  have c0 := cos_bd (a := a) (by omega) (by omega)
  generalize sinP a = S at *
  generalize cosP a = C at *
  generalize one = u at *
  have q1 := abs_mul (a := X) (b := C) (A := X) (B := 3 * u) (by omega) (by omega) c0.1 c0.2
  have q2 := abs_mul (a := Y) (b := S) (A := Y) (B := 3 * u) (by omega) (by omega) s0.1 s0.2
  have e1 : (X + Y) * (3 * u) = X * (3 * u) + Y * (3 * u) := by grind
  have e2 : (X + Y) * (3 * u) = 3 * ((X + Y) * u) := by grind
  have q3 := abs_mul (a := y) (b := X * C + Y * S) (A := 43) (B := 3 * ((X + Y) * u)) (by omega) (by omega) (by omega) (by omega)
  have e3 : X * (x * S + y * C) - Y * (x * C - y * S) = x * (X * S - Y * C) + y * (X * C + Y * S) := by grind
  rw [e3] at i7 i8
  generalize (X + Y) * u = V at *
  generalize X * S - Y * C = Z at *
  have b : -(606 * V) ≤ x * Z ∧ x * Z ≤ 606 * V := by omega
  have x0 : 268435456 ≤ x := by omega
  rcases (show 0 ≤ Z ∨ Z ≤ 0 by omega) with h | h
  · have := Int.mul_le_mul_of_nonneg_right x0 h
    omega
  · have := Int.mul_le_mul_of_nonneg_right x0 (show 0 ≤ -Z by omega)
    have e : x * -Z = -(x * Z) := by grind
    omega

/-- A term out of the one ahead of it: by w, by m and by n. -/
def nextT (y w m n : Int) : Int := 0 - (((y * w).tdiv 1073741824).tdiv m).tdiv n
def wvW (a : Int) : Int := (2 * a * (2 * a)) / 1073741824
def wvY (a : Int) : Nat → Int
  | 0 => 1073741824
  | k + 1 => nextT (wvY a k) (wvW a) (2 * ((k : Int) + 1) - 1) (2 * ((k : Int) + 1))
def wvX (a : Int) : Nat → Int
  | 0 => 2 * a
  | k + 1 => nextT (wvX a k) (wvW a) (2 * ((k : Int) + 1)) (2 * ((k : Int) + 1) + 1)
def wvC (a : Int) : Nat → Int
  | 0 => 1073741824
  | k + 1 => wvC a k + wvY a (k + 1)
def wvS (a : Int) : Nat → Int
  | 0 => 2 * a
  | k + 1 => wvS a k + wvX a (k + 1)

theorem tdiv_near (x : Int) {m : Int} (hm : 0 < m) : ∃ r, m * x.tdiv m = x + r ∧ -m ≤ r ∧ r ≤ m ∧ (0 ≤ x → 0 ≤ x.tdiv m) ∧ (x ≤ 0 → x.tdiv m ≤ 0) := by
  have h := Int.mul_tdiv_add_tmod x m
  refine ⟨-(x.tmod m), by omega, ?_, ?_, fun h0 => Int.tdiv_nonneg h0 (by omega), fun h0 => ?_⟩
  · have := Int.natAbs_tmod x m
    have := Nat.mod_lt x.natAbs (show 0 < m.natAbs by omega)
    omega
  · have := Int.natAbs_tmod x m
    have := Nat.mod_lt x.natAbs (show 0 < m.natAbs by omega)
    omega
  · have h1 := Int.tdiv_nonneg (show 0 ≤ -x by omega) (show 0 ≤ m by omega)
    rw [Int.neg_tdiv] at h1; omega
/-- A term: what it is, but for three units. -/
theorem nextT_near (y w : Int) {m n : Int} (hm : 1 ≤ m) (hn : 1 ≤ n) : ∃ e, 1073741824 * (m * (n * nextT y w m n)) = -(y * w) + e ∧ -(3 * (1073741824 * (m * n))) ≤ e ∧ e ≤ 3 * (1073741824 * (m * n)) := by
  obtain ⟨r1, h1, a1, b1, _⟩ := tdiv_near (y * w) (m := 1073741824) (by decide)
  obtain ⟨r2, h2, a2, b2, _⟩ := tdiv_near ((y * w).tdiv 1073741824) (m := m) (by omega)
  obtain ⟨r3, h3, a3, b3, _⟩ := tdiv_near (((y * w).tdiv 1073741824).tdiv m) (m := n) (by omega)
  unfold nextT
  generalize (((y * w).tdiv 1073741824).tdiv m).tdiv n = q3 at *
  generalize ((y * w).tdiv 1073741824).tdiv m = q2 at *
  generalize (y * w).tdiv 1073741824 = q1 at *
  have mn : m ≤ m * n := by
    have := Int.mul_le_mul_of_nonneg_left hn (show 0 ≤ m by omega); omega
  have mn1 : 1 ≤ m * n := by omega
  have c3 := abs_mul (a := m) (b := r3) (A := m) (B := n) (by omega) (by omega) a3 b3
  refine ⟨-r1 - 1073741824 * r2 - 1073741824 * (m * r3), by grind, by omega, by omega⟩
/-- Terms stay small. -/
theorem nextT_bd {y w m n B : Int} (hy1 : -B ≤ y) (hy2 : y ≤ B) (hw1 : 0 ≤ w) (hw2 : w ≤ 1073741824) (hm : 1 ≤ m) (hn : 1 ≤ n) : -B ≤ nextT y w m n ∧ nextT y w m n ≤ B := by
  have p := abs_mul hy1 hy2 (show -1073741824 ≤ w by omega) hw2
  have t : ∀ {x m : Int}, 1 ≤ m → (x.tdiv m).natAbs ≤ x.natAbs := by
    intro x m hm
    rw [Int.natAbs_tdiv]; exact Nat.div_le_self _ _
  have t1 : ((y * w).tdiv 1073741824).natAbs ≤ B.natAbs := by
    rw [Int.natAbs_tdiv, show (1073741824 : Int).natAbs = 1073741824 from rfl]
    exact Nat.div_le_of_le_mul (by omega)
  have t2 := t (x := (y * w).tdiv 1073741824) hm
  have t3 := t (x := ((y * w).tdiv 1073741824).tdiv m) hn
  unfold nextT
  omega
theorem wvW_bd {a : Int} (h1 : -536870912 ≤ a) (h2 : a ≤ 536870912) : 0 ≤ wvW a ∧ wvW a ≤ 1073741824 ∧ ∃ r, 1073741824 * wvW a = 2 * a * (2 * a) - r ∧ 0 ≤ r ∧ r ≤ 1073741824 := by
  have p := abs_mul (a := 2 * a) (b := 2 * a) (A := 1073741824) (B := 1073741824) (by omega) (by omega) (by omega) (by omega)
  have p0 : 0 ≤ 2 * a * (2 * a) := by
    rcases (show 0 ≤ a ∨ a ≤ 0 by omega) with h | h
    · exact Int.mul_nonneg (by omega) (by omega)
    · have := Int.mul_nonneg (show 0 ≤ -(2 * a) by omega) (show 0 ≤ -(2 * a) by omega)
      grind
  unfold wvW
  refine ⟨by omega, by omega, 2 * a * (2 * a) % 1073741824, by omega, by omega, by omega⟩
theorem wvY_bd {a : Int} (h1 : -536870912 ≤ a) (h2 : a ≤ 536870912) : ∀ k, -1073741824 ≤ wvY a k ∧ wvY a k ≤ 1073741824 := by
  obtain ⟨w1, w2, _⟩ := wvW_bd h1 h2
  intro k
  induction k with
  | zero => exact ⟨(by decide : (-1073741824 : Int) ≤ 1073741824), (by decide : (1073741824 : Int) ≤ 1073741824)⟩
  | succ k ih => exact nextT_bd ih.1 ih.2 w1 w2 (by omega) (by omega)
theorem wvX_bd {a : Int} (h1 : -536870912 ≤ a) (h2 : a ≤ 536870912) : ∀ k, -1073741824 ≤ wvX a k ∧ wvX a k ≤ 1073741824 := by
  obtain ⟨w1, w2, _⟩ := wvW_bd h1 h2
  intro k
  induction k with
  | zero => exact ⟨(by omega : (-1073741824 : Int) ≤ 2 * a), (by omega : 2 * a ≤ 1073741824)⟩
  | succ k ih => exact nextT_bd ih.1 ih.2 w1 w2 (by omega) (by omega)

/-- A term against its own, exact one: D and D' times. -/
theorem term_next {y y' t z z' w r D D' m n E E' : Int} (hw : 1073741824 * w = t - r) (r0 : 0 ≤ r) (r1 : r ≤ 1073741824) (t0 : 0 ≤ t) (t1 : t ≤ 1152921504606846976) (hy : -1073741824 ≤ y ∧ y ≤ 1073741824)
    (hm : 1 ≤ m) (hn : 1 ≤ n) (hz' : z' = -(t * z)) (hy' : y' = nextT y w m n) (hD : D' = 1152921504606846976 * (m * n) * D) (hD0 : 0 ≤ D)
    (h : -E ≤ D * y - z ∧ D * y - z ≤ E) (hE : 1152921504606846976 * E + 1152921504606846976 * D + 3 * D' ≤ E') : -E' ≤ D' * y' - z' ∧ D' * y' - z' ≤ E' := by
  obtain ⟨e, he, e1, e2⟩ := nextT_near y w hm hn
  rw [← hy'] at he
  have yr := abs_mul hy.1 hy.2 (show -1073741824 ≤ r by omega) r1
  have i1 : D' * y' = -(t * (D * y)) + D * (y * r + 1073741824 * e) := by
    have f1 : D' * y' = D * (1073741824 * (1073741824 * (m * (n * y')))) := by rw [hD]; grind
    rw [f1, he]
    have f2 : 1073741824 * (y * w) = y * t - y * r := by
      have : 1073741824 * (y * w) = y * (1073741824 * w) := by grind
      rw [this, hw]; grind
    grind
  have tE := abs_mul (a := t) (b := D * y - z) (A := 1152921504606846976) (B := E) (by omega) t1 h.1 h.2
  have mn0 : 0 ≤ m * n := Int.mul_nonneg (by omega) (by omega)
  have De := abs_mul (a := D) (b := y * r + 1073741824 * e) (A := D) (B := 1152921504606846976 + 3 * (1152921504606846976 * (m * n))) (by omega) (by omega) (by omega) (by omega)
  have f3 : D * (1152921504606846976 + 3 * (1152921504606846976 * (m * n))) = 1152921504606846976 * D + 3 * D' := by rw [hD]; grind
  rw [f3] at De
  have f4 : D' * y' - z' = -(t * (D * y - z)) + D * (y * r + 1073741824 * e) := by rw [i1, hz']; grind
  rw [f4]
  omega

theorem cos_near {a : Int} (h1 : -536870912 ≤ a) (h2 : a ≤ 536870912) : -(32 * one) ≤ one * wvC a 5 - 1073741824 * cosP a ∧ one * wvC a 5 - 1073741824 * cosP a ≤ 32 * one := by
  obtain ⟨_, _, r, hw, r0, r1⟩ := wvW_bd h1 h2
  obtain ⟨t, ht⟩ : ∃ t, t = 2 * a * (2 * a) := ⟨_, rfl⟩
  have tb := abs_mul (a := 2 * a) (b := 2 * a) (A := 1073741824) (B := 1073741824) (by omega) (by omega) (by omega) (by omega)
  rw [← ht] at hw tb
  have t0 : 0 ≤ t := by omega
  have t1 : t ≤ 1152921504606846976 := by omega
  have hb := wvY_bd h1 h2
  have s0 : -0 ≤ 1 * wvY a 0 - 1073741824 ∧ 1 * wvY a 0 - 1073741824 ≤ 0 := by show -0 ≤ 1 * (1073741824 : Int) - 1073741824 ∧ 1 * (1073741824 : Int) - 1073741824 ≤ 0; omega
  obtain ⟨z1, hz1⟩ : ∃ z, z = -(t * 1073741824) := ⟨_, rfl⟩
  have s1 := term_next (y := wvY a 0) (y' := wvY a 1) (D := 1) (D' := 2305843009213693952) (m := 1) (n := 2) (E := 0) (E' := 8070450532247928832) hw r0 r1 t0 t1 (hb 0) (by decide) (by decide) hz1 rfl (by decide) (by decide) s0 (by decide)
  obtain ⟨z2, hz2⟩ : ∃ z, z = -(t * z1) := ⟨_, rfl⟩
  have s2 := term_next (y := wvY a 1) (y' := wvY a 2) (D := 2305843009213693952) (D' := 31901471898837980949691369446728269824) (m := 3) (n := 4) (E := 8070450532247928832) (E' := 107667467658578185705208371882707910656) hw r0 r1 t0 t1 (hb 1) (by decide) (by decide) hz2 rfl (by decide) (by decide) s1 (by decide)
  obtain ⟨z3, hz3⟩ : ∃ z, z = -(t * z2) := ⟨_, rfl⟩
  have s3 := term_next (y := wvY a 2) (y' := wvY a 3) (D := 31901471898837980949691369446728269824) (D' := 1103396789423439978018009859548222612205492167972193566720) (m := 5) (n := 6) (E := 107667467658578185705208371882707910656) (E' := 3471102400061238264181656016495450300896444111745858928640) hw r0 r1 t0 t1 (hb 2) (by decide) (by decide) hz3 rfl (by decide) (by decide) s2 (by decide)
  obtain ⟨z4, hz4⟩ : ∃ z, z = -(t * z3) := ⟨_, rfl⟩
  have s4 := term_next (y := wvY a 3) (y' := wvY a 4) (D := 1103396789423439978018009859548222612205492167972193566720) (D' := 71239273651864456168798555229954474558164150722024956391463162036118429368320) (m := 7) (n := 8) (E := 3471102400061238264181656016495450300896444111745858928640) (E' := 218991859443956845730201808729581035444237491598248591764382480619213758136320) hw r0 r1 t0 t1 (hb 3) (by decide) (by decide) hz4 rfl (by decide) (by decide) s3 (by decide)
  obtain ⟨z5, hz5⟩ : ∃ z, z = -(t * z4) := ⟨_, rfl⟩
  have s5 := term_next (y := wvY a 4) (y' := wvY a 5) (D := 71239273651864456168798555229954474558164150722024956391463162036118429368320) (D' := 7391996150922583109850935714099951470823568506934949466308426462617178860581196239398312398028800) (m := 9) (n := 10) (E := 218991859443956845730201808729581035444237491598248591764382480619213758136320) (E' := 22510602167420333686513693373306420916095824976490383417136024998764734025949213222236152964055040) hw r0 r1 t0 t1 (hb 4) (by decide) (by decide) hz5 rfl (by decide) (by decide) s4 (by decide)
  have hc : wvC a 5 = wvY a 0 + wvY a 1 + wvY a 2 + wvY a 3 + wvY a 4 + wvY a 5 := rfl
  have y0 : wvY a 0 = 1073741824 := rfl
  have tail := ev_bd [0, 0, 0, 0, 0, 0, 0, 0, 0, 0, 0, 0, 35054731648145959154623257821552207656609133072083920924346150475350931826278400, 0, -668244680594570836687157221188892319516951194228159728844800, 0, 9660164459366876106328417810587404206080, 0, -109527542937650462720, 0, 1] (show -536870912 ≤ a from h1) h2
  have tb' : 1073741824 * pbd [0, 0, 0, 0, 0, 0, 0, 0, 0, 0, 0, 0, 35054731648145959154623257821552207656609133072083920924346150475350931826278400, 0, -668244680594570836687157221188892319516951194228159728844800, 0, 9660164459366876106328417810587404206080, 0, -109527542937650462720, 0, 1] 536870912 ≤ 3 * one := by decide +kernel
  have split : cosP a = 9627690086832809936414562588387344342415026070718286113048585856151142267640940150359517426467139587434951766263062744316915524198542544421542675028939882970607875227004128364713780854128640000 - 16701380013058059776529245037796329070882126716643203469690365681450572080889404019617689976911940169931449922986516674056268201909139754122902077041155707461478124911329280000 * (a * a) + 4828712664976941552587194685848412236915824420116495234239994301063221814771833414220925215947389881243232886914202177518284746779077888333981670975733760000 * (a * a * (a * a)) - 558432081245468775533476028082546358546417501769337699261500351448723306841292262060856695550444201939606924171635967485218063665594368000 * (a * a * (a * a) * (a * a)) + 34597330038396512178757736250742438540430932036658696896926844804810527323698635491463992429044937408063590851674112000 * (a * a * (a * a) * (a * a) * (a * a)) - 1333706680527199965862909647260010384710428928776634300387968397975878415591347160553002544345907200 * (a * a * (a * a) * (a * a) * (a * a) * (a * a)) + ev [0, 0, 0, 0, 0, 0, 0, 0, 0, 0, 0, 0, 35054731648145959154623257821552207656609133072083920924346150475350931826278400, 0, -668244680594570836687157221188892319516951194228159728844800, 0, 9660164459366876106328417810587404206080, 0, -109527542937650462720, 0, 1] a := by
    unfold cosP
    simp only [cosL, ev]; grind
  generalize ev [0, 0, 0, 0, 0, 0, 0, 0, 0, 0, 0, 0, 35054731648145959154623257821552207656609133072083920924346150475350931826278400, 0, -668244680594570836687157221188892319516951194228159728844800, 0, 9660164459366876106328417810587404206080, 0, -109527542937650462720, 0, 1] a = tl at *
  have p1 : z1 = -4294967296 * (a * a) := by rw [hz1, ht]; grind
  have p2 : z2 = 17179869184 * (a * a * (a * a)) := by rw [hz2, p1, ht]; grind
  have p3 : z3 = -68719476736 * (a * a * (a * a) * (a * a)) := by rw [hz3, p2, ht]; grind
  have p4 : z4 = 274877906944 * (a * a * (a * a) * (a * a) * (a * a)) := by rw [hz4, p3, ht]; grind
  have p5 : z5 = -1099511627776 * (a * a * (a * a) * (a * a) * (a * a) * (a * a)) := by rw [hz5, p4, ht]; grind
  have o : one = 9627690086832809936414562588387344342415026070718286113048585856151142267640940150359517426467139587434951766263062744316915524198542544421542675028939882970607875227004128364713780854128640000 := rfl
  rw [hc, y0, split, o]
  generalize a * a * (a * a) * (a * a) * (a * a) * (a * a) = A5 at *
  generalize a * a * (a * a) * (a * a) * (a * a) = A4 at *
  generalize a * a * (a * a) * (a * a) = A3 at *
  generalize a * a * (a * a) = A2 at *
  generalize a * a = A1 at *
  omega

theorem sin_pows {a t z1 z2 z3 z4 z5 : Int} (ht : t = 2 * a * (2 * a)) (hz1 : z1 = -(t * (2 * a))) (hz2 : z2 = -(t * z1)) (hz3 : z3 = -(t * z2)) (hz4 : z4 = -(t * z3)) (hz5 : z5 = -(t * z4)) :
    z1 = -(8 * (a * (a * a))) ∧ z2 = 32 * (a * (a * a) * (a * a)) ∧ z3 = -(128 * (a * (a * a) * (a * a) * (a * a))) ∧ z4 = 512 * (a * (a * a) * (a * a) * (a * a) * (a * a)) ∧ z5 = -(2048 * (a * (a * a) * (a * a) * (a * a) * (a * a) * (a * a))) := by
  have p1 : z1 = -(8 * (a * (a * a))) := by rw [hz1, ht]; grind
  have p2 : z2 = 32 * (a * (a * a) * (a * a)) := by rw [hz2, p1, ht]; grind
  have p3 : z3 = -(128 * (a * (a * a) * (a * a) * (a * a))) := by rw [hz3, p2, ht]; grind
  have p4 : z4 = 512 * (a * (a * a) * (a * a) * (a * a) * (a * a)) := by rw [hz4, p3, ht]; grind
  have p5 : z5 = -(2048 * (a * (a * a) * (a * a) * (a * a) * (a * a) * (a * a))) := by rw [hz5, p4, ht]; grind
  exact ⟨p1, p2, p3, p4, p5⟩

theorem sin_near {a : Int} (h1 : -536870912 ≤ a) (h2 : a ≤ 536870912) : -(32 * one) ≤ one * wvS a 5 - 1073741824 * sinP a ∧ one * wvS a 5 - 1073741824 * sinP a ≤ 32 * one := by
  obtain ⟨_, _, r, hw, r0, r1⟩ := wvW_bd h1 h2
  obtain ⟨t, ht⟩ : ∃ t, t = 2 * a * (2 * a) := ⟨_, rfl⟩
  have tb := abs_mul (a := 2 * a) (b := 2 * a) (A := 1073741824) (B := 1073741824) (by omega) (by omega) (by omega) (by omega)
  rw [← ht] at hw tb
  have t0 : 0 ≤ t := by omega
  have t1 : t ≤ 1152921504606846976 := by omega
  have hb := wvX_bd h1 h2
  have s0 : -0 ≤ 1 * wvX a 0 - 2 * a ∧ 1 * wvX a 0 - 2 * a ≤ 0 := by show -0 ≤ 1 * (2 * a) - 2 * a ∧ 1 * (2 * a) - 2 * a ≤ 0; omega
  obtain ⟨z1, hz1⟩ : ∃ z, z = -(t * (2 * a)) := ⟨_, rfl⟩
  have s1 := term_next (y := wvX a 0) (y' := wvX a 1) (D := 1) (D' := 6917529027641081856) (m := 2) (n := 3) (E := 0) (E' := 21905508587530092544) hw r0 r1 t0 t1 (hb 0) (by decide) (by decide) hz1 rfl (by decide) (by decide) s0 (by decide)
  obtain ⟨z2, hz2⟩ : ∃ z, z = -(t * z1) := ⟨_, rfl⟩
  have s2 := term_next (y := wvX a 1) (y' := wvX a 2) (D := 6917529027641081856) (D' := 159507359494189904748456847233641349120) (m := 4) (n := 5) (E := 21905508587530092544) (E' := 511752778377192611067965718207932661760) hw r0 r1 t0 t1 (hb 1) (by decide) (by decide) hz2 rfl (by decide) (by decide) s1 (by decide)
  obtain ⟨z3, hz3⟩ : ∃ z, z = -(t * z2) := ⟨_, rfl⟩
  have s3 := term_next (y := wvX a 2) (y' := wvX a 3) (D := 159507359494189904748456847233641349120) (D' := 7723777525964079846126069016837558285438445175805354967040) (m := 6) (n := 7) (E := 511752778377192611067965718207932661760) (E' := 23945242826029513411849172299223580994042798784118784000000) hw r0 r1 t0 t1 (hb 2) (by decide) (by decide) hz3 rfl (by decide) (by decide) s2 (by decide)
  obtain ⟨z4, hz4⟩ : ∃ z, z = -(t * z3) := ⟨_, rfl⟩
  have s4 := term_next (y := wvX a 3) (y' := wvX a 4) (D := 7723777525964079846126069016837558285438445175805354967040) (D' := 641153462866780105519186997069590271023477356498224607523168458325065864314880) (m := 8) (n := 9) (E := 23945242826029513411849172299223580994042798784118784000000) (E' := 1959972283193985628728399834061623224200007024223608488339088367124909580615680) hw r0 r1 t0 t1 (hb 3) (by decide) (by decide) hz4 rfl (by decide) (by decide) s3 (by decide)
  obtain ⟨z5, hz5⟩ : ∃ z, z = -(t * z4) := ⟨_, rfl⟩
  have s5 := term_next (y := wvX a 4) (y' := wvX a 5) (D := 641153462866780105519186997069590271023477356498224607523168458325065864314880) (D' := 81311957660148414208360292855099466179059253576284444129392691088788967466393158633381436378316800) (m := 10) (n := 11) (E := 1959972283193985628728399834061623224200007024223608488339088367124909580615680) (E' := 246934766789265228023993990281089358925205316725982418747320839693799682232971563748936914000936960) hw r0 r1 t0 t1 (hb 4) (by decide) (by decide) hz5 rfl (by decide) (by decide) s4 (by decide)
  have hc : wvS a 5 = wvX a 0 + wvX a 1 + wvX a 2 + wvX a 3 + wvX a 4 + wvX a 5 := rfl
  have y0 : wvX a 0 = 2 * a := rfl
  have tail := ev_bd [0, 0, 0, 0, 0, 0, 0, 0, 0, 0, 0, 0, 0, 5022655835539383262771720184378928813884053819466657495892126754406400, 0, -82980180853924507484728746263793647229292888719360, 0, 1058438733589000135038751211520, 0, -10737418240] (show -536870912 ≤ a from h1) h2
  have tb' : 1073741824 * pbd [0, 0, 0, 0, 0, 0, 0, 0, 0, 0, 0, 0, 0, 5022655835539383262771720184378928813884053819466657495892126754406400, 0, -82980180853924507484728746263793647229292888719360, 0, 1058438733589000135038751211520, 0, -10737418240] 536870912 ≤ 1 * one := by decide +kernel
  have split : sinP a = 17932970238538104922351543956226379317073200029727604450748461962027740231977664214297230218475944525441064995272201941007590897751120001862836396375559052397697931578390539371806720000 * a - 10369581488928484281232732682051962285539834894639255770600317469146457861419397108019447560677888598250504535304082355186509714715890433715595601152104454401556480000 * (a * (a * a)) + 1798835644489877504329083370360885648770564951045995665431020521023579617877242495946930801848839924202573629809246278374748210154130268221341696000 * (a * (a * a) * (a * a)) - 148594401043831444088230183103932429250440826844247776286277481341128718331800045195662734644339606682000129396265097889841152000 * (a * (a * a) * (a * a) * (a * a)) + 7160283219151304864791891692980800763689588349034947011397705476484887989796415693947009003213076419313664000 * (a * (a * a) * (a * a) * (a * a) * (a * a)) - 225838388998264610405488049316814403762605537199268676406275209712690659475486922086809600 * (a * (a * a) * (a * a) * (a * a) * (a * a) * (a * a)) + ev [0, 0, 0, 0, 0, 0, 0, 0, 0, 0, 0, 0, 0, 5022655835539383262771720184378928813884053819466657495892126754406400, 0, -82980180853924507484728746263793647229292888719360, 0, 1058438733589000135038751211520, 0, -10737418240] a := by
    unfold sinP
    simp only [sinL, ev]; grind
  generalize ev [0, 0, 0, 0, 0, 0, 0, 0, 0, 0, 0, 0, 0, 5022655835539383262771720184378928813884053819466657495892126754406400, 0, -82980180853924507484728746263793647229292888719360, 0, 1058438733589000135038751211520, 0, -10737418240] a = tl at *
  obtain ⟨p1, p2, p3, p4, p5⟩ := sin_pows ht hz1 hz2 hz3 hz4 hz5
  have o : one = 9627690086832809936414562588387344342415026070718286113048585856151142267640940150359517426467139587434951766263062744316915524198542544421542675028939882970607875227004128364713780854128640000 := rfl
  rw [hc, y0, split, o]
  generalize a * (a * a) * (a * a) * (a * a) * (a * a) * (a * a) = A5 at *
  generalize a * (a * a) * (a * a) * (a * a) * (a * a) = A4 at *
  generalize a * (a * a) * (a * a) * (a * a) = A3 at *
  generalize a * (a * a) * (a * a) = A2 at *
  generalize a * (a * a) = A1 at *
  omega

theorem sin_far : pover sinL 536870912 8388608 24 (fun lo _ => decide (3 * one ≤ 4 * lo)) = true := by decide +kernel
theorem cos_far : pover cosL 536870912 8388608 24 (fun lo hi => decide (-(3 * one) ≤ 10 * lo) && decide (10 * hi ≤ 6 * one)) = true := by decide +kernel
theorem sin_low : pover sinL (-939524096) 8388608 24 (fun _ hi => decide (4 * hi ≤ -(3 * one))) = true := by decide +kernel
theorem cos_low : pover cosL (-939524096) 8388608 24 (fun lo _ => decide (-(3 * one) ≤ 10 * lo)) = true := by decide +kernel
theorem cos_left : pover cosL (-536870912) 8388608 32 (fun lo _ => decide (4 * one ≤ 10 * lo)) = true := by decide +kernel
theorem sin_slope : pover sinL.tail (-536870912) 8388608 32 (fun lo _ => decide (4 * one ≤ 5 * 536870912 * lo)) = true := by decide +kernel
theorem sin_tail (a : Int) : sinP a = a * ev sinL.tail a := by
  unfold sinP
  have e : sinL = 0 :: sinL.tail := rfl
  rw [e]
  show 0 + a * ev sinL.tail a = a * ev sinL.tail a
  omega

/-- The angle of a place of the first octant is none but there. -/
theorem oct_rng {X Y a : Int} (hY : 0 ≤ Y) (hYX : Y ≤ X) (hX : 1 ≤ X) (h1 : -far ≤ a) (h2 : a ≤ far)
    (z1 : -(606 * ((X + Y) * one)) ≤ 268435456 * (X * sinP a - Y * cosP a)) (z2 : 268435456 * (X * sinP a - Y * cosP a) ≤ 606 * ((X + Y) * one)) : -2048 < a ∧ a ≤ 536870912 := by
  have hfar : far = 935919873 := rfl
  have o := one_pos
  have Xu : one ≤ X * one := by
    have := Int.mul_le_mul_of_nonneg_right hX (show 0 ≤ one by omega); omega
  have Yu : 0 ≤ Y * one := Int.mul_nonneg hY (by omega)
  have YXu : Y * one ≤ X * one := Int.mul_le_mul_of_nonneg_right hYX (by omega)
  have eV : (X + Y) * one = X * one + Y * one := by grind
  rw [eV] at z1 z2
  constructor
  · apply Int.not_le.1; intro hle
    by_cases hl : a ≤ -536870912
    · obtain ⟨lo, hi, t, l1, l2⟩ := pover_at sin_low (by decide) (a := a) (by omega) (by omega) (by decide)
      obtain ⟨lo', hi', t', l1', l2'⟩ := pover_at cos_low (by decide) (a := a) (by omega) (by omega) (by decide)
      simp only [decide_eq_true_eq] at t t'
      have s : 4 * sinP a ≤ -(3 * one) := by unfold sinP; omega
      have c : -(3 * one) ≤ 10 * cosP a := by unfold cosP; omega
      have m1 := Int.mul_le_mul_of_nonneg_left s (show 0 ≤ X by omega)
      have m2 := Int.mul_le_mul_of_nonneg_left c hY
      have e1 : X * (4 * sinP a) = 4 * (X * sinP a) := by grind
      have e2 : X * -(3 * one) = -(3 * (X * one)) := by grind
      have e3 : Y * (10 * cosP a) = 10 * (Y * cosP a) := by grind
      have e4 : Y * -(3 * one) = -(3 * (Y * one)) := by grind
      omega
    · obtain ⟨lo, hi, t, l1, l2⟩ := pover_at sin_slope (by decide) (a := a) (by omega) (by omega) (by decide)
      obtain ⟨lo', hi', t', l1', l2'⟩ := pover_at cos_left (by decide) (a := a) (by omega) (by omega) (by decide)
      simp only [decide_eq_true_eq] at t t'
      have c : 4 * one ≤ 10 * cosP a := by unfold cosP; omega
      have q : 4 * one ≤ 5 * 536870912 * ev sinL.tail a := by omega
      rw [sin_tail] at z1 z2
      generalize ev sinL.tail a = q' at *
      have m0 := Int.mul_le_mul (show (2048 : Int) ≤ -a by omega) q (by omega) (by omega)
      have m1 := Int.mul_le_mul_of_nonneg_left m0 (show 0 ≤ X by omega)
      have m2 := Int.mul_le_mul_of_nonneg_left c hY
      have e1 : X * (-a * (5 * 536870912 * q')) = -(2684354560 * (X * (a * q'))) := by grind
      have e2 : X * (2048 * (4 * one)) = 8192 * (X * one) := by grind
      have e3 : Y * (10 * cosP a) = 10 * (Y * cosP a) := by grind
      have e4 : Y * (4 * one) = 4 * (Y * one) := by grind
      omega
  · apply Int.not_lt.1; intro hlt
    obtain ⟨lo, hi, t, l1, l2⟩ := pover_at sin_far (by decide) (a := a) (by omega) (by omega) (by decide)
    obtain ⟨lo', hi', t', l1', l2'⟩ := pover_at cos_far (by decide) (a := a) (by omega) (by omega) (by decide)
    simp only [Bool.and_eq_true, decide_eq_true_eq] at t t'
    have s : 3 * one ≤ 4 * sinP a := by unfold sinP; omega
    have c : 10 * cosP a ≤ 6 * one := by unfold cosP; omega
    have m1 := Int.mul_le_mul_of_nonneg_left s (show 0 ≤ X by omega)
    have m2 := Int.mul_le_mul_of_nonneg_left c hY
    have e1 : X * (4 * sinP a) = 4 * (X * sinP a) := by grind
    have e2 : X * (3 * one) = 3 * (X * one) := by grind
    have e3 : Y * (10 * cosP a) = 10 * (Y * cosP a) := by grind
    have e4 : Y * (6 * one) = 6 * (Y * one) := by grind
    omega

/-- Two numbers, shifted alike. -/
theorem norm_rng {l g : Int} (l0 : 0 ≤ l) (lg : l ≤ g) (g1 : 1 ≤ g) (g2 : g ≤ 2147483647) :
    ∃ s : Nat, wNorm g g = g * 2 ^ s / 4 ∧ wNorm l g = l * 2 ^ s / 4 ∧ 1073741824 ≤ g * 2 ^ s ∧ g * 2 ^ s < 2147483648 ∧ 0 ≤ l * 2 ^ s ∧ l * 2 ^ s ≤ g * 2 ^ s := by
  obtain ⟨c, hc, c1, c2, c3, c4⟩ := clz_rng g1 g2
  obtain ⟨s, rfl⟩ : ∃ s, c = s + 1 := ⟨c - 1, by omega⟩
  rw [Int.pow_succ, ← Int.mul_assoc] at c3 c4
  have e : wClz g - 1 = (s : Int) := by omega
  have p := pow_pos' s
  have k0 : 0 ≤ l * 2 ^ s := Int.mul_nonneg l0 (by omega)
  have k1 : l * 2 ^ s ≤ g * 2 ^ s := Int.mul_le_mul_of_nonneg_right lg (by omega)
  refine ⟨s, ?_, ?_, by omega, by omega, k0, k1⟩
  · unfold wNorm; rw [e, shifted (by omega) (by omega) (by omega)]
  · unfold wNorm; rw [e, shifted (by omega) k0 (by omega)]

theorem abs_pos {x : Int} (h : 0 ≤ x) (h2 : x ≤ 2147483647) : wAbs x = x := by unfold wAbs wCut; omega
theorem abs_neg {x : Int} (h : x < 0) (h2 : -2147483647 ≤ x) : wAbs x = -x := by unfold wAbs wCut; omega
/-- The angle of the octant: what is not yet turned into its place. -/
def aOct (l g : Int) : Int := (vN (wNorm l g) (wNorm g g) 28).2.2
theorem aOct_near {l g : Int} (l0 : 0 ≤ l) (lg : l ≤ g) (g1 : 1 ≤ g) (g2 : g ≤ 2147483647) :
    -2048 < aOct l g ∧ aOct l g ≤ 536870912 ∧ -(2500 * ((g + l) * one)) ≤ 1073741824 * (g * sinP (aOct l g) - l * cosP (aOct l g)) ∧ 1073741824 * (g * sinP (aOct l g) - l * cosP (aOct l g)) ≤ 2500 * ((g + l) * one) := by
  obtain ⟨s, hX, hY, b1, b2, b3, b4⟩ := norm_rng l0 lg g1 g2
  obtain ⟨a, ha, a1, a2, z1, z2⟩ := vec_near (X := wNorm g g) (Y := wNorm l g) (by omega) (by omega) (by omega) (by omega)
  have e : aOct l g = a := ha
  rw [e]
  obtain ⟨r1, r2⟩ := oct_rng (by omega) (by omega) (by omega) a1 a2 z1 z2
  refine ⟨r1, r2, ?_⟩
  have o := one_pos
  obtain ⟨p, hp⟩ : ∃ p : Int, p = 2 ^ s := ⟨_, rfl⟩
  have p0 : 0 < p := by rw [hp]; exact pow_pos' s
  rw [← hp] at hX hY b1 b2 b3 b4
  have s0 := sin_bd a1 a2
  have c0 := cos_bd a1 a2
  obtain ⟨rx, hrx⟩ : ∃ r, g * p = 4 * wNorm g g + r := ⟨g * p - 4 * wNorm g g, by omega⟩
  obtain ⟨ry, hry⟩ : ∃ r, l * p = 4 * wNorm l g + r := ⟨l * p - 4 * wNorm l g, by omega⟩
  generalize wNorm g g = X at *
  generalize wNorm l g = Y at *
  generalize sinP a = S at *
  generalize cosP a = C at *
  generalize one = u at *
  have q1 := abs_mul (a := rx) (b := S) (A := 3) (B := 3 * u) (by omega) (by omega) s0.1 s0.2
  have q2 := abs_mul (a := ry) (b := C) (A := 3) (B := 3 * u) (by omega) (by omega) c0.1 c0.2
  have e1 : p * (1073741824 * (g * S - l * C)) = 1073741824 * ((g * p) * S - (l * p) * C) := by grind
  have e2 : (4 * X + rx) * S - (4 * Y + ry) * C = 4 * (X * S - Y * C) + rx * S - ry * C := by grind
  have e3 : p * (2500 * ((g + l) * u)) = 2500 * ((g * p + l * p) * u) := by grind
  have e4 : (4 * X + rx + (4 * Y + ry)) * u = 4 * ((X + Y) * u) + (rx + ry) * u := by grind
  have e5 : 0 ≤ (rx + ry) * u := Int.mul_nonneg (by omega) (by omega)
  have e6 : 268435456 * u ≤ (X + Y) * u := Int.mul_le_mul_of_nonneg_right (by omega) (by omega)
  have lowp : p * -(2500 * ((g + l) * u)) = -(p * (2500 * ((g + l) * u))) := by grind
  constructor
  · refine cancel_mul p0 ?_
    rw [e1, lowp, e3, hrx, hry, e2, e4]; omega
  · refine cancel_mul p0 ?_
    rw [e1, e3, hrx, hry, e2, e4]; omega

/-- In the first octant: the angle itself. -/
theorem ang_oct {y x : Int} (y0 : 0 ≤ y) (yx : y ≤ x) (x2 : x ≤ 2147483647) : wAng y x = aOct y x := by
  have ax := abs_pos (x := x) (by omega) x2
  have ay := abs_pos (x := y) y0 (by omega)
  unfold wAng aOct wGr wLs wMax wMin
  rw [ax, ay]
  simp only [if_neg (show ¬ x < y by omega), if_neg (show ¬ x < 0 by omega), if_neg (show ¬ y < 0 by omega)]

/-- P9.4: near to the true angle. -/
theorem ang_true {y x : Int} (y0 : 0 ≤ y) (yx : y ≤ x) (x1 : 1 ≤ x) (x2 : x ≤ 2147483647) :
    -536870912 ≤ wAng y x ∧ wAng y x ≤ 536870912 ∧ -(4096 * (x + y)) ≤ x * wvS (wAng y x) 5 - y * wvC (wAng y x) 5 ∧ x * wvS (wAng y x) 5 - y * wvC (wAng y x) 5 ≤ 4096 * (x + y) := by
  rw [ang_oct y0 yx x2]
  obtain ⟨a1, a2, z1, z2⟩ := aOct_near y0 yx x1 x2
  generalize aOct y x = a at *
  have s := sin_near (a := a) (by omega) a2
  have c := cos_near (a := a) (by omega) a2
  refine ⟨by omega, a2, ?_⟩
  have o := one_pos
  generalize wvS a 5 = sn at *
  generalize wvC a 5 = cn at *
  generalize sinP a = S at *
  generalize cosP a = C at *
  generalize one = u at *
  have q1 := abs_mul (a := x) (b := u * sn - 1073741824 * S) (A := x) (B := 32 * u) (by omega) (by omega) s.1 s.2
  have q2 := abs_mul (a := y) (b := u * cn - 1073741824 * C) (A := y) (B := 32 * u) (by omega) (by omega) c.1 c.2
  have e1 : u * (x * sn - y * cn) = 1073741824 * (x * S - y * C) + x * (u * sn - 1073741824 * S) - y * (u * cn - 1073741824 * C) := by grind
  have e2 : u * (4096 * (x + y)) = 4096 * ((x + y) * u) := by grind
  have e3 : x * (32 * u) + y * (32 * u) = 32 * ((x + y) * u) := by grind
  have e4 : 0 ≤ (x + y) * u := Int.mul_nonneg (by omega) (by omega)
  have e5 : u * -(4096 * (x + y)) = -(u * (4096 * (x + y))) := by grind
  constructor
  · refine cancel_mul o ?_
    rw [e1, e5, e2]; omega
  · refine cancel_mul o ?_
    rw [e1, e2]; omega

/-- The angle of any place: the octant's, turned; no sum goes round. -/
theorem ang_any {y x ax ay g l : Int} (hx : wAbs x = ax) (hy : wAbs y = ay) (hg : (if ax < ay then ay else ax) = g) (hl : (if ax < ay then ax else ay) = l)
    (a1 : -2048 < aOct l g) (a2 : aOct l g ≤ 536870912) :
    wAng y x = if y < 0 then -(if x < 0 then 1686629713 - (if ax < ay then 843314857 - aOct l g else aOct l g) else (if ax < ay then 843314857 - aOct l g else aOct l g))
      else (if x < 0 then 1686629713 - (if ax < ay then 843314857 - aOct l g else aOct l g) else (if ax < ay then 843314857 - aOct l g else aOct l g)) := by
  unfold wAng
  have e1 : wGr y x = g := by unfold wGr wMax; rw [hx, hy]; exact hg
  have e2 : wLs y x = l := by unfold wLs wMin; rw [hx, hy]; exact hl
  simp only [e1, e2, hx, hy]
  change (if y < 0 then wrap32 (0 - (if x < 0 then wrap32 (1686629713 - (if ax < ay then wrap32 (843314857 - aOct l g) else aOct l g)) else (if ax < ay then wrap32 (843314857 - aOct l g) else aOct l g)))
    else (if x < 0 then wrap32 (1686629713 - (if ax < ay then wrap32 (843314857 - aOct l g) else aOct l g)) else (if ax < ay then wrap32 (843314857 - aOct l g) else aOct l g))) = _
  generalize aOct l g = a at *
  rw [IntWalk.wrap32_in (843314857 - a) (by omega)]
  obtain ⟨b, hb, b1, b2⟩ : ∃ b, (if ax < ay then 843314857 - a else a) = b ∧ -2048 ≤ b ∧ b ≤ 843316905 := by
    by_cases h : ax < ay
    · exact ⟨_, rfl, by rw [if_pos h]; omega, by rw [if_pos h]; omega⟩
    · exact ⟨_, rfl, by rw [if_neg h]; omega, by rw [if_neg h]; omega⟩
  rw [hb, IntWalk.wrap32_in (1686629713 - b) (by omega)]
  obtain ⟨c, hc, c1, c2⟩ : ∃ c, (if x < 0 then 1686629713 - b else b) = c ∧ -2048 ≤ c ∧ c ≤ 1686631761 := by
    by_cases h : x < 0
    · exact ⟨_, rfl, by rw [if_pos h]; omega, by rw [if_pos h]; omega⟩
    · exact ⟨_, rfl, by rw [if_neg h]; omega, by rw [if_neg h]; omega⟩
  rw [hc, IntWalk.wrap32_in (0 - c) (by omega)]
  by_cases h : y < 0
  · rw [if_pos h, if_pos h]; omega
  · rw [if_neg h, if_neg h]
/-- P9.5: folded. -/
theorem ang_folds {y x : Int} (y1 : 1 ≤ y) (y2 : y ≤ 2147483647) (x1 : 1 ≤ x) (x2 : x ≤ 2147483647) :
    wAng (-y) x = -wAng y x ∧ wAng y (-x) = 1686629713 - wAng y x ∧ wAng (-y) (-x) = wAng y x - 1686629713 ∧ (x ≠ y → wAng x y = 843314857 - wAng y x) ∧ -2048 < wAng y x ∧ wAng y x < 843316905 := by
  have hx := abs_pos (x := x) (by omega) x2
  have hy := abs_pos (x := y) (by omega) y2
  have hx' : wAbs (-x) = x := by rw [abs_neg (by omega) (by omega)]; omega
  have hy' : wAbs (-y) = y := by rw [abs_neg (by omega) (by omega)]; omega
  by_cases h : x < y
  · obtain ⟨a1, a2, _⟩ := aOct_near (l := x) (g := y) (by omega) (by omega) (by omega) y2
    have g1 : (if x < y then y else x) = y := if_pos h
    have l1 : (if x < y then x else y) = x := if_pos h
    have g2 : (if y < x then x else y) = y := if_neg (by omega)
    have l2 : (if y < x then y else x) = x := if_neg (by omega)
    rw [ang_any hx hy g1 l1 a1 a2, ang_any hx hy' g1 l1 a1 a2, ang_any hx' hy g1 l1 a1 a2, ang_any hx' hy' g1 l1 a1 a2, ang_any hy hx g2 l2 a1 a2]
    rw [if_neg (show ¬ y < 0 by omega), if_neg (show ¬ x < 0 by omega), if_pos (show -y < 0 by omega), if_pos (show -x < 0 by omega), if_pos h, if_neg (show ¬ x < 0 by omega), if_neg (show ¬ y < 0 by omega), if_neg (show ¬ y < x by omega)]
    omega
  · obtain ⟨a1, a2, _⟩ := aOct_near (l := y) (g := x) (by omega) (by omega) (by omega) x2
    have g1 : (if x < y then y else x) = x := if_neg h
    have l1 : (if x < y then x else y) = y := if_neg h
    rw [ang_any hx hy g1 l1 a1 a2, ang_any hx hy' g1 l1 a1 a2, ang_any hx' hy g1 l1 a1 a2, ang_any hx' hy' g1 l1 a1 a2]
    rw [if_neg (show ¬ y < 0 by omega), if_neg (show ¬ x < 0 by omega), if_pos (show -y < 0 by omega), if_pos (show -x < 0 by omega), if_neg h]
    refine ⟨by omega, by omega, by omega, fun hne => ?_, by omega, by omega⟩
    have g2 : (if y < x then x else y) = x := if_pos (by omega)
    have l2 : (if y < x then y else x) = y := if_pos (by omega)
    rw [ang_any hy hx g2 l2 a1 a2, if_neg (show ¬ x < 0 by omega), if_neg (show ¬ y < 0 by omega), if_pos (show y < x by omega)]

/-- P9.2: twice as far. -/
theorem norm_twice {v g : Int} (v0 : 0 ≤ v) (vg : v ≤ g) (g1 : 1 ≤ g) (g2 : g ≤ 1073741823) : wNorm (2 * v) (2 * g) = wNorm v g := by
  obtain ⟨c, hc, c1, c2, c3, c4⟩ := clz_rng g1 (by omega)
  obtain ⟨d, hd, d1, d2, d3, d4⟩ := clz_rng (x := 2 * g) (by omega) (by omega)
  have e : c = d + 1 := by
    have q : (2 : Int) * g * 2 ^ d = g * 2 ^ (d + 1) := by rw [Int.pow_succ]; grind
    rw [q] at d3 d4
    rcases (show c < d + 1 ∨ c = d + 1 ∨ d + 1 < c by omega) with h | h | h
    · obtain ⟨k, hk⟩ : ∃ k, d + 1 = c + 1 + k := ⟨d - c, by omega⟩
      have e : g * 2 ^ (d + 1) = g * 2 ^ c * 2 * 2 ^ k := by rw [hk, Int.pow_add, Int.pow_succ]; grind
      have p := pow_pos' k
      have := Int.mul_le_mul_of_nonneg_left (show (1 : Int) ≤ 2 ^ k by omega) (show 0 ≤ g * 2 ^ c * 2 by omega)
      omega
    · exact h
    · obtain ⟨k, hk⟩ : ∃ k, c = d + 1 + 1 + k := ⟨c - (d + 2), by omega⟩
      have e : g * 2 ^ c = g * 2 ^ (d + 1) * 2 * 2 ^ k := by rw [hk, Int.pow_add, Int.pow_succ (2 : Int) (d + 1)]; grind
      have p := pow_pos' k
      have := Int.mul_le_mul_of_nonneg_left (show (1 : Int) ≤ 2 ^ k by omega) (show 0 ≤ g * 2 ^ (d + 1) * 2 by omega)
      omega
  obtain ⟨s, rfl⟩ : ∃ s, d = s + 1 := ⟨d - 1, by omega⟩
  subst e
  have ec : wClz g - 1 = ((s + 1 : Nat) : Int) := by omega
  have ed : wClz (2 * g) - 1 = (s : Int) := by omega
  have p := pow_pos' (s + 1)
  have k0 : 0 ≤ v * 2 ^ (s + 1) := Int.mul_nonneg v0 (by omega)
  have k1 : v * 2 ^ (s + 1) ≤ g * 2 ^ (s + 1) := Int.mul_le_mul_of_nonneg_right vg (by omega)
  have k2 : 2 * v * 2 ^ s = v * 2 ^ (s + 1) := by rw [Int.pow_succ]; grind
  have k3 : g * 2 ^ (s + 1 + 1) = g * 2 ^ (s + 1) * 2 := by rw [Int.pow_succ]; grind
  unfold wNorm
  rw [ec, ed, shifted (by omega) (by omega) (by omega), shifted (by omega) (by omega) (by omega), k2]
theorem abs_twice {x : Int} (h1 : -1073741823 ≤ x) (h2 : x ≤ 1073741823) : wAbs (2 * x) = 2 * wAbs x := by unfold wAbs wCut; omega
theorem abs_rng {x : Int} (h1 : -1073741823 ≤ x) (h2 : x ≤ 1073741823) : 0 ≤ wAbs x ∧ wAbs x ≤ 1073741823 ∧ (wAbs x = 0 → x = 0) := by unfold wAbs wCut; omega
theorem ang_twice {y x : Int} (y1 : -1073741823 ≤ y) (y2 : y ≤ 1073741823) (x1 : -1073741823 ≤ x) (x2 : x ≤ 1073741823) : wAng (2 * y) (2 * x) = wAng y x := by
  have ax := abs_rng x1 x2
  have ay := abs_rng y1 y2
  unfold wAng wGr wLs wMax wMin
  rw [abs_twice x1 x2, abs_twice y1 y2]
  have sx : (2 * x < 0) = (x < 0) := by apply propext; omega
  have sy : (2 * y < 0) = (y < 0) := by apply propext; omega
  have sxy : (2 * wAbs x < 2 * wAbs y) = (wAbs x < wAbs y) := by apply propext; omega
  simp only [sx, sy, sxy]
  by_cases h : wAbs x < wAbs y
  · simp only [if_pos h]
    rw [norm_twice ax.1 (by omega) (by omega) ay.2.1, norm_twice ay.1 (by omega) (by omega) ay.2.1]
  · simp only [if_neg h]
    by_cases h0 : wAbs x = 0
    · have e0 : wAbs y = 0 := by omega
      rw [h0, e0]; rfl
    · rw [norm_twice ay.1 (by omega) (by omega) ax.2.1, norm_twice ax.1 (by omega) (by omega) ax.2.1]

def nhiL : List Int := [425146868776699876, 850293746143338442, 1062867189121627071, 1129296393810440445, 1146941654795569091, 1151421900198019213, 1152546340076618480, 1152827727822504491, 1152898095171525265, 1152915691312116616, 1152920093639809719, 1152921197449255544, 1152921476624155755, 1152921549639648746, 1152921571115012236, 1152921579705211270, 1152921585074053583, 1152921589637523940, 1152921593999634923, 1152921598311397871, 1152921602610569714, 1152921606906591733, 1152921611201825272, 1152921615496861179, 1152921619791847422, 1152921624086821121, 1152921628381791620, 1152921632676761287, 1152921636971730730]
def nloL : List Int := [425146868776699876, 850293728963461062, 1062867154761872309, 1129296346565777646, 1146941597149027407, 1151421833199485865, 1152546264154282599, 1152827643157476398, 1152898001844282039, 1152915589359956188, 1152919983080544457, 1152921078291557540, 1152921348872296343, 1152921413295745873, 1152921426180120062, 1152921426179855575, 1152921422958496907, 1152921418931897461, 1152921414704004205, 1152921410425795689, 1152921406135012454, 1152921401841087587, 1152921397546378336, 1152921393251473501, 1152921388956520026, 1152921384661554519, 1152921380366586068, 1152921376071616913, 1152921371776647598]
def remL : List Int := [935919877, 514262449, 265343534, 133821616, 67059037, 33548194, 16776436, 8388511, 4194292, 2097151, 1048576, 524288, 262144, 131072, 65536, 32768, 16384, 8192, 4096, 2048, 1024, 512, 256, 128, 64, 32, 16, 8, 4]
def lossL : List Int := [8589938690, 25769816072, 85899386912, 309237792896, 1168231662080, 4535487629312, 17867072479232, 70918533840896, 282574623211520, 1128099468541952, 4507999825559552, 18023203205021696, 72075220625653760, 288265698113748992, 1152992423677263872, 4611828957153591296, 18447034353503436800, 73787574463791890432, 295149171954723848192, 1180594436018007965696, 4722373240470257008640, 18889483954677478326272, 75557917804302813888512, 302231635188397056720896, 1208926468695959829217280, 4835705730668582521536512, 19342822634443816495480832, 77371289961314238800592896]
def nhi (i : Nat) : Int := nhiL.getD i 0
def nlo (i : Nat) : Int := nloL.getD i 0
def remT (i : Nat) : Int := remL.getD i 0
def loss (i : Nat) : Int := lossL.getD i 0
theorem waves_ok : ((List.range 28).all fun i => decide (tab i ≤ remT (i + 1)) && decide (remT i - tab i ≤ remT (i + 1)) && decide (2 ^ i * one ≤ 2 ^ i * cosP (tab i) + sinP (tab i))
    && decide ((2 ^ i * 2 ^ i + 1) * nhi i + loss i ≤ 2 ^ i * 2 ^ i * nhi (i + 1)) && decide (2 ^ i * 2 ^ i * nlo (i + 1) ≤ (2 ^ i * 2 ^ i + 1) * nlo i - loss i) && decide (nhi (i + 1) ≤ 1152922054362660864)
    && decide (2 * (2 ^ i * (2 ^ i + 1)) * 2147484672 + 2 * (2 ^ i * 2 ^ i) ≤ loss i) && decide (nhi i ≤ 1152922054362660864) && decide (remT (i + 1) ≤ far) && decide (remT i ≤ 2 * far)) = true := by decide +kernel

/-- What holds behind i steps. -/
def UI (b : Int) (i : Nat) (x y r : Int) : Prop :=
  (-remT i ≤ r ∧ r ≤ remT i) ∧ (-sumT i ≤ b - r ∧ b - r ≤ sumT i) ∧ (-(err i * one) ≤ x * sinP (b - r) - y * cosP (b - r) ∧ x * sinP (b - r) - y * cosP (b - r) ≤ err i * one)
    ∧ (652032874 - 16 * (i : Int)) * one ≤ x * cosP (b - r) + y * sinP (b - r) ∧ (nlo i ≤ x * x + y * y ∧ x * x + y * y ≤ nhi i)

theorem sq_nonneg (x : Int) : 0 ≤ x * x := by
  rcases (show 0 ≤ x ∨ x ≤ 0 by omega) with h | h
  · exact Int.mul_nonneg h h
  · have := Int.mul_nonneg (show 0 ≤ -x by omega) (show 0 ≤ -x by omega)
    grind
theorem sq_bd {x B : Int} (hB : 0 ≤ B) (h : x * x < (B + 1) * (B + 1)) : -B ≤ x ∧ x ≤ B := by
  constructor
  · apply Int.not_lt.1; intro hlt
    have := Int.mul_le_mul (show B + 1 ≤ -x by omega) (show B + 1 ≤ -x by omega) (by omega) (by omega)
    have e : -x * -x = x * x := by grind
    omega
  · apply Int.not_lt.1; intro hlt
    have := Int.mul_le_mul (show B + 1 ≤ x by omega) (show B + 1 ≤ x by omega) (by omega) (by omega)
    omega
theorem norm_next {p x y xr yr x' y' g B : Int} (hg : g = 1 ∨ g = -1) (hp : 1 ≤ p) (hx : p * x' = p * x - g * (y - yr)) (hy : p * y' = p * y + g * (x - xr)) (r1 : 0 ≤ xr ∧ xr ≤ p) (r2 : 0 ≤ yr ∧ yr ≤ p)
    (x1 : -B ≤ x ∧ x ≤ B) (y1 : -B ≤ y ∧ y ≤ B) : -(2 * (p * (p + 1)) * (2 * B) + 2 * (p * p)) ≤ p * p * (x' * x' + y' * y') - (p * p + 1) * (x * x + y * y)
      ∧ p * p * (x' * x' + y' * y') - (p * p + 1) * (x * x + y * y) ≤ 2 * (p * (p + 1)) * (2 * B) + 2 * (p * p) := by
  have e1 : p * p * (x' * x' + y' * y') = (p * x') * (p * x') + (p * y') * (p * y') := by grind
  rw [e1, hx, hy]
  have px := abs_mul (a := p) (b := x) (A := p) (B := B) (by omega) (by omega) x1.1 x1.2
  have py := abs_mul (a := p) (b := y) (A := p) (B := B) (by omega) (by omega) y1.1 y1.2
  have u1 := abs_mul (a := g * (p * x) - y) (b := yr) (A := p * B + B) (B := p) (by rcases hg with rfl | rfl <;> omega) (by rcases hg with rfl | rfl <;> omega) (by omega) r2.2
  have u2 := abs_mul (a := g * (p * y) + x) (b := xr) (A := p * B + B) (B := p) (by rcases hg with rfl | rfl <;> omega) (by rcases hg with rfl | rfl <;> omega) (by omega) r1.2
  have v1 := abs_mul (a := xr) (b := xr) (A := p) (B := p) (by omega) r1.2 (by omega) r1.2
  have v2 := abs_mul (a := yr) (b := yr) (A := p) (B := p) (by omega) r2.2 (by omega) r2.2
  have w1 := sq_nonneg xr
  have w2 := sq_nonneg yr
  have e2 : (p * x - g * (y - yr)) * (p * x - g * (y - yr)) + (p * y + g * (x - xr)) * (p * y + g * (x - xr)) - (p * p + 1) * (x * x + y * y) = 2 * ((g * (p * x) - y) * yr) + yr * yr - 2 * ((g * (p * y) + x) * xr) + xr * xr := by
    rcases hg with rfl | rfl
    · grind
    · grind
  rw [e2]
  have e3 : (p * B + B) * p = p * (p + 1) * B := by grind
  rw [e3] at u1 u2
  have e4 : 2 * (p * (p + 1)) * (2 * B) = 4 * (p * (p + 1) * B) := by grind
  rw [e4]
  omega

set_option maxHeartbeats 1000000 in
theorem ui_step {b : Int} {i : Nat} {x y r : Int} (hi : i < 28) (h : UI b i x y r) :
    (-2147483648 ≤ x ∧ x ≤ 2147483647) ∧ (-2147483648 ≤ y ∧ y ≤ 2147483647) ∧ ∃ x' y' r', uStep i x y r = (x', y', r') ∧ UI b (i + 1) x' y' r' := by
  have k := List.all_eq_true.1 steps_ok i (List.mem_range.2 hi)
  simp only [Bool.and_eq_true, decide_eq_true_eq] at k
  obtain ⟨⟨⟨⟨⟨⟨⟨⟨⟨⟨⟨⟨k1, k2⟩, k3⟩, k4⟩, k5⟩, k6⟩, k7⟩, k8⟩, k9⟩, k10⟩, k11⟩, k12⟩, k13⟩ := k
  clear k10 k11 k12
  have m := List.all_eq_true.1 waves_ok i (List.mem_range.2 hi)
  simp only [Bool.and_eq_true, decide_eq_true_eq] at m
  obtain ⟨⟨⟨⟨⟨⟨⟨⟨⟨m1, m2⟩, m3⟩, m4⟩, m5⟩, m6⟩, m7⟩, m8⟩, m9⟩, m10⟩ := m
  obtain ⟨⟨i1, i2⟩, ⟨i3, i4⟩, iW, iP, i5, i6⟩ := h
  obtain ⟨p1, p2⟩ := pow_bd hi
  obtain ⟨sa1, sa2⟩ := sum_far (i := i) (by omega)
  have sn : sumT (i + 1) = sumT i + tab i := rfl
  have hfar : far = 935919873 := rfl
  have x0 := sq_nonneg x
  have y0 := sq_nonneg y
  have xB := sq_bd (x := x) (B := 1073742336) (by decide) (by omega)
  have yB := sq_bd (x := y) (B := 1073742336) (by decide) (by omega)
  have ex := Int.mul_ediv_add_emod x (2 ^ i)
  have ey := Int.mul_ediv_add_emod y (2 ^ i)
  have rx0 := Int.emod_nonneg x (show (2 : Int) ^ i ≠ 0 by omega)
  have rx1 := Int.emod_lt_of_pos x (show (0 : Int) < 2 ^ i by omega)
  have ry0 := Int.emod_nonneg y (show (2 : Int) ^ i ≠ 0 by omega)
  have ry1 := Int.emod_lt_of_pos y (show (0 : Int) < 2 ^ i by omega)
  refine ⟨by omega, by omega, ?_⟩
  rw [uStep_eq hi r (by omega) (by omega) (by omega) (by omega)]
  have hgg := gOf_or r
  have hgr : (0 ≤ r ∧ gOf r = 1) ∨ (r < 0 ∧ gOf r = -1) := by unfold gOf; split <;> omega
  obtain ⟨g, hg⟩ : ∃ g, gOf r = g := ⟨_, rfl⟩
  rw [hg] at hgg hgr ⊢
  obtain ⟨x', hx'⟩ : ∃ x', x' = x - g * (y / 2 ^ i) := ⟨_, rfl⟩
  obtain ⟨y', hy'⟩ : ∃ y', y' = y + g * (x / 2 ^ i) := ⟨_, rfl⟩
  obtain ⟨r', hr'⟩ : ∃ r', r' = r - g * tab i := ⟨_, rfl⟩
  rw [← hx', ← hy', ← hr']
  have hxm : 2 ^ i * x' = 2 ^ i * x - g * (y - y % 2 ^ i) := by
    have : y - y % 2 ^ i = 2 ^ i * (y / 2 ^ i) := by omega
    rw [this, hx']; grind
  have hym : 2 ^ i * y' = 2 ^ i * y + g * (x - x % 2 ^ i) := by
    have : x - x % 2 ^ i = 2 ^ i * (x / 2 ^ i) := by omega
    rw [this, hy']; grind
  -- the circle
  have nn := norm_next (B := 1073742336) hgg p1 hxm hym ⟨rx0, by omega⟩ ⟨ry0, by omega⟩ xB yB
  have pp : (0 : Int) < 2 ^ i * 2 ^ i := Int.mul_pos (by omega) (by omega)
  have q1 := Int.mul_le_mul_of_nonneg_left i6 (show (0 : Int) ≤ 2 ^ i * 2 ^ i + 1 by omega)
  have q2 := Int.mul_le_mul_of_nonneg_left i5 (show (0 : Int) ≤ 2 ^ i * 2 ^ i + 1 by omega)
  have n1 : x' * x' + y' * y' ≤ nhi (i + 1) := cancel_mul pp (by omega)
  have n0 : nlo (i + 1) ≤ x' * x' + y' * y' := cancel_mul pp (by omega)
  have x0' := sq_nonneg x'
  have y0' := sq_nonneg y'
  have xB' := sq_bd (x := x') (B := 1073742336) (by decide) (by omega)
  have yB' := sq_bd (x := y') (B := 1073742336) (by decide) (by omega)
  -- the angle
  have a5 : -remT (i + 1) ≤ r' := by rw [hr']; rcases hgr with ⟨h0, rfl⟩ | ⟨h0, rfl⟩ <;> omega
  have a6 : r' ≤ remT (i + 1) := by rw [hr']; rcases hgr with ⟨h0, rfl⟩ | ⟨h0, rfl⟩ <;> omega
  have ea : b - r' = b - r + g * tab i := by rw [hr']; omega
  have a7 : -sumT (i + 1) ≤ b - r' := by rw [ea, sn]; rcases hgg with rfl | rfl <;> omega
  have a8 : b - r' ≤ sumT (i + 1) := by rw [ea, sn]; rcases hgg with rfl | rfl <;> omega
  have fa : -far ≤ b - r ∧ b - r ≤ far := by omega
  have fa' : -far ≤ b - r + g * tab i ∧ b - r + g * tab i ≤ far := by omega
  obtain ⟨d1, hS, d1a, d1b⟩ := sin_turn hi hgg fa.1 fa.2
  obtain ⟨d2, hC, d2a, d2b⟩ := cos_turn hi hgg fa.1 fa.2
  have s0 := sin_bd fa.1 fa.2
  have c0 := cos_bd fa.1 fa.2
  have s1 := sin_bd fa'.1 fa'.2
  have c1 := cos_bd fa'.1 fa'.2
  rw [← ea] at hS hC s1 c1
  have o := one_pos
  have hxt : 2 ^ i * x' = 2 ^ i * x + g * (-y - -(y % 2 ^ i)) := by rw [hxm]; grind
  have hyt : 2 ^ i * -y' = 2 ^ i * -y - g * (x - x % 2 ^ i) := by
    have : 2 ^ i * -y' = -(2 ^ i * y') := by grind
    rw [this, hym]; grind
  have T := turn_next (p := 2 ^ i) (x := x) (y := -y) (x' := x') (y' := -y') (X := 1) (Y := 0) (r := err i) (r' := err (i + 1)) hgg (by omega) o hS hC hxt hyt ⟨d1a, d1b⟩ ⟨d2a, d2b⟩
    ⟨by omega, by omega⟩ ⟨by omega, by omega⟩ ⟨by omega, by omega⟩ ⟨by omega, by omega⟩ s0 c0 s1 c1 k4 k2 ⟨k6, k7⟩ (by decide) (by decide) ⟨1073742336, 1073742336, by omega, by omega, by omega, by omega, by decide⟩ (by
      have e : 1 * (x * sinP (b - r) + -y * cosP (b - r)) - 0 * (x * cosP (b - r) - -y * sinP (b - r)) = x * sinP (b - r) - y * cosP (b - r) := by grind
      have e' : err i * ((1 + 0) * one) = err i * one := by grind
      rw [e, e']; exact iW) k8
  have Pp := turn_pos (p := 2 ^ i) (x := x) (y := -y) (x' := x') (y' := -y') (k := 652032874 - 16 * (i : Int)) hgg (by omega) o hS hC hxt hyt ⟨d1a, d1b⟩ ⟨d2a, d2b⟩
    ⟨by omega, by omega⟩ ⟨by omega, by omega⟩ ⟨by omega, by omega⟩ ⟨by omega, by omega⟩ s0 c0 s1 c1 ⟨k6, k7⟩ m3 ⟨1073742336, 1073742336, by omega, by omega, by omega, by omega, by decide⟩ (by omega) (by
      have e : x * cosP (b - r) - -y * sinP (b - r) = x * cosP (b - r) + y * sinP (b - r) := by grind
      rw [e]; exact iP)
  refine ⟨x', y', r', ?_, ⟨a5, a6⟩, ⟨a7, a8⟩, ?_, ?_, n0, n1⟩
  · rw [IntWalk.wrap32_in _ (by omega), IntWalk.wrap32_in _ (by omega), IntWalk.wrap32_in _ (by omega)]
  · have e : 1 * (x' * sinP (b - r') + -y' * cosP (b - r')) - 0 * (x' * cosP (b - r') - -y' * sinP (b - r')) = x' * sinP (b - r') - y' * cosP (b - r') := by grind
    have e' : err (i + 1) * ((1 + 0) * one) = err (i + 1) * one := by grind
    rw [e, e'] at T; exact T
  · have e : x' * cosP (b - r') - -y' * sinP (b - r') = x' * cosP (b - r') + y' * sinP (b - r') := by grind
    have e' : 652032874 - 16 * ((i + 1 : Nat) : Int) = 652032874 - 16 * (i : Int) - 16 := by omega
    rw [e] at Pp; rw [e']; exact Pp
theorem ui_start {b : Int} (b1 : -843314857 ≤ b) (b2 : b ≤ 843314857) : UI b 0 652032874 0 b := by
  have s0 : sinP 0 = 0 := by decide +kernel
  have c0 : cosP 0 = one := by decide +kernel
  have e : b - b = 0 := by omega
  unfold UI
  rw [e, s0, c0]
  refine ⟨?_, ?_, ?_, ?_, ?_⟩
  · have : remT 0 = 935919877 := rfl
    omega
  · exact ⟨(by decide : -sumT 0 ≤ 0), (by decide : (0 : Int) ≤ sumT 0)⟩
  · have : err 0 = 0 := rfl
    rw [this]; omega
  · have o := one_pos
    omega
  · have h1 : nlo 0 = 425146868776699876 := rfl
    have h2 : nhi 0 = 425146868776699876 := rfl
    omega
theorem ui_all {b : Int} (b1 : -843314857 ≤ b) (b2 : b ≤ 843314857) : ∀ k : Nat, k ≤ 28 → ∃ x y r, uN b k = (x, y, r) ∧ UI b k x y r := by
  intro k
  induction k with
  | zero => intro _; exact ⟨_, _, _, rfl, ui_start b1 b2⟩
  | succ k ih =>
    intro hk
    obtain ⟨x, y, r, e, h⟩ := ih (by omega)
    obtain ⟨_, _, x', y', r', e', h'⟩ := ui_step (by omega) h
    refine ⟨x', y', r', ?_, h'⟩
    show uStep k (uN b k).1 (uN b k).2.1 (uN b k).2.2 = _
    rw [e]; exact e'
/-- Sine and cosine of an angle up to a right one. -/
theorem wave_near {b : Int} (b1 : -843314857 ≤ b) (b2 : b ≤ 843314857) :
    ∃ x y al, (uN b 28).1 = x ∧ (uN b 28).2.1 = y ∧ (-4 ≤ b - al ∧ b - al ≤ 4) ∧ (-(477 * one) ≤ x * sinP al - y * cosP al ∧ x * sinP al - y * cosP al ≤ 477 * one) ∧ 652032000 * one ≤ x * cosP al + y * sinP al
      ∧ 1152920954851033088 ≤ x * x + y * y ∧ x * x + y * y ≤ 1152922054362660864 := by
  obtain ⟨x, y, r, e, ⟨i1, i2⟩, _, iW, iP, i5, i6⟩ := ui_all b1 b2 28 (by decide)
  have h1 : remT 28 = 4 := rfl
  have h2 : err 28 = 477 := rfl
  have h3 : nlo 28 = 1152921371776647598 := rfl
  have h4 : nhi 28 = 1152921636971730730 := rfl
  have o := one_pos
  rw [h2] at iW
  refine ⟨x, y, b - r, by rw [e], by rw [e], by omega, iW, ?_, by omega, by omega⟩
  have : (652032874 - 16 * ((28 : Nat) : Int)) * one = 652032426 * one := rfl
  omega

/-- A right angle further. -/
def offS : List Int := padd (psh sinL 843314857) (psc (-1) cosL)
def offC : List Int := padd (psh cosL 843314857) sinL
theorem off_small : (decide (1073741824 * pbd offS far ≤ 5 * one) && decide (1073741824 * pbd offC far ≤ 5 * one)) = true := by decide +kernel
theorem sin_right {b : Int} (h1 : -far ≤ b) (h2 : b ≤ far) : ∃ e, sinP (b + 843314857) = cosP b + e ∧ -(5 * one) ≤ 1073741824 * e ∧ 1073741824 * e ≤ 5 * one := by
  have k := off_small
  simp only [Bool.and_eq_true, decide_eq_true_eq] at k
  have v := ev_bd offS h1 h2
  refine ⟨ev offS b, ?_, by omega, by omega⟩
  unfold offS sinP cosP
  rw [ev_padd, ev_psc, ev_psh]; omega
theorem cos_right {b : Int} (h1 : -far ≤ b) (h2 : b ≤ far) : ∃ e, cosP (b + 843314857) = -sinP b + e ∧ -(5 * one) ≤ 1073741824 * e ∧ 1073741824 * e ≤ 5 * one := by
  have k := off_small
  simp only [Bool.and_eq_true, decide_eq_true_eq] at k
  have v := ev_bd offC h1 h2
  refine ⟨ev offC b, ?_, by omega, by omega⟩
  unfold offC sinP cosP
  rw [ev_padd, ev_psh]; omega
/-- Sine is turned with its angle, cosine stays. -/
theorem cos_even (a : Int) : cosP (-a) = cosP a := by
  unfold cosP
  have e : cosL = [cosL.getD 0 0, 0, cosL.getD 2 0, 0, cosL.getD 4 0, 0, cosL.getD 6 0, 0, cosL.getD 8 0, 0, cosL.getD 10 0, 0, cosL.getD 12 0, 0, cosL.getD 14 0, 0, cosL.getD 16 0, 0, cosL.getD 18 0, 0, cosL.getD 20 0] := rfl
  rw [e]
  generalize cosL.getD 0 0 = c0
  generalize cosL.getD 2 0 = c2
  generalize cosL.getD 4 0 = c4
  generalize cosL.getD 6 0 = c6
  generalize cosL.getD 8 0 = c8
  generalize cosL.getD 10 0 = c10
  generalize cosL.getD 12 0 = c12
  generalize cosL.getD 14 0 = c14
  generalize cosL.getD 16 0 = c16
  generalize cosL.getD 18 0 = c18
  generalize cosL.getD 20 0 = c20
  simp only [ev]
  have t : ∀ z : Int, -a * (0 + -a * z) = a * (0 + a * z) := fun z => by grind
  simp only [t, Int.mul_zero]
theorem sin_odd (a : Int) : sinP (-a) = -sinP a := by
  unfold sinP
  have e : sinL = [0, sinL.getD 1 0, 0, sinL.getD 3 0, 0, sinL.getD 5 0, 0, sinL.getD 7 0, 0, sinL.getD 9 0, 0, sinL.getD 11 0, 0, sinL.getD 13 0, 0, sinL.getD 15 0, 0, sinL.getD 17 0, 0, sinL.getD 19 0] := rfl
  rw [e]
  generalize sinL.getD 1 0 = c1
  generalize sinL.getD 3 0 = c3
  generalize sinL.getD 5 0 = c5
  generalize sinL.getD 7 0 = c7
  generalize sinL.getD 9 0 = c9
  generalize sinL.getD 11 0 = c11
  generalize sinL.getD 13 0 = c13
  generalize sinL.getD 15 0 = c15
  generalize sinL.getD 17 0 = c17
  generalize sinL.getD 19 0 = c19
  simp only [ev]
  have t : ∀ z : Int, -a * (0 + -a * z) = a * (0 + a * z) := fun z => by grind
  simp only [t, Int.mul_zero]
  generalize c1 + _ = z
  grind

/-- In the first octant what is turned away grows with the angle. -/
theorem rise_s : pover (padd (psh sinL 1) (psc (-1) sinL)) (-2097152) 2097152 129 (fun lo _ => decide (53 * one ≤ 100 * 536870912 * lo)) = true := by decide +kernel
theorem rise_c : pover (padd (psh cosL 1) (psc (-1) cosL)) (-2097152) 2097152 129 (fun _ hi => decide (100 * 536870912 * hi ≤ 2 * one)) = true := by decide +kernel
theorem rise_1 {g l t : Int} (l0 : 0 ≤ l) (lg : l ≤ g) (t1 : -2048 ≤ t) (t2 : t ≤ 536870912) :
    g * one ≤ 1073741824 * ((g * sinP (t + 1) - l * cosP (t + 1)) - (g * sinP t - l * cosP t)) := by
  obtain ⟨lo, hi, k, l1, l2⟩ := pover_at rise_s (by decide) (a := t) (by omega) (by omega) (by decide)
  obtain ⟨lo', hi', k', l1', l2'⟩ := pover_at rise_c (by decide) (a := t) (by omega) (by omega) (by decide)
  simp only [decide_eq_true_eq] at k k'
  rw [ev_padd, ev_psc, ev_psh] at l1 l2 l1' l2'
  have ds : 53 * one ≤ 100 * 536870912 * (sinP (t + 1) - sinP t) := by unfold sinP; omega
  have dc : 100 * 536870912 * (cosP (t + 1) - cosP t) ≤ 2 * one := by unfold cosP; omega
  have o := one_pos
  have m1 := Int.mul_le_mul_of_nonneg_left ds (show 0 ≤ g by omega)
  have m2 := Int.mul_le_mul_of_nonneg_left dc l0
  have m3 := Int.mul_le_mul_of_nonneg_right lg (show 0 ≤ one by omega)
  have e1 : g * (100 * 536870912 * (sinP (t + 1) - sinP t)) = 53687091200 * (g * sinP (t + 1) - g * sinP t) := by grind
  have e2 : l * (100 * 536870912 * (cosP (t + 1) - cosP t)) = 53687091200 * (l * cosP (t + 1) - l * cosP t) := by grind
  have e3 : g * (53 * one) = 53 * (g * one) := by grind
  have e4 : l * (2 * one) = 2 * (l * one) := by grind
  have g0 : 0 ≤ g * one := Int.mul_nonneg (by omega) (by omega)
  omega
theorem rise {g l : Int} (l0 : 0 ≤ l) (lg : l ≤ g) (s : Int) (s1 : -2048 ≤ s) : ∀ n : Nat, s + n ≤ 536870912 + 1 →
    n * (g * one) ≤ 1073741824 * ((g * sinP (s + n) - l * cosP (s + n)) - (g * sinP s - l * cosP s)) := by
  intro n
  induction n with
  | zero => intro _; simp
  | succ n ih =>
    intro hn
    have h1 := ih (by omega)
    have h2 := rise_1 (t := s + n) l0 lg (by omega) (by omega)
    have e : s + ((n + 1 : Nat) : Int) = s + n + 1 := by omega
    have e2 : ((n + 1 : Nat) : Int) * (g * one) = n * (g * one) + g * one := by
      have : ((n + 1 : Nat) : Int) = n + 1 := by omega
      rw [this]; grind
    rw [e, e2]
    omega
/-- Two angles of one place of the first octant are near to one another. -/
theorem oct_close {g l s t A B : Int} (l0 : 0 ≤ l) (lg : l ≤ g) (g1 : 1 ≤ g) (s1 : -2048 ≤ s) (s2 : s ≤ 536870912) (t1 : -2048 ≤ t) (t2 : t ≤ 536870912)
    (fs : -(A * (g * one)) ≤ 1073741824 * (g * sinP s - l * cosP s) ∧ 1073741824 * (g * sinP s - l * cosP s) ≤ A * (g * one))
    (ft : -(B * (g * one)) ≤ 1073741824 * (g * sinP t - l * cosP t) ∧ 1073741824 * (g * sinP t - l * cosP t) ≤ B * (g * one)) : -(A + B) ≤ t - s ∧ t - s ≤ A + B := by
  have o := one_pos
  have gu : 0 < g * one := Int.mul_pos (by omega) o
  rcases (show s ≤ t ∨ t ≤ s by omega) with h | h
  · obtain ⟨n, hn⟩ : ∃ n : Nat, t = s + n := ⟨(t - s).toNat, by omega⟩
    have r := rise l0 lg s s1 n (by omega)
    rw [← hn] at r
    have b : g * one * n ≤ g * one * (A + B) := by
      have e1 : g * one * (n : Int) = n * (g * one) := by grind
      have e2 : g * one * (A + B) = A * (g * one) + B * (g * one) := by grind
      rw [e1, e2]; omega
    have := cancel_mul gu b
    omega
  · obtain ⟨n, hn⟩ : ∃ n : Nat, s = t + n := ⟨(s - t).toNat, by omega⟩
    have r := rise l0 lg t t1 n (by omega)
    rw [← hn] at r
    have b : g * one * n ≤ g * one * (A + B) := by
      have e1 : g * one * (n : Int) = n * (g * one) := by grind
      have e2 : g * one * (A + B) = A * (g * one) + B * (g * one) := by grind
      rw [e1, e2]; omega
    have := cancel_mul gu b
    omega

theorem cos_half : pover cosL (-843314865) 8388608 101 (fun lo hi => decide (-one ≤ 10 * lo) && decide (10 * hi ≤ 11 * one)) = true := by decide +kernel
theorem sin_half : pover sinL (-843314865) 8388608 101 (fun lo hi => decide (-(11 * one) ≤ 10 * lo) && decide (10 * hi ≤ 11 * one)) = true := by decide +kernel
theorem tail_half : pover sinL.tail (-843314865) 8388608 51 (fun lo _ => decide (0 ≤ lo)) = true := by decide +kernel

/-- The amount of a number, and whether it is below 0. -/
theorem abs_cases {x : Int} (h1 : -2147483647 ≤ x) (h2 : x ≤ 2147483647) : (0 ≤ x ∧ wAbs x = x) ∨ (x < 0 ∧ wAbs x = -x) := by
  rcases (show 0 ≤ x ∨ x < 0 by omega) with h | h
  · exact Or.inl ⟨h, abs_pos h h2⟩
  · exact Or.inr ⟨h, abs_neg h (by omega)⟩

/-- A place above, or on, the axis: its angle is the one by which it was turned, but for little. -/
theorem back_pos {x y al : Int} (y0 : 0 ≤ y) (xb : -1073742336 ≤ x ∧ x ≤ 1073742336) (yb : y ≤ 1073742336) (n0 : 1152920954851033088 ≤ x * x + y * y) (a1 : -843314861 ≤ al) (a2 : al ≤ 843314861)
    (w1 : -(477 * one) ≤ x * sinP al - y * cosP al) (w2 : x * sinP al - y * cosP al ≤ 477 * one) (pp : 652032000 * one ≤ x * cosP al + y * sinP al) :
    -5980 ≤ wAng y x - al ∧ wAng y x - al ≤ 5980 ∧ (x = 0 → -2510 ≤ wAng y x - 843314857 ∧ wAng y x - 843314857 ≤ 2510 ∧ -990 ≤ al - 843314857 ∧ al - 843314857 ≤ 990) := by
  have o := one_pos
  have hfar : far = 935919873 := rfl
  obtain ⟨lo, hi, t, l1, l2⟩ := pover_at cos_half (by decide) (a := al) (by omega) (by omega) (by decide)
  obtain ⟨lo', hi', t', l1', l2'⟩ := pover_at sin_half (by decide) (a := al) (by omega) (by omega) (by decide)
  simp only [Bool.and_eq_true, decide_eq_true_eq] at t t'
  have c1 : -one ≤ 10 * cosP al := by unfold cosP; omega
  have c2 : 10 * cosP al ≤ 11 * one := by unfold cosP; omega
  have s1 : -(11 * one) ≤ 10 * sinP al := by unfold sinP; omega
  have s2 : 10 * sinP al ≤ 11 * one := by unfold sinP; omega
  clear l1 l2 l1' l2' t t'
  have hay : wAbs y = y := abs_pos y0 (by omega)
  obtain ⟨ax, hax, hcase⟩ : ∃ ax, wAbs x = ax ∧ ((0 ≤ x ∧ ax = x) ∨ (x < 0 ∧ ax = -x)) := by
    rcases abs_cases (x := x) (by omega) (by omega) with ⟨h, e⟩ | ⟨h, e⟩
    · exact ⟨x, e, Or.inl ⟨h, rfl⟩⟩
    · exact ⟨-x, e, Or.inr ⟨h, rfl⟩⟩
  have xx : x * x = ax * ax := by
    rcases hcase with ⟨_, rfl⟩ | ⟨_, rfl⟩
    · rfl
    · grind
  rw [xx] at n0
  have ax0 : 0 ≤ ax := by rcases hcase with ⟨h, rfl⟩ | ⟨h, rfl⟩ <;> omega
  have axb : ax ≤ 1073742336 := by rcases hcase with ⟨h, rfl⟩ | ⟨h, rfl⟩ <;> omega
  by_cases hc : ax < y
  · -- beyond half a right one
    have g29 : 536870912 ≤ y := by
      apply Int.not_lt.1; intro hlt
      have p1 := Int.mul_le_mul (show ax ≤ 536870912 by omega) (show ax ≤ 536870912 by omega) ax0 (by omega)
      have p2 := Int.mul_le_mul (show y ≤ 536870912 by omega) (show y ≤ 536870912 by omega) y0 (by omega)
      omega
    have hpos : 0 < al := by
      apply Int.not_le.1; intro hle
      obtain ⟨lo, hi, t, l1, _⟩ := pover_at tail_half (by decide) (a := al) (by omega) (by omega) (by decide)
      simp only [decide_eq_true_eq] at t
      have sn : sinP al ≤ 0 := by
        rw [sin_tail]
        have := Int.mul_nonneg (show 0 ≤ -al by omega) (show 0 ≤ ev sinL.tail al by omega)
        have e : -al * ev sinL.tail al = -(al * ev sinL.tail al) := by grind
        omega
      have yS : y * sinP al ≤ 0 := by
        have := Int.mul_nonneg y0 (show 0 ≤ -sinP al by omega)
        have e : y * -sinP al = -(y * sinP al) := by grind
        omega
      rcases hcase with ⟨h, rfl⟩ | ⟨h, rfl⟩
      · have xS : ax * sinP al ≤ 0 := by
          have := Int.mul_nonneg h (show 0 ≤ -sinP al by omega)
          have e : ax * -sinP al = -(ax * sinP al) := by grind
          omega
        have cc : 0 ≤ cosP al := by
          apply Int.not_lt.1; intro hlt
          have := Int.mul_nonneg h (show 0 ≤ -cosP al by omega)
          have e : ax * -cosP al = -(ax * cosP al) := by grind
          omega
        have yc := Int.mul_le_mul_of_nonneg_right (show ax ≤ y by omega) cc
        omega
      · have := Int.mul_le_mul_of_nonneg_left c1 ax0
        have e1 : -x * -one = x * one := by grind
        have e2 : -x * (10 * cosP al) = -(10 * (x * cosP al)) := by grind
        have := Int.mul_le_mul_of_nonneg_right (show -x ≤ 1073742336 by omega) (show 0 ≤ one by omega)
        have e3 : -x * one = -(x * one) := by grind
        omega
    obtain ⟨b, hb⟩ : ∃ b, b = al - 843314857 := ⟨_, rfl⟩
    have eal : al = b + 843314857 := by omega
    obtain ⟨e1, hs, e1a, e1b⟩ := sin_right (b := b) (by omega) (by omega)
    obtain ⟨e2, hcs, e2a, e2b⟩ := cos_right (b := b) (by omega) (by omega)
    rw [← eal] at hs hcs
    rw [hs, hcs] at w1 w2
    have q1 := abs_mul (a := x) (b := 1073741824 * e1) (A := 1073742336) (B := 5 * one) xb.1 xb.2 e1a e1b
    have q2 := abs_mul (a := y) (b := 1073741824 * e2) (A := 1073742336) (B := 5 * one) (by omega) yb e2a e2b
    have f1 : x * (1073741824 * e1) = 1073741824 * (x * e1) := by grind
    have f2 : y * (1073741824 * e2) = 1073741824 * (y * e2) := by grind
    have f3 : x * (cosP b + e1) - y * (-sinP b + e2) = x * cosP b + y * sinP b + x * e1 - y * e2 := by grind
    rw [f3] at w1 w2
    have W : -(489 * one) ≤ x * cosP b + y * sinP b ∧ x * cosP b + y * sinP b ≤ 489 * one := by omega
    -- the angle of the octant, and the one that was turned
    obtain ⟨th, hth, F⟩ : ∃ th, ((0 ≤ x ∧ th = -b) ∨ (x < 0 ∧ th = b)) ∧ (-(489 * one) ≤ y * sinP th - ax * cosP th ∧ y * sinP th - ax * cosP th ≤ 489 * one) := by
      rcases hcase with ⟨h, rfl⟩ | ⟨h, rfl⟩
      · refine ⟨-b, Or.inl ⟨h, rfl⟩, ?_⟩
        rw [sin_odd, cos_even]
        have e : y * -sinP b - ax * cosP b = -(ax * cosP b + y * sinP b) := by grind
        rw [e]; omega
      · refine ⟨b, Or.inr ⟨h, rfl⟩, ?_⟩
        have e : y * sinP b - -x * cosP b = x * cosP b + y * sinP b := by grind
        rw [e]; omega
    have yu : 536870912 * one ≤ y * one := Int.mul_le_mul_of_nonneg_right g29 (by omega)
    have axu : 0 ≤ ax * one := Int.mul_nonneg ax0 (by omega)
    have eV : (y + ax) * one = y * one + ax * one := by grind
    obtain ⟨r1, r2⟩ := oct_rng (X := y) (Y := ax) (a := th) ax0 (by omega) (by omega) (by rcases hth with ⟨_, rfl⟩ | ⟨_, rfl⟩ <;> omega) (by rcases hth with ⟨_, rfl⟩ | ⟨_, rfl⟩ <;> omega) (by rw [eV]; omega) (by rw [eV]; omega)
    obtain ⟨z1, z2, z3, z4⟩ := aOct_near (l := ax) (g := y) ax0 (by omega) (by omega) (by omega)
    have axy : ax * one ≤ y * one := Int.mul_le_mul_of_nonneg_right (by omega) (by omega)
    rw [eV] at z3 z4
    have cl := oct_close (g := y) (l := ax) (s := th) (t := aOct ax y) (A := 978) (B := 5000) ax0 (by omega) (by omega) (by omega) r2 (by omega) z2 (by omega) (by omega)
    have hA := ang_any (y := y) (x := x) hax hay (if_pos hc) (if_pos hc) z1 z2
    rw [if_neg (show ¬ y < 0 by omega), if_pos hc] at hA
    rw [hA]
    refine ⟨?_, ?_, ?_⟩
    · rcases hth with ⟨h, rfl⟩ | ⟨h, rfl⟩
      · rw [if_neg (by omega)]; omega
      · rw [if_pos h]; omega
    · rcases hth with ⟨h, rfl⟩ | ⟨h, rfl⟩
      · rw [if_neg (by omega)]; omega
      · rw [if_pos h]; omega
    · intro hx0
      have ha0 : ax = 0 := by rcases hcase with ⟨h, rfl⟩ | ⟨h, rfl⟩ <;> omega
      have s0 : sinP 0 = 0 := by decide +kernel
      rw [ha0] at z3 z4 F
      have c3 := oct_close (g := y) (l := 0) (s := 0) (t := aOct 0 y) (A := 0) (B := 2500) (by omega) y0 (by omega) (by omega) (by omega) (by rw [ha0] at z1; omega) (by rw [ha0] at z2; exact z2) (by rw [s0]; omega) (by rw [ha0] at *; omega)
      have c4 := oct_close (g := y) (l := 0) (s := 0) (t := th) (A := 0) (B := 980) (by omega) y0 (by omega) (by omega) (by omega) (by omega) r2 (by rw [s0]; omega) (by omega)
      rw [if_neg (by omega), ha0]
      rcases hth with ⟨h, rfl⟩ | ⟨h, rfl⟩ <;> omega
  · -- up to half a right one
    have g29 : 536870912 ≤ ax := by
      apply Int.not_lt.1; intro hlt
      have p1 := Int.mul_le_mul (show ax ≤ 536870912 by omega) (show ax ≤ 536870912 by omega) ax0 (by omega)
      have p2 := Int.mul_le_mul (show y ≤ 536870912 by omega) (show y ≤ 536870912 by omega) y0 (by omega)
      omega
    rcases hcase with ⟨h, rfl⟩ | ⟨h, rfl⟩
    · have xu : 536870912 * one ≤ ax * one := Int.mul_le_mul_of_nonneg_right g29 (by omega)
      have yu : 0 ≤ y * one := Int.mul_nonneg y0 (by omega)
      have eV : (ax + y) * one = ax * one + y * one := by grind
      obtain ⟨r1, r2⟩ := oct_rng (X := ax) (Y := y) (a := al) y0 (by omega) (by omega) (by omega) (by omega) (by rw [eV]; omega) (by rw [eV]; omega)
      obtain ⟨z1, z2, z3, z4⟩ := aOct_near (l := y) (g := ax) y0 (by omega) (by omega) (by omega)
      have yxu : y * one ≤ ax * one := Int.mul_le_mul_of_nonneg_right (by omega) (by omega)
      rw [eV] at z3 z4
      have cl := oct_close (g := ax) (l := y) (s := al) (t := aOct y ax) (A := 978) (B := 5000) y0 (by omega) (by omega) (by omega) r2 (by omega) z2 (by omega) (by omega)
      have hA := ang_any (y := y) (x := ax) hax hay (if_neg hc) (if_neg hc) z1 z2
      rw [if_neg (show ¬ y < 0 by omega), if_neg hc, if_neg (show ¬ ax < 0 by omega)] at hA
      rw [hA]
      refine ⟨by omega, by omega, by omega⟩
    · exfalso
      -- behind the axis: not by an angle up to a right one
      have m1 := Int.mul_le_mul_of_nonneg_left c1 (show 0 ≤ -x by omega)
      have e1 : -x * -one = x * one := by grind
      have e2 : -x * (10 * cosP al) = -(10 * (x * cosP al)) := by grind
      have m2 := Int.mul_le_mul_of_nonneg_right (show -x ≤ 1073742336 by omega) (show 0 ≤ one by omega)
      have e3 : -x * one = -(x * one) := by grind
      -- y times the sine is great, so the sine is above 0, so is x times the sine below
      have yS : 544000000 * one ≤ y * sinP al := by omega
      have sp : 0 < sinP al := by
        apply Int.not_le.1; intro hle
        have := Int.mul_nonneg y0 (show 0 ≤ -sinP al by omega)
        have e : y * -sinP al = -(y * sinP al) := by grind
        omega
      have m3 := Int.mul_le_mul_of_nonneg_right (show y ≤ -x by omega) (show 0 ≤ sinP al by omega)
      have e4 : -x * sinP al = -(x * sinP al) := by grind
      have m4 := Int.mul_le_mul_of_nonneg_left c1 y0
      have e5 : y * -one = -(y * one) := by grind
      have e6 : y * (10 * cosP al) = 10 * (y * cosP al) := by grind
      have m5 := Int.mul_le_mul_of_nonneg_right yb (show 0 ≤ one by omega)
      omega

theorem oct_of {y x : Int} (x1 : -2147483647 ≤ x) (x2 : x ≤ 2147483647) (y1 : -2147483647 ≤ y) (y2 : y ≤ 2147483647) (h : x ≠ 0 ∨ y ≠ 0) :
    ∃ ax ay g l, wAbs x = ax ∧ wAbs y = ay ∧ (if ax < ay then ay else ax) = g ∧ (if ax < ay then ax else ay) = l ∧ -2048 < aOct l g ∧ aOct l g ≤ 536870912 ∧ ((0 ≤ x ∧ ax = x) ∨ (x < 0 ∧ ax = -x)) ∧ ((0 ≤ y ∧ ay = y) ∨ (y < 0 ∧ ay = -y)) := by
  obtain ⟨ax, hx, cx⟩ : ∃ ax, wAbs x = ax ∧ ((0 ≤ x ∧ ax = x) ∨ (x < 0 ∧ ax = -x)) := by
    rcases abs_cases x1 x2 with ⟨h, e⟩ | ⟨h, e⟩
    · exact ⟨x, e, Or.inl ⟨h, rfl⟩⟩
    · exact ⟨-x, e, Or.inr ⟨h, rfl⟩⟩
  obtain ⟨ay, hy, cy⟩ : ∃ ay, wAbs y = ay ∧ ((0 ≤ y ∧ ay = y) ∨ (y < 0 ∧ ay = -y)) := by
    rcases abs_cases y1 y2 with ⟨h, e⟩ | ⟨h, e⟩
    · exact ⟨y, e, Or.inl ⟨h, rfl⟩⟩
    · exact ⟨-y, e, Or.inr ⟨h, rfl⟩⟩
  by_cases hc : ax < ay
  · obtain ⟨z1, z2, _⟩ := aOct_near (l := ax) (g := ay) (by omega) (by omega) (by omega) (by omega)
    exact ⟨ax, ay, ay, ax, hx, hy, if_pos hc, if_pos hc, z1, z2, cx, cy⟩
  · obtain ⟨z1, z2, _⟩ := aOct_near (l := ay) (g := ax) (by omega) (by omega) (by omega) (by omega)
    exact ⟨ax, ay, ax, ay, hx, hy, if_neg hc, if_neg hc, z1, z2, cx, cy⟩
theorem ang_odd {y x : Int} (x1 : -2147483647 ≤ x) (x2 : x ≤ 2147483647) (y1 : -2147483647 ≤ y) (y2 : y < 0) : wAng y x = -wAng (-y) x := by
  obtain ⟨ax, ay, g, l, hx, hy, hg, hl, z1, z2, cx, cy⟩ := oct_of (y := y) x1 x2 y1 (by omega) (Or.inr (by omega))
  have hy' : wAbs (-y) = ay := by rw [abs_pos (by omega) (by omega)]; omega
  rw [ang_any hx hy hg hl z1 z2, ang_any hx hy' hg hl z1 z2, if_pos y2, if_neg (show ¬ -y < 0 by omega)]
theorem ang_mirror {y x : Int} (x1 : -2147483647 ≤ x) (x2 : x ≤ 2147483647) (y1 : -2147483647 ≤ y) (y2 : y ≤ 2147483647) (h0 : x ≠ 0) : wAng y (-x) = (if y < 0 then -1686629713 else 1686629713) - wAng y x := by
  obtain ⟨ax, ay, g, l, hx, hy, hg, hl, z1, z2, cx, cy⟩ := oct_of (y := y) x1 x2 y1 y2 (Or.inl h0)
  have hx' : wAbs (-x) = ax := by
    rcases cx with ⟨h, rfl⟩ | ⟨h, rfl⟩
    · rw [abs_neg (by omega) (by omega)]; omega
    · rw [abs_pos (by omega) (by omega)]
  rw [ang_any hx hy hg hl z1 z2, ang_any hx' hy hg hl z1 z2]
  generalize (if ax < ay then 843314857 - aOct l g else aOct l g) = v
  by_cases hy0 : y < 0
  · rw [if_pos hy0, if_pos hy0, if_pos hy0]
    by_cases hx0 : x < 0
    · rw [if_pos hx0, if_neg (show ¬ -x < 0 by omega)]; omega
    · rw [if_neg hx0, if_pos (show -x < 0 by omega)]; omega
  · rw [if_neg hy0, if_neg hy0, if_neg hy0]
    by_cases hx0 : x < 0
    · rw [if_pos hx0, if_neg (show ¬ -x < 0 by omega)]; omega
    · rw [if_neg hx0, if_pos (show -x < 0 by omega)]
/-- Of any wave up to a right angle: what its angle is, and where it stands if it has no cosine. -/
theorem wave_back {b : Int} (b1 : -843314857 ≤ b) (b2 : b ≤ 843314857) : ∃ x y, (uN b 28).1 = x ∧ (uN b 28).2.1 = y ∧ (-1073742336 ≤ x ∧ x ≤ 1073742336) ∧ (-1073742336 ≤ y ∧ y ≤ 1073742336)
    ∧ (-549755813888 ≤ x * x + y * y - 1152921504606846976 ∧ x * x + y * y - 1152921504606846976 ≤ 549755813888) ∧ -5984 ≤ wAng y x - b ∧ wAng y x - b ≤ 5984
    ∧ (x = 0 → (0 ≤ y ∧ -2510 ≤ wAng y x - 843314857 ∧ wAng y x - 843314857 ≤ 2510 ∧ -994 ≤ b - 843314857 ∧ b - 843314857 ≤ 994) ∨ (y < 0 ∧ -2510 ≤ wAng y x + 843314857 ∧ wAng y x + 843314857 ≤ 2510 ∧ -994 ≤ b + 843314857 ∧ b + 843314857 ≤ 994)) := by
  obtain ⟨x, y, al, hx, hy, ⟨e1, e2⟩, ⟨w1, w2⟩, pp, n0, n1⟩ := wave_near b1 b2
  have x0 := sq_nonneg x
  have y0 := sq_nonneg y
  have xb := sq_bd (x := x) (B := 1073742336) (by decide) (by omega)
  have yb := sq_bd (x := y) (B := 1073742336) (by decide) (by omega)
  refine ⟨x, y, hx, hy, xb, yb, by omega, ?_⟩
  by_cases h : 0 ≤ y
  · obtain ⟨r1, r2, r3⟩ := back_pos h xb yb.2 n0 (by omega) (by omega) w1 w2 pp
    refine ⟨by omega, by omega, fun hx0 => Or.inl ?_⟩
    have := r3 hx0
    omega
  · have s := sin_odd al
    have c := cos_even al
    have f1 : x * sinP (-al) - -y * cosP (-al) = -(x * sinP al - y * cosP al) := by rw [s, c]; grind
    have f2 : x * cosP (-al) + -y * sinP (-al) = x * cosP al + y * sinP al := by rw [s, c]; grind
    have f3 : x * x + -y * -y = x * x + y * y := by grind
    obtain ⟨r1, r2, r3⟩ := back_pos (y := -y) (x := x) (al := -al) (by omega) xb (by omega) (by rw [f3]; exact n0) (by omega) (by omega) (by rw [f1]; omega) (by rw [f1]; omega) (by rw [f2]; exact pp)
    have o := ang_odd (y := y) (x := x) (by omega) (by omega) (by omega) (by omega)
    rw [o]
    refine ⟨by omega, by omega, fun hx0 => Or.inr ?_⟩
    have := r3 hx0
    omega
/-- P9.7: on the circle, and back. -/
theorem round_true {a : Int} (a1 : -1686629713 ≤ a) (a2 : a ≤ 1686629713) :
    (-1099511627776 < wWvY a * wWvY a + wWvX a * wWvX a - 1152921504606846976 ∧ wWvY a * wWvY a + wWvX a * wWvX a - 1152921504606846976 < 1099511627776)
    ∧ (-1073742336 ≤ wWvX a ∧ wWvX a ≤ 1073742336) ∧ (-1073742336 ≤ wWvY a ∧ wWvY a ≤ 1073742336)
    ∧ ((-8192 < wAng (wWvY a) (wWvX a) - a ∧ wAng (wWvY a) (wWvX a) - a < 8192) ∨ (-8192 < wAng (wWvY a) (wWvX a) - a - 3373259426 ∧ wAng (wWvY a) (wWvX a) - a - 3373259426 < 8192)
      ∨ (-8192 < wAng (wWvY a) (wWvX a) - a + 3373259426 ∧ wAng (wWvY a) (wWvX a) - a + 3373259426 < 8192)) := by
  have ha : (0 ≤ a ∧ wAbs a = a) ∨ (a < 0 ∧ wAbs a = -a) := abs_cases (by omega) (by omega)
  by_cases hf : 843314857 < wAbs a
  · obtain ⟨b, hb, hbc, b1, b2⟩ : ∃ b, wWvB a = b ∧ ((0 ≤ a ∧ b = 1686629713 - a) ∨ (a < 0 ∧ b = -1686629713 - a)) ∧ -843314857 ≤ b ∧ b ≤ 843314857 := by
      unfold wWvB
      rw [if_pos hf]
      rcases ha with ⟨h, e⟩ | ⟨h, e⟩
      · refine ⟨1686629713 - a, ?_, Or.inl ⟨h, rfl⟩, by omega, by omega⟩
        rw [if_neg (by omega), IntWalk.wrap32_in _ (by omega)]
      · refine ⟨-1686629713 - a, ?_, Or.inr ⟨h, rfl⟩, by omega, by omega⟩
        rw [if_pos h, IntWalk.wrap32_in _ (by omega)]; omega
    obtain ⟨x, y, hx, hy, xb, yb, nn, r1, r2, r3⟩ := wave_back b1 b2
    have eY : wWvY a = y := by unfold wWvY; rw [hb]; exact hy
    have eX : wWvX a = -x := by unfold wWvX; rw [if_pos hf, hb, hx, IntWalk.wrap32_in _ (by omega)]; omega
    rw [eY, eX]
    have e : -x * -x = x * x := by grind
    refine ⟨by rw [e]; omega, by omega, yb, ?_⟩
    by_cases hx0 : x = 0
    · have r4 := r3 hx0
      have ex : -x = x := by omega
      rw [ex]
      rcases r4 with ⟨h, q1, q2, q3, q4⟩ | ⟨h, q1, q2, q3, q4⟩
      · rcases hbc with ⟨_, hh⟩ | ⟨_, hh⟩
        · left; omega
        · right; left; omega
      · rcases hbc with ⟨_, hh⟩ | ⟨_, hh⟩
        · right; right; omega
        · left; omega
    · have m := ang_mirror (y := y) (x := x) (by omega) (by omega) (by omega) (by omega) hx0
      rw [m]
      by_cases hy0 : y < 0
      · rw [if_pos hy0]
        rcases hbc with ⟨_, hh⟩ | ⟨_, hh⟩
        · right; right; omega
        · left; omega
      · rw [if_neg hy0]
        rcases hbc with ⟨_, hh⟩ | ⟨_, hh⟩
        · left; omega
        · right; left; omega
  · have hb : wWvB a = a := by unfold wWvB; rw [if_neg hf]
    obtain ⟨x, y, hx, hy, xb, yb, nn, r1, r2, r3⟩ := wave_back (b := a) (by omega) (by omega)
    have eY : wWvY a = y := by unfold wWvY; rw [hb]; exact hy
    have eX : wWvX a = x := by unfold wWvX; rw [if_neg hf, hb, hx]
    rw [eY, eX]
    exact ⟨by omega, xb, yb, Or.inl (by omega)⟩

end Go.Proofs.Ytmlofggohkcjnaa
