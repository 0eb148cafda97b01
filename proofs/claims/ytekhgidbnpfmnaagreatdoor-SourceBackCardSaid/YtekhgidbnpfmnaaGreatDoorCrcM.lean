/- CRC-16: words of 16 bits, whole numbers, texts' bits. Nothing of any program. -/
import Derived.WalkKit
import Derived.PlainAid
import Derived.Test.YtekhgidbnpfmnaaGreatDoorMem
namespace Go.Proofs.YtekhgidbnpfmnaaGreatDoor
open Go.RowKit

section
/-- A bit's step: doubled, and xored with 0x1021 where the highest bit was 1. -/
def cbs (x : BitVec 16) : BitVec 16 := (x <<< 1) ^^^ (if x.msb then 4129#16 else 0#16)
/-- A bit of the text comes in at the top. -/
def cu (x : BitVec 16) (b : Bool) : BitVec 16 := cbs (x ^^^ (if b then 32768#16 else 0#16))
def cpow : Nat → BitVec 16 → BitVec 16
  | 0, x => x
  | n + 1, x => cpow n (cbs x)
/-- A byte's step. -/
def ct (c : BitVec 16) (b : BitVec 8) : BitVec 16 := cpow 8 (c ^^^ (b.setWidth 16 <<< 8))
def cOf (c : BitVec 16) (l : List (BitVec 8)) : BitVec 16 := l.foldl ct c
/-- A byte's bits, the highest first. -/
def cbits (b : BitVec 8) : List Bool := [b.getLsbD 7, b.getLsbD 6, b.getLsbD 5, b.getLsbD 4, b.getLsbD 3, b.getLsbD 2, b.getLsbD 1, b.getLsbD 0]

theorem cbs_xor (x y : BitVec 16) : cbs (x ^^^ y) = cbs x ^^^ cbs y := by
  unfold cbs
  rw [BitVec.shiftLeft_xor_distrib, BitVec.msb_xor]
  apply BitVec.eq_of_getLsbD_eq
  intro i hi
  have h : ∀ a b : Bool, (if (a ^^ b) = true then 4129#16 else 0#16).getLsbD i = ((if a = true then 4129#16 else 0#16).getLsbD i ^^ (if b = true then 4129#16 else 0#16).getLsbD i) := by
    intro a b
    cases a <;> cases b <;> simp
  simp only [BitVec.getLsbD_xor, h]
  generalize (x <<< 1).getLsbD i = p
  generalize (y <<< 1).getLsbD i = q
  generalize (if x.msb = true then 4129#16 else 0#16).getLsbD i = r
  generalize (if y.msb = true then 4129#16 else 0#16).getLsbD i = t
  revert p q r t
  decide
theorem cbs_0 : cbs 0#16 = 0#16 := by decide
theorem cpow_xor : ∀ (n : Nat) (x y : BitVec 16), cpow n (x ^^^ y) = cpow n x ^^^ cpow n y
  | 0, _, _ => rfl
  | n + 1, x, y => by show cpow n (cbs (x ^^^ y)) = _; rw [cbs_xor, cpow_xor n]; rfl
theorem cpow_0 : ∀ n : Nat, cpow n 0#16 = 0#16
  | 0 => rfl
  | n + 1 => by show cpow n (cbs 0#16) = _; rw [cbs_0, cpow_0 n]
theorem cu_eq (x : BitVec 16) (b : Bool) : cu x b = cbs x ^^^ cu 0#16 b := by
  unfold cu; rw [cbs_xor, BitVec.zero_xor]
theorem fold_cu : ∀ (l : List Bool) (x : BitVec 16), l.foldl cu x = cpow l.length x ^^^ l.foldl cu 0#16
  | [], x => by simp [cpow]
  | b :: l, x => by
    show l.foldl cu (cu x b) = cpow (l.length + 1) x ^^^ l.foldl cu (cu 0#16 b)
    rw [fold_cu l (cu x b), fold_cu l (cu 0#16 b), cu_eq x b, cpow_xor]
    show cpow l.length (cbs x) ^^^ _ ^^^ _ = cpow l.length (cbs x) ^^^ (_ ^^^ _)
    rw [BitVec.xor_assoc]
theorem ct_all : ((List.range 256).all fun n => decide (ct 0#16 (BitVec.ofNat 8 n) = (cbits (BitVec.ofNat 8 n)).foldl cu 0#16)) = true := by decide +kernel
/-- A byte's step is that of its bits. -/
theorem ct_bits (c : BitVec 16) (b : BitVec 8) : ct c b = (cbits b).foldl cu c := by
  have h := List.all_eq_true.1 ct_all b.toNat (List.mem_range.2 b.isLt)
  simp only [decide_eq_true_eq, BitVec.ofNat_toNat, BitVec.setWidth_eq] at h
  rw [fold_cu, ← h]
  unfold ct
  rw [cpow_xor, BitVec.zero_xor]
  rfl
theorem ct_xor (c d : BitVec 16) (a b : BitVec 8) : ct (c ^^^ d) (a ^^^ b) = ct c a ^^^ ct d b := by
  unfold ct
  rw [← cpow_xor]
  congr 1
  have : (a ^^^ b).setWidth 16 <<< 8 = (a.setWidth 16 <<< 8) ^^^ (b.setWidth 16 <<< 8) := by rw [BitVec.setWidth_xor, BitVec.shiftLeft_xor_distrib]
  rw [this, BitVec.xor_assoc, BitVec.xor_assoc]
  congr 1
  rw [← BitVec.xor_assoc, BitVec.xor_comm d, BitVec.xor_assoc]
/-- The sum of texts of one length, xored. -/
theorem cOf_xor : ∀ (l m : List (BitVec 8)) (c d : BitVec 16), l.length = m.length → cOf (c ^^^ d) (List.zipWith (· ^^^ ·) l m) = cOf c l ^^^ cOf d m
  | [], [], _, _, _ => rfl
  | a :: l, b :: m, c, d, h => by
    show cOf (ct (c ^^^ d) (a ^^^ b)) (List.zipWith (· ^^^ ·) l m) = cOf (ct c a) l ^^^ cOf (ct d b) m
    rw [ct_xor]
    exact cOf_xor l m _ _ (by simpa using h)
theorem cOf_append (l m : List (BitVec 8)) (c : BitVec 16) : cOf c (l ++ m) = cOf (cOf c l) m := List.foldl_append ..

theorem low_all : ((List.range 256).all fun n => decide (cpow 8 (BitVec.ofNat 16 n) = BitVec.ofNat 16 n <<< 8)) = true := by decide +kernel
/-- Nothing is left behind a sum's own two bytes. -/
theorem seal_none (c : BitVec 16) : ct (ct c ((c >>> 8).setWidth 8)) (c.setWidth 8) = 0#16 := by
  have e : c ^^^ (((c >>> 8).setWidth 8).setWidth 16 <<< 8) = (c.setWidth 8).setWidth 16 := by
    apply BitVec.eq_of_getLsbD_eq
    intro i hi
    simp only [BitVec.getLsbD_xor, BitVec.getLsbD_shiftLeft, BitVec.getLsbD_setWidth, BitVec.getLsbD_ushiftRight]
    by_cases h : i < 8
    · simp [h, hi]
    · have : i - 8 < 8 := by omega
      have e2 : 8 + (i - 8) = i := by omega
      have : i - 8 < 16 := by omega
      simp [*]
  have f := List.all_eq_true.1 low_all (c.setWidth 8).toNat (List.mem_range.2 (c.setWidth 8).isLt)
  simp only [decide_eq_true_eq] at f
  have g : BitVec.ofNat 16 (c.setWidth 8).toNat = (c.setWidth 8).setWidth 16 := by
    apply BitVec.eq_of_toNat_eq
    simp
  rw [g] at f
  have h1 : ct c ((c >>> 8).setWidth 8) = (c.setWidth 8).setWidth 16 <<< 8 := by unfold ct; rw [e, f]
  rw [h1]
  unfold ct
  rw [BitVec.xor_self, cpow_0]

/-- Where nothing is left behind a text of which at most the first m bits are 1, the sum ahead was just these bits. -/
theorem cu_back : ∀ (e : List Bool) (x : BitVec 16) (m : Nat), m ≤ 16 → (∀ k, e.getD k false = true → k < m) → e.foldl cu x = 0#16 → ∀ k, k < 16 → x.getMsbD k = e.getD k false
  | [], x, m, _, _, h, k, hk => by
    have h' : x = 0#16 := h
    rw [h']; simp
  | b :: e, x, m, hm, he, h, k, hk => by
    have ih := cu_back e (cu x b) (m - 1) (by omega) (fun k hk => by
      have := he (k + 1) (by simpa using hk)
      omega) h
    have hl : (cu x b).getMsbD 15 = false := by
      rw [ih 15 (by omega)]
      cases h2 : e.getD 15 false with
      | false => rfl
      | true =>
        have := he 16 (by simpa using h2)
        omega
    have hcu : cu x b = ((x ^^^ (if b then 32768#16 else 0#16)) <<< 1) ^^^ (if (x ^^^ (if b then 32768#16 else 0#16)).msb then 4129#16 else 0#16) := rfl
    have hx : x.msb = b := by
      rw [hcu] at hl
      have : ((x ^^^ (if b then 32768#16 else 0#16)) <<< 1).getMsbD 15 = false := by simp [BitVec.getMsbD]
      rw [BitVec.getMsbD_xor, this, BitVec.msb_xor] at hl
      cases b <;> cases hxm : x.msb <;> simp [hxm] at hl ⊢
      all_goals revert hl; decide
    have hy : ∀ k, k < 15 → (cu x b).getMsbD k = x.getMsbD (k + 1) := by
      intro k hk
      have hm0 : (x ^^^ (if b then 32768#16 else 0#16)).msb = false := by
        rw [BitVec.msb_xor, hx]; cases b <;> rfl
      rw [hcu, hm0]
      simp only [Bool.false_eq_true, if_false, BitVec.xor_zero]
      rw [BitVec.getMsbD_shiftLeft, BitVec.getMsbD_xor]
      have : (if b then 32768#16 else 0#16).getMsbD (k + 1) = false := by
        have hh : ((List.range 15).all fun k => !((32768#16).getMsbD (k + 1))) = true := by decide
        have := List.all_eq_true.1 hh k (List.mem_range.2 hk)
        cases b
        · simp
        · simpa using this
      rw [Nat.add_comm, Nat.add_comm 1 k] at *
      rw [this, Bool.xor_false]
    cases k with
    | zero => simpa [BitVec.msb] using hx
    | succ k =>
      rw [← hy k (by omega), ih k (by omega)]
      simp
theorem cu_0 : cu 0#16 false = 0#16 := by decide
/-- A burst is told: what differs within 16 bits leaves something. -/
theorem burst_told : ∀ (e : List Bool) (at' : Nat), (∀ k, e.getD k false = true → at' ≤ k ∧ k < at' + 16) → (∃ k, e.getD k false = true) → e.foldl cu 0#16 ≠ 0#16
  | [], _, _, ⟨k, hk⟩ => by simp at hk
  | b :: e, 0, h, ⟨k, hk⟩ => fun h0 => by
    have := cu_back (b :: e) 0#16 16 (by omega) (fun k hk => by have := h k hk; omega) h0 k (by have := h k hk; omega)
    rw [hk] at this
    simp at this
  | b :: e, n + 1, h, ⟨k, hk⟩ => by
    have hb : b = false := by
      cases b with
      | false => rfl
      | true => have := h 0 (by simp); omega
    subst hb
    show e.foldl cu (cu 0#16 false) ≠ 0#16
    rw [cu_0]
    refine burst_told e n (fun j hj => ?_) ?_
    · have := h (j + 1) (by simpa using hj)
      omega
    · cases k with
      | zero => simp at hk
      | succ k => exact ⟨k, by simpa using hk⟩
end

section
def cw (x : Int) : BitVec 16 := BitVec.ofInt 16 x
def cb8 (x : Int) : BitVec 8 := BitVec.ofInt 8 x
def cv (b : BitVec 16) : Int := b.toNat
theorem cv_bd (b : BitVec 16) : 0 ≤ cv b ∧ cv b < 65536 := by
  have := b.isLt
  unfold cv; omega
theorem cv_cw (x : Int) : cv (cw x) = x % 65536 := by
  unfold cv cw
  rw [BitVec.toNat_ofInt]
  have := Int.emod_nonneg x (show ((2 ^ 16 : Nat) : Int) ≠ 0 by decide)
  rw [Int.toNat_of_nonneg this]
  rfl
theorem cw_cv (b : BitVec 16) : cw (cv b) = b := by
  apply BitVec.eq_of_toNat_eq
  have h := cv_cw (cv b)
  have h2 := cv_bd b
  have h3 : cv (cw (cv b)) = cv b := by rw [h]; omega
  unfold cv at h3
  exact Int.ofNat.inj h3
theorem cv_inj {a b : BitVec 16} (h : cv a = cv b) : a = b := by rw [← cw_cv a, ← cw_cv b, h]
theorem cw_mod (x : Int) : cw (x % 65536) = cw x := cv_inj (by rw [cv_cw, cv_cw]; omega)

/-- Two numbers of 16 bits, xored. -/
def wXr (a b : Int) : Int := cv (cw a ^^^ cw b)
theorem wXr_bd (a b : Int) : 0 ≤ wXr a b ∧ wXr a b < 65536 := cv_bd _
theorem wXr_nat {a b : Nat} (ha : a < 65536) (hb : b < 65536) : wXr a b = ((a ^^^ b : Nat) : Int) := by
  unfold wXr cv
  have h1 : (cw (a : Int)).toNat = a := by have := cv_cw (a : Int); unfold cv at this; omega
  have h2 : (cw (b : Int)).toNat = b := by have := cv_cw (b : Int); unfold cv at this; omega
  rw [BitVec.toNat_xor, h1, h2]
/-- The lowest k bits of two numbers, xored: what has been gathered ahead of bit k. -/
theorem xor_low (a b k : Nat) : (a ^^^ b) % 2 ^ (k + 1) = (a ^^^ b) % 2 ^ k + (if a / 2 ^ k % 2 = b / 2 ^ k % 2 then 0 else 2 ^ k) := by
  rw [Nat.mod_pow_succ]
  congr 1
  have h : (a ^^^ b) / 2 ^ k % 2 = if a / 2 ^ k % 2 = b / 2 ^ k % 2 then 0 else 1 := by
    have t := Nat.testBit_xor a b k
    rw [Nat.testBit_eq_decide_div_mod_eq, Nat.testBit_eq_decide_div_mod_eq, Nat.testBit_eq_decide_div_mod_eq] at t
    have ha := Nat.mod_two_eq_zero_or_one (a / 2 ^ k)
    have hb := Nat.mod_two_eq_zero_or_one (b / 2 ^ k)
    have hc := Nat.mod_two_eq_zero_or_one ((a ^^^ b) / 2 ^ k)
    rcases ha with ha | ha <;> rcases hb with hb | hb <;> rcases hc with hc | hc <;> simp [ha, hb, hc] at t ⊢
  rw [h]
  split <;> simp
/-- A bit's step in whole numbers. -/
theorem cbs_num (x : BitVec 16) : cv (cbs x) = if 32768 ≤ cv x then wXr (2 * cv x % 65536) 4129 else 2 * cv x % 65536 := by
  have hs : cw (2 * cv x % 65536) = x <<< 1 := by
    apply cv_inj
    rw [cv_cw]
    unfold cv
    rw [BitVec.toNat_shiftLeft, Nat.shiftLeft_eq]
    have := x.isLt
    omega
  have hm : x.msb = decide (32768 ≤ cv x) := by
    rw [BitVec.msb_eq_decide]
    unfold cv
    simp only [decide_eq_decide]
    constructor <;> (intro h; simp at h ⊢; omega)
  unfold cbs wXr
  rw [hm, hs]
  by_cases h : 32768 ≤ cv x
  · rw [if_pos h]
    simp only [h, decide_true, if_true]
    rfl
  · rw [if_neg h]
    simp only [h, decide_false, Bool.false_eq_true, if_false, BitVec.xor_zero]
    rw [← hs, cv_cw]
    omega
/-- A byte's step, and the sum of bytes. -/
def wCt (c b : Int) : Int := cv (ct (cw c) (cb8 b))
theorem wCt_bd (c b : Int) : 0 ≤ wCt c b ∧ wCt c b < 65536 := cv_bd _
/-- What stands behind k of the eight bits. -/
def ctI (c b : Int) : Nat → BitVec 16
  | 0 => cw c ^^^ cw (256 * b)
  | k + 1 => cbs (ctI c b k)
theorem cpow_succ : ∀ (n : Nat) (x : BitVec 16), cpow (n + 1) x = cbs (cpow n x)
  | 0, _ => rfl
  | n + 1, x => by show cpow (n + 1) (cbs x) = cbs (cpow n (cbs x)); exact cpow_succ n (cbs x)
theorem ctI_8 {c b : Int} (h1 : 0 ≤ b) (h2 : b ≤ 255) : cv (ctI c b 8) = wCt c b := by
  have e : ∀ k, ctI c b k = cpow k (cw c ^^^ cw (256 * b)) := by
    intro k
    induction k with
    | zero => rfl
    | succ k ih => show cbs (ctI c b k) = _; rw [ih, cpow_succ]
  rw [e]
  unfold wCt ct
  have : cw (256 * b) = (cb8 b).setWidth 16 <<< 8 := by
    apply cv_inj
    rw [cv_cw]
    unfold cv cb8
    rw [BitVec.toNat_shiftLeft, Nat.shiftLeft_eq, BitVec.toNat_setWidth, BitVec.toNat_ofInt]
    obtain ⟨n, rfl⟩ : ∃ n : Nat, b = n := ⟨b.toNat, by omega⟩
    have : (((n : Int) % ((2 ^ 8 : Nat) : Int)).toNat) = n := by
      have : (n : Int) % ((2 ^ 8 : Nat) : Int) = n := Int.emod_eq_of_lt (by omega) (by simp; omega)
      rw [this]; simp
    rw [this]
    omega
  rw [this]
def wOf (l : List Int) : Int := l.foldl wCt 65535
theorem wOf_bd (l : List Int) : 0 ≤ wOf l ∧ wOf l < 65536 := by
  unfold wOf
  rcases List.eq_nil_or_concat l with rfl | ⟨m, b, rfl⟩
  · exact ⟨by decide, by decide⟩
  · rw [List.concat_eq_append, List.foldl_append]; exact wCt_bd _ _
theorem wOf_bv (l : List Int) (c : BitVec 16) : l.foldl wCt (cv c) = cv (cOf c (l.map cb8)) := by
  induction l generalizing c with
  | nil => rfl
  | cons b l ih =>
    show l.foldl wCt (wCt (cv c) b) = cv (cOf (ct c (cb8 b)) (l.map cb8))
    rw [← ih]
    congr 1
    unfold wCt
    rw [cw_cv]
end

section
/-- What a sum is xored with when its highest four bits leave it. -/
def crcFour (k : Nat) : Int := cv (cpow 4 (BitVec.ofNat 16 (4096 * k)))
/-- Four of a step's eight doublings. -/
def wHalf (s : Int) : Int := cv (cpow 4 (cw s))
theorem wHalf_bd (s : Int) : 0 ≤ wHalf s ∧ wHalf s < 65536 := cv_bd _
theorem low4_all : ((List.range 4096).all fun n => decide (cpow 4 (BitVec.ofNat 16 n) = BitVec.ofNat 16 n <<< 4)) = true := by decide +kernel
theorem cw_nat (n : Nat) : cw (n : Int) = BitVec.ofNat 16 n := by
  apply BitVec.eq_of_toNat_eq
  unfold cw
  rw [BitVec.toNat_ofInt, BitVec.toNat_ofNat]
  simp
  omega
theorem bv_or_xor (s : Nat) (hs : s < 65536) : BitVec.ofNat 16 s = BitVec.ofNat 16 (4096 * (s / 4096)) ^^^ BitVec.ofNat 16 (s % 4096) := by
  apply BitVec.eq_of_toNat_eq
  rw [BitVec.toNat_xor, BitVec.toNat_ofNat, BitVec.toNat_ofNat, BitVec.toNat_ofNat, Nat.mod_eq_of_lt (by omega), Nat.mod_eq_of_lt (by omega), Nat.mod_eq_of_lt (by omega)]
  apply Nat.eq_of_testBit_eq
  intro i
  rw [Nat.testBit_xor]
  have h1 : (4096 * (s / 4096)).testBit i = (decide (12 ≤ i) && s.testBit i) := by
    rw [show 4096 * (s / 4096) = 2 ^ 12 * (s / 2 ^ 12) from rfl, Nat.testBit_two_pow_mul, Nat.testBit_div_two_pow]
    by_cases h : 12 ≤ i
    · simp [h, Nat.sub_add_cancel h]
    · simp [h]
  have h2 : (s % 4096).testBit i = (decide (i < 12) && s.testBit i) := by
    rw [show s % 4096 = s % 2 ^ 12 from rfl, Nat.testBit_mod_two_pow]
  rw [h1, h2]
  by_cases h : 12 ≤ i
  · simp [h, Nat.not_lt.2 h]
  · simp [h, Nat.lt_of_not_le h]
theorem half_num {s : Nat} (hs : s < 65536) : wHalf s = wXr ((16 * s % 65536 : Nat) : Int) (crcFour (s / 4096)) := by
  unfold wHalf wXr crcFour
  rw [cw_cv, cw_nat, cw_nat, bv_or_xor s hs, cpow_xor]
  have f := List.all_eq_true.1 low4_all (s % 4096) (List.mem_range.2 (Nat.mod_lt _ (by decide)))
  simp only [decide_eq_true_eq] at f
  rw [f, BitVec.xor_comm]
  congr 2
  apply BitVec.eq_of_toNat_eq
  rw [BitVec.toNat_shiftLeft, Nat.shiftLeft_eq, BitVec.toNat_ofNat, BitVec.toNat_ofNat]
  omega
/-- 'xor' of numbers of 16 bits, in a walk's words. -/
theorem bits_u16_xor {x y : Int} : bits .xor .u16 x y = wXr x y := by
  show IntKind.u16.wrap ((cw x ^^^ cw y).toNat : Int) = ((cw x ^^^ cw y).toNat : Int)
  have := (cw x ^^^ cw y).isLt
  generalize (cw x ^^^ cw y).toNat = n at *
  simp [IntKind.wrap, IntKind.bits, IntKind.signed]
  omega
theorem half_walk {s : Nat} (hs : s < 65536) : bits .xor .u16 (IntKind.u16.wrap (s * 16)) (crcFour (s / 4096)) = wHalf s := by
  rw [bits_u16_xor, half_num hs]
  congr 1
  simp [IntKind.wrap, IntKind.bits, IntKind.signed]
  omega
theorem cpow_add (m n : Nat) (x : BitVec 16) : cpow (m + n) x = cpow n (cpow m x) := by
  induction m generalizing x with
  | zero => simp [cpow]
  | succ m ih => rw [Nat.succ_add]; show cpow (m + n) (cbs x) = cpow n (cpow m (cbs x)); exact ih _
/-- A byte's step is two halves. -/
theorem ct_half {c b : Int} (h1 : 0 ≤ b) (h2 : b ≤ 255) : wHalf (wHalf (wXr (c % 65536) (256 * b))) = wCt c b := by
  rw [← ctI_8 h1 h2]
  unfold wHalf wXr
  rw [cw_cv, cw_cv, ← cpow_add, cw_mod]
  have e : ∀ k, ctI c b k = cpow k (cw c ^^^ cw (256 * b)) := by
    intro k
    induction k with
    | zero => rfl
    | succ k ih => show cbs (ctI c b k) = _; rw [ih, cpow_succ]
  rw [e]
theorem step_walk {c b : Int} : bits .xor .u16 (IntKind.u16.wrap c) (b * 256) = wXr (c % 65536) (256 * b) := by
  rw [bits_u16_xor, Int.mul_comm]
  congr 1
/-- The sum of bytes, from c on. -/
def wOn (c : Int) (l : List Int) : Int := l.foldl wCt c
theorem wOn_bd {c : Int} (h1 : 0 ≤ c) (h2 : c < 65536) (l : List Int) : 0 ≤ wOn c l ∧ wOn c l < 65536 := by
  unfold wOn
  rcases List.eq_nil_or_concat l with rfl | ⟨m, b, rfl⟩
  · exact ⟨h1, h2⟩
  · rw [List.concat_eq_append, List.foldl_append]; exact wCt_bd _ _
theorem wOn_snoc {c : Int} {l : List Int} {k : Nat} (h : k < l.length) : wOn c (l.take (k + 1)) = wCt (wOn c (l.take k)) (byAt l k) := by
  unfold wOn
  rw [take_snoc8 h, List.foldl_append]
  rfl
theorem wOn_append (c : Int) (l m : List Int) : wOn c (l ++ m) = wOn (wOn c l) m := List.foldl_append ..
theorem wOn_take {c : Int} {l : List Int} {n : Nat} (h : l.length ≤ n) : wOn c (l.take n) = wOn c l := by rw [List.take_of_length_le h]
/-- A sum's two bytes. -/
def tailOf (l : List Int) : List Int := [wOn 65535 l / 256, wOn 65535 l % 256]
theorem tailOf_bd (l : List Int) : Bd8 (tailOf l) := by
  have := wOn_bd (c := 65535) (by decide) (by decide) l
  exact Bd8.cons (by omega) (by omega) (Bd8.cons (by omega) (by omega) Bd8.nil)
/-- Sealed bytes. -/
def sealOf (l : List Int) : List Int := l ++ tailOf l
theorem sealOf_len (l : List Int) : (sealOf l).length = l.length + 2 := by simp [sealOf, tailOf]
theorem sealOf_bd {l : List Int} (h : Bd8 l) : Bd8 (sealOf l) := h.append (tailOf_bd l)
/-- Whether bytes are right: the last two are the sum of those ahead. -/
def okSum (l : List Int) : Prop := l.drop (l.length - 2) = tailOf (l.take (l.length - 2))
instance (l : List Int) : Decidable (okSum l) := by unfold okSum; exact inferInstance
/-- What is opened, and the error. -/
def openOf (l : List Int) : List Int × Int := if l.length < 2 then ([], 4) else if okSum l then (l.take (l.length - 2), 0) else ([], 7)
theorem okSum_seal {l : List Int} (h : 2 ≤ l.length) : okSum l ↔ sealOf (l.take (l.length - 2)) = l := by
  unfold okSum sealOf
  constructor
  · intro e; rw [← e, List.take_append_drop]
  · intro e
    have := congrArg (List.drop (l.length - 2)) e
    rw [List.drop_append_of_le_length (by rw [List.length_take]; omega), List.drop_take_self, List.nil_append] at this
    exact this.symm
theorem cb8_hi (x : BitVec 16) : cb8 (cv x / 256) = (x >>> 8).setWidth 8 := by
  apply BitVec.eq_of_toNat_eq
  unfold cb8 cv
  rw [BitVec.toNat_ofInt, BitVec.toNat_setWidth, BitVec.toNat_ushiftRight, Nat.shiftRight_eq_div_pow]
  have := x.isLt
  omega
theorem cb8_lo (x : BitVec 16) : cb8 (cv x % 256) = x.setWidth 8 := by
  apply BitVec.eq_of_toNat_eq
  unfold cb8 cv
  rw [BitVec.toNat_ofInt, BitVec.toNat_setWidth]
  have := x.isLt
  omega
/-- Nothing is left of sealed bytes. -/
theorem wOn_seal (l : List Int) : wOn 65535 (sealOf l) = 0 := by
  unfold sealOf tailOf
  rw [wOn_append]
  obtain ⟨x, hx⟩ : ∃ x, wOn 65535 l = cv x := ⟨_, (show wOn 65535 l = cv (cOf (cw 65535) (l.map cb8)) by
    have := wOf_bv l (cw 65535)
    rw [cv_cw] at this
    exact this)⟩
  rw [hx]
  show wCt (wCt (cv x) (cv x / 256)) (cv x % 256) = 0
  unfold wCt
  rw [cw_cv, cw_cv, cb8_hi, cb8_lo, seal_none]
  rfl
/-- Two bytes, xored. -/
def x8 (a b : Int) : Int := ((cb8 a ^^^ cb8 b).toNat : Int)
theorem x8_bd (a b : Int) : 0 ≤ x8 a b ∧ x8 a b ≤ 255 := by
  have := (cb8 a ^^^ cb8 b).isLt
  unfold x8; omega
theorem bits_u8_xor {x y : Int} : bits .xor .u8 x y = x8 x y := by
  show IntKind.u8.wrap ((cb8 x ^^^ cb8 y).toNat : Int) = ((cb8 x ^^^ cb8 y).toNat : Int)
  have := (cb8 x ^^^ cb8 y).isLt
  generalize (cb8 x ^^^ cb8 y).toNat = n at *
  simp [IntKind.wrap, IntKind.bits, IntKind.signed]
  omega
theorem cb8_nat (b : BitVec 8) : cb8 (b.toNat : Int) = b := by
  apply BitVec.eq_of_toNat_eq
  unfold cb8
  rw [BitVec.toNat_ofInt]
  have := b.isLt
  omega
theorem cb8_x8 (a b : Int) : cb8 (x8 a b) = cb8 a ^^^ cb8 b := cb8_nat _
theorem wXr_i32 {a b : Int} (a1 : 0 ≤ a) (a2 : a < 65536) (b1 : 0 ≤ b) (b2 : b < 65536) : bits .xor .i32 a b = wXr a b := by
  obtain ⟨a, rfl⟩ : ∃ n : Nat, a = n := ⟨a.toNat, by omega⟩
  obtain ⟨b, rfl⟩ : ∃ n : Nat, b = n := ⟨b.toNat, by omega⟩
  have hx : a ^^^ b < 2 ^ 16 := Nat.xor_lt_two_pow (by omega) (by omega)
  rw [wXr_nat (by omega) (by omega), bits_i32_xor, sg_us]
  have h : us (wd (a : Int) ^^^ wd (b : Int)) = ((a ^^^ b : Nat) : Int) := by
    unfold us
    rw [BitVec.toNat_xor]
    have ha := us_wd (a : Int)
    have hb := us_wd (b : Int)
    unfold us at ha hb
    have ha' : (wd (a : Int)).toNat = a := by omega
    have hb' : (wd (b : Int)).toNat = b := by omega
    rw [ha', hb']
  rw [h]
  unfold wrap32
  omega
theorem wCt_xor (s t a b : Int) : wCt (wXr s t) (x8 a b) = wXr (wCt s a) (wCt t b) := by
  unfold wCt
  rw [cb8_x8]
  unfold wXr
  rw [cw_cv, cw_cv, cw_cv, ct_xor]
/-- Three texts, xored byte by byte: the first n. -/
def join3 (l m r : List Int) (n : Nat) : List Int := (List.range n).map fun i => x8 (x8 (byAt l i) (byAt m i)) (byAt r i)
theorem join3_succ (l m r : List Int) (n : Nat) : join3 l m r (n + 1) = join3 l m r n ++ [x8 (x8 (byAt l n) (byAt m n)) (byAt r n)] := by
  unfold join3; rw [List.range_succ, List.map_append]; rfl
theorem join3_len (l m r : List Int) (n : Nat) : (join3 l m r n).length = n := by unfold join3; simp
theorem join3_bd (l m r : List Int) (n : Nat) : Bd8 (join3 l m r n) := by
  intro x hx
  unfold join3 at hx
  obtain ⟨i, _, rfl⟩ := List.mem_map.1 hx
  exact x8_bd _ _
theorem wOn_join3 (l m r : List Int) : ∀ n : Nat, n ≤ l.length → n ≤ m.length → n ≤ r.length →
    wOn 65535 (join3 l m r n) = wXr (wXr (wOn 65535 (l.take n)) (wOn 65535 (m.take n))) (wOn 65535 (r.take n))
  | 0, _, _, _ => by
    show (65535 : Int) = wXr (wXr 65535 65535) 65535
    decide
  | n + 1, h1, h2, h3 => by
    rw [wOn_snoc (by omega), wOn_snoc (by omega), wOn_snoc (by omega), ← wCt_xor, ← wCt_xor, ← wOn_join3 l m r n (by omega) (by omega) (by omega), join3_succ, wOn_append]
    rfl
end

section
/-- A text's bits, the highest of the first byte first. -/
def bl (l : List Int) : List Bool := l.flatMap fun b => cbits (cb8 b)
theorem bl_nil : bl [] = [] := rfl
theorem bl_cons (b : Int) (l : List Int) : bl (b :: l) = cbits (cb8 b) ++ bl l := rfl
theorem bl_len : ∀ l : List Int, (bl l).length = 8 * l.length
  | [] => rfl
  | b :: l => by rw [bl_cons, List.length_append, bl_len l, List.length_cons]; show 8 + _ = _; omega
/-- A byte's bit r, the highest first. -/
def bitOf (b : Int) (r : Nat) : Bool := (cb8 b).getLsbD (7 - r)
theorem cbits_get (b : Int) {r : Nat} (h : r < 8) : (cbits (cb8 b)).getD r false = bitOf b r := by
  unfold bitOf
  rcases (show r = 0 ∨ r = 1 ∨ r = 2 ∨ r = 3 ∨ r = 4 ∨ r = 5 ∨ r = 6 ∨ r = 7 by omega) with rfl | rfl | rfl | rfl | rfl | rfl | rfl | rfl <;> rfl
theorem bl_get : ∀ (l : List Int) (k : Nat), k < 8 * l.length → (bl l).getD k false = bitOf (byAt l (k / 8)) (k % 8)
  | [], k, h => by simp at h
  | b :: l, k, h => by
    rw [bl_cons]
    by_cases hk : k < 8
    · have e : (cbits (cb8 b)).length = 8 := rfl
      rw [List.getD_eq_getElem?_getD, List.getElem?_append_left (by omega), ← List.getD_eq_getElem?_getD, cbits_get b hk, Nat.div_eq_of_lt hk, Nat.mod_eq_of_lt hk]
      rfl
    · have e : (cbits (cb8 b)).length = 8 := rfl
      obtain ⟨j, rfl⟩ : ∃ j, k = j + 8 := ⟨k - 8, by omega⟩
      rw [List.getD_eq_getElem?_getD, List.getElem?_append_right (by omega), ← List.getD_eq_getElem?_getD, e, Nat.add_sub_cancel, bl_get l j (by simp at h; omega)]
      have e1 : (j + 8) / 8 = j / 8 + 1 := by omega
      have e2 : (j + 8) % 8 = j % 8 := by omega
      rw [e1, e2]
      rfl
theorem bl_none {l : List Int} {k : Nat} (h : 8 * l.length ≤ k) : (bl l).getD k false = false := by
  rw [List.getD_eq_getElem?_getD, List.getElem?_eq_none (by rw [bl_len]; exact h)]
  rfl
theorem cOf_bl : ∀ (l : List Int) (c : BitVec 16), cOf c (l.map cb8) = (bl l).foldl cu c
  | [], _ => rfl
  | b :: l, c => by
    show cOf (ct c (cb8 b)) (l.map cb8) = _
    rw [cOf_bl l, bl_cons, List.foldl_append, ct_bits]
theorem wOn_bl (l : List Int) : wOn 65535 l = cv ((bl l).foldl cu (cw 65535)) := by
  have := wOf_bv l (cw 65535)
  rw [cv_cw] at this
  show l.foldl wCt 65535 = _
  rw [← cOf_bl]
  exact this
theorem cu_xor (x y : BitVec 16) (a b : Bool) : cu (x ^^^ y) (a ^^ b) = cu x a ^^^ cu y b := by
  unfold cu
  rw [← cbs_xor]
  congr 1
  have h : (if (a ^^ b) = true then 32768#16 else 0#16) = (if a = true then 32768#16 else 0#16) ^^^ (if b = true then 32768#16 else 0#16) := by
    cases a <;> cases b <;> rfl
  rw [h, BitVec.xor_assoc, BitVec.xor_assoc]
  congr 1
  rw [← BitVec.xor_assoc, BitVec.xor_comm y, BitVec.xor_assoc]
theorem fold_xor : ∀ (a b : List Bool) (x y : BitVec 16), a.length = b.length → (List.zipWith (· ^^ ·) a b).foldl cu (x ^^^ y) = a.foldl cu x ^^^ b.foldl cu y
  | [], [], _, _, _ => rfl
  | a :: l, b :: m, x, y, h => by
    show (List.zipWith (· ^^ ·) l m).foldl cu (cu (x ^^^ y) (a ^^ b)) = l.foldl cu (cu x a) ^^^ m.foldl cu (cu y b)
    rw [cu_xor]
    exact fold_xor l m _ _ (by simpa using h)
theorem zip_get (a b : List Bool) (h : a.length = b.length) (k : Nat) : (List.zipWith (· ^^ ·) a b).getD k false = (a.getD k false ^^ b.getD k false) := by
  simp only [List.getD_eq_getElem?_getD, List.getElem?_zipWith]
  by_cases hk : k < a.length
  · rw [List.getElem?_eq_getElem hk, List.getElem?_eq_getElem (by omega)]
    rfl
  · rw [List.getElem?_eq_none (by omega), List.getElem?_eq_none (by omega)]
    rfl
/-- Of sealed bytes of which some are other ones, within 16 bits side by side, that is told. -/
theorem turned_told {l m : List Int} (hl : wOn 65535 l = 0) (hlen : m.length = l.length) (at' : Nat) (h1 : ∀ k, k < 8 * l.length → (bl l).getD k false ≠ (bl m).getD k false → at' ≤ k ∧ k < at' + 16)
    (h2 : ∃ k, k < 8 * l.length ∧ (bl l).getD k false ≠ (bl m).getD k false) : wOn 65535 m ≠ 0 := by
  intro hm
  rw [wOn_bl] at hl hm
  have e1 : (bl l).foldl cu (cw 65535) = 0#16 := cv_inj hl
  have e2 : (bl m).foldl cu (cw 65535) = 0#16 := cv_inj hm
  have hb : (bl l).length = (bl m).length := by rw [bl_len, bl_len, hlen]
  have hf := fold_xor (bl l) (bl m) (cw 65535) (cw 65535) hb
  rw [e1, e2, BitVec.xor_self, BitVec.xor_self] at hf
  refine burst_told _ at' (fun k hk => ?_) ?_ hf
  · rw [zip_get _ _ hb] at hk
    by_cases hlt : k < 8 * l.length
    · exact h1 k hlt (fun e => by rw [e, Bool.xor_self] at hk; cases hk)
    · rw [bl_none (by omega), bl_none (by omega)] at hk
      cases hk
  · obtain ⟨k, _, hk⟩ := h2
    refine ⟨k, ?_⟩
    rw [zip_get _ _ hb]
    revert hk
    cases (bl l).getD k false <;> cases (bl m).getD k false <;> simp
/-- The bit at place p is turned. -/
def turnAt (l : List Int) (p : Nat) : List Int := l.set (p / 8) (x8 (byAt l (p / 8)) (128 / 2 ^ (p % 8)))
theorem turnAt_len (l : List Int) (p : Nat) : (turnAt l p).length = l.length := by unfold turnAt; simp
theorem turnAt_bd {l : List Int} (h : Bd8 l) (p : Nat) : Bd8 (turnAt l p) := by
  intro x hx
  rcases List.mem_or_eq_of_mem_set hx with h' | rfl
  · exact h x h'
  · exact x8_bd _ _
theorem burst_mask : ((List.range 8).all fun r => (List.range 8).all fun q => (cb8 (128 / 2 ^ r)).getLsbD (7 - q) == decide (q = r)) = true := by decide
theorem turnAt_get (l : List Int) (p k : Nat) (hk : k < 8 * l.length) : (bl (turnAt l p)).getD k false = ((bl l).getD k false ^^ decide (k = p)) := by
  rw [bl_get _ k (by rw [turnAt_len]; exact hk), bl_get _ k hk]
  unfold turnAt
  by_cases h : p / 8 = k / 8
  · have e : byAt (l.set (p / 8) (x8 (byAt l (p / 8)) (128 / 2 ^ (p % 8)))) (k / 8) = x8 (byAt l (k / 8)) (128 / 2 ^ (p % 8)) := by
      rw [h]
      conv => lhs; unfold byAt
      rw [List.getD_eq_getElem?_getD, List.getElem?_set_self (by omega)]
      rfl
    rw [e]
    unfold bitOf
    rw [cb8_x8, BitVec.getLsbD_xor]
    congr 1
    have := List.all_eq_true.1 (List.all_eq_true.1 burst_mask (p % 8) (List.mem_range.2 (by omega))) (k % 8) (List.mem_range.2 (by omega))
    rw [beq_iff_eq.1 this]
    apply decide_eq_decide.2
    constructor
    · intro; omega
    · intro; omega
  · have e : byAt (l.set (p / 8) (x8 (byAt l (p / 8)) (128 / 2 ^ (p % 8)))) (k / 8) = byAt l (k / 8) := by
      unfold byAt
      rw [List.getD_eq_getElem?_getD, List.getElem?_set_ne h, ← List.getD_eq_getElem?_getD]
    rw [e, decide_eq_false (fun e => h (by rw [e])), Bool.xor_false]
/-- Bit i of sixteen, the highest first. -/
def xb (x : Int) (i : Nat) : Int := x / 2 ^ (15 - i) % 2
/-- Whether round i turns a bit: it is a 1, and its place is one of the text's. -/
def turns (x : Int) (A L i : Nat) : Prop := xb x i = 1 ∧ A + i < 8 * L
instance (x : Int) (A L i : Nat) : Decidable (turns x A L i) := by unfold turns; exact inferInstance
/-- The text behind i rounds. -/
def turnedTo (x : Int) (A : Nat) (l : List Int) : Nat → List Int
  | 0 => l
  | i + 1 => if turns x A l.length i then turnAt (turnedTo x A l i) (A + i) else turnedTo x A l i
/-- Whether any bit was turned. -/
def anyTo (x : Int) (A L : Nat) : Nat → Bool
  | 0 => false
  | i + 1 => if turns x A L i then true else anyTo x A L i
theorem turnedTo_len (x : Int) (A : Nat) (l : List Int) : ∀ i, (turnedTo x A l i).length = l.length
  | 0 => rfl
  | i + 1 => by
    unfold turnedTo
    split
    · rw [turnAt_len, turnedTo_len x A l i]
    · exact turnedTo_len x A l i
theorem turnedTo_bd (x : Int) (A : Nat) {l : List Int} (h : Bd8 l) : ∀ i, Bd8 (turnedTo x A l i)
  | 0 => h
  | i + 1 => by
    unfold turnedTo
    split
    · exact turnAt_bd (turnedTo_bd x A h i) _
    · exact turnedTo_bd x A h i
theorem turnedTo_get (x : Int) (A : Nat) (l : List Int) (k : Nat) (hk : k < 8 * l.length) : ∀ i, (bl (turnedTo x A l i)).getD k false = ((bl l).getD k false ^^ decide (A ≤ k ∧ k < A + i ∧ xb x (k - A) = 1))
  | 0 => by
    rw [decide_eq_false (by omega), Bool.xor_false]; rfl
  | i + 1 => by
    have ih := turnedTo_get x A l k hk i
    unfold turnedTo
    by_cases ht : turns x A l.length i
    · rw [if_pos ht, turnAt_get _ _ _ (by rw [turnedTo_len]; exact hk), ih]
      by_cases hki : k = A + i
      · subst hki
        have h1 := ht.1
        rw [decide_eq_false (by omega), decide_eq_true rfl, decide_eq_true (by refine ⟨by omega, by omega, ?_⟩; rw [Nat.add_sub_cancel_left]; exact h1)]
        simp
      · rw [decide_eq_false hki, Bool.xor_false]
        congr 1
        apply decide_eq_decide.2
        constructor
        · rintro ⟨a, b, c⟩; exact ⟨a, by omega, c⟩
        · rintro ⟨a, b, c⟩; exact ⟨a, by omega, c⟩
    · rw [if_neg ht, ih]
      congr 1
      apply decide_eq_decide.2
      constructor
      · rintro ⟨a, b, c⟩; exact ⟨a, by omega, c⟩
      · rintro ⟨a, b, c⟩
        refine ⟨a, ?_, c⟩
        rcases Nat.lt_or_ge k (A + i) with h | h
        · exact h
        · obtain rfl : k = A + i := by omega
          rw [Nat.add_sub_cancel_left] at c
          exact absurd ⟨c, hk⟩ ht
theorem anyTo_iff (x : Int) (A L : Nat) : ∀ i, anyTo x A L i = true ↔ ∃ j, j < i ∧ turns x A L j
  | 0 => by simp [anyTo]
  | i + 1 => by
    unfold anyTo
    by_cases ht : turns x A L i
    · rw [if_pos ht]
      exact ⟨fun _ => ⟨i, by omega, ht⟩, fun _ => rfl⟩
    · rw [if_neg ht, anyTo_iff x A L i]
      constructor
      · rintro ⟨j, hj, h⟩; exact ⟨j, by omega, h⟩
      · rintro ⟨j, hj, h⟩
        rcases Nat.lt_or_ge j i with h' | h'
        · exact ⟨j, h', h⟩
        · obtain rfl : j = i := by omega
          exact absurd h ht
theorem turnedTo_same (x : Int) (A : Nat) (l : List Int) : ∀ i, anyTo x A l.length i = false → turnedTo x A l i = l
  | 0, _ => rfl
  | i + 1, h => by
    unfold anyTo at h
    unfold turnedTo
    by_cases ht : turns x A l.length i
    · rw [if_pos ht] at h; cases h
    · rw [if_neg ht] at h ⊢
      exact turnedTo_same x A l i h
/-- What is opened of bytes whose sum is not 0, and of sealed ones. -/
theorem openOf_bad {m : List Int} (h2 : 2 ≤ m.length) (h : wOn 65535 m ≠ 0) : openOf m = ([], 7) := by
  unfold openOf
  rw [if_neg (by omega), if_neg]
  intro ho
  have := (okSum_seal h2).1 ho
  apply h
  rw [← this]
  exact wOn_seal _
theorem openOf_seal (l : List Int) : openOf (sealOf l) = (l, 0) := by
  have hl := sealOf_len l
  have ht : (sealOf l).take ((sealOf l).length - 2) = l := by
    rw [hl, Nat.add_sub_cancel]
    unfold sealOf
    exact List.take_left
  unfold openOf
  rw [if_neg (by omega), if_pos ((okSum_seal (by omega)).2 (by rw [ht])), ht]
theorem openOf_turned (l : List Int) (x : Int) (A : Nat) : openOf (turnedTo x A (sealOf l) 16) = if anyTo x A (sealOf l).length 16 = true then ([], 7) else (l, 0) := by
  by_cases h : anyTo x A (sealOf l).length 16 = true
  · rw [if_pos h]
    refine openOf_bad (by rw [turnedTo_len, sealOf_len]; omega) ?_
    refine turned_told (wOn_seal l) (turnedTo_len _ _ _ _) A (fun k hk hne => ?_) ?_
    · rw [turnedTo_get _ _ _ _ hk] at hne
      by_cases hc : A ≤ k ∧ k < A + 16 ∧ xb x (k - A) = 1
      · exact ⟨hc.1, hc.2.1⟩
      · rw [decide_eq_false hc, Bool.xor_false] at hne
        exact absurd rfl hne
    · obtain ⟨j, hj, ht⟩ := (anyTo_iff _ _ _ _).1 h
      refine ⟨A + j, ht.2, ?_⟩
      rw [turnedTo_get _ _ _ _ ht.2, decide_eq_true (by refine ⟨by omega, by omega, ?_⟩; rw [Nat.add_sub_cancel_left]; exact ht.1)]
      cases (bl (sealOf l)).getD (A + j) false <;> simp
  · rw [if_neg h, turnedTo_same _ _ _ _ (by simpa using h), openOf_seal]
theorem xb_walk {x : Int} (i : Nat) : bits .and .u16 (x / 2 ^ (15 - i)) 1 = xb x i := by
  have e := bits_and_mask .u16 1 (by decide) (x / 2 ^ (15 - i))
  have e1 : ((2 : Int) ^ 1 - 1) = 1 := by decide
  rw [e1] at e
  rw [e]
  unfold xb
  generalize x / 2 ^ (15 - i) = y
  simp [IntKind.wrap, IntKind.bits, IntKind.signed]
  omega
theorem turnedTo_yes {x : Int} {A : Nat} {l : List Int} {i : Nat} (h : turns x A l.length i) : turnedTo x A l (i + 1) = turnAt (turnedTo x A l i) (A + i) := by
  conv => lhs; unfold turnedTo
  rw [if_pos h]
theorem turnedTo_no {x : Int} {A : Nat} {l : List Int} {i : Nat} (h : ¬ turns x A l.length i) : turnedTo x A l (i + 1) = turnedTo x A l i := by
  conv => lhs; unfold turnedTo
  rw [if_neg h]
theorem anyTo_yes {x : Int} {A L i : Nat} (h : turns x A L i) : anyTo x A L (i + 1) = true := by
  unfold anyTo; rw [if_pos h]
theorem anyTo_no {x : Int} {A L i : Nat} (h : ¬ turns x A L i) : anyTo x A L (i + 1) = anyTo x A L i := by
  conv => lhs; unfold anyTo
  rw [if_neg h]
end

end Go.Proofs.YtekhgidbnpfmnaaGreatDoor
