/- Sums of bytes by the polynomial 0x1021: what a step means, that it is linear, that nothing is left of sealed bytes, that bursts are told. Nothing of any program. -/
import Derived.WalkKit
namespace Go.Proofs.YtochnjbacglhbaaDoor
open Go.RowKit

/-- A bit's step: doubled, and xored with 0x1021 where the highest bit was 1. -/
def cbs (x : BitVec 16) : BitVec 16 := (x <<< 1) ^^^ (if x.msb then 4129#16 else 0#16)
/-- A bit of the text comes in at the top. -/
def cu (x : BitVec 16) (b : Bool) : BitVec 16 := cbs (x ^^^ (if b then 32768#16 else 0#16))
def cpow : Nat → BitVec 16 → BitVec 16
  | 0, x => x
  | n + 1, x => cpow n (cbs x)
/-- A byte's step. -/
def ct (c : BitVec 16) (b : BitVec 8) : BitVec 16 := cpow 8 (c ^^^ (b.setWidth 16 <<< 8))
def cOf (c : BitVec 16) (l : List (BitVec 8)) : BitVec 16 := l.foldl ct c
/-- A byte's bits, the highest first. -/
def cbits (b : BitVec 8) : List Bool := [b.getLsbD 7, b.getLsbD 6, b.getLsbD 5, b.getLsbD 4, b.getLsbD 3, b.getLsbD 2, b.getLsbD 1, b.getLsbD 0]

theorem cbs_xor (x y : BitVec 16) : cbs (x ^^^ y) = cbs x ^^^ cbs y := by
  unfold cbs
  rw [BitVec.shiftLeft_xor_distrib, BitVec.msb_xor]
  apply BitVec.eq_of_getLsbD_eq
  intro i hi
  have h : ∀ a b : Bool, (if (a ^^ b) = true then 4129#16 else 0#16).getLsbD i = ((if a = true then 4129#16 else 0#16).getLsbD i ^^ (if b = true then 4129#16 else 0#16).getLsbD i) := by
    intro a b
    cases a <;> cases b <;> simp
  simp only [BitVec.getLsbD_xor, h]
  generalize (x <<< 1).getLsbD i = p
  generalize (y <<< 1).getLsbD i = q
  generalize (if x.msb = true then 4129#16 else 0#16).getLsbD i = r
  generalize (if y.msb = true then 4129#16 else 0#16).getLsbD i = t
  revert p q r t
  decide
theorem cbs_0 : cbs 0#16 = 0#16 := by decide
theorem cpow_xor : ∀ (n : Nat) (x y : BitVec 16), cpow n (x ^^^ y) = cpow n x ^^^ cpow n y
  | 0, _, _ => rfl
  | n + 1, x, y => by show cpow n (cbs (x ^^^ y)) = _; rw [cbs_xor, cpow_xor n]; rfl
theorem cpow_0 : ∀ n : Nat, cpow n 0#16 = 0#16
  | 0 => rfl
  | n + 1 => by show cpow n (cbs 0#16) = _; rw [cbs_0, cpow_0 n]
theorem cu_eq (x : BitVec 16) (b : Bool) : cu x b = cbs x ^^^ cu 0#16 b := by
  unfold cu; rw [cbs_xor, BitVec.zero_xor]
theorem fold_cu : ∀ (l : List Bool) (x : BitVec 16), l.foldl cu x = cpow l.length x ^^^ l.foldl cu 0#16
  | [], x => by simp [cpow]
  | b :: l, x => by
    show l.foldl cu (cu x b) = cpow (l.length + 1) x ^^^ l.foldl cu (cu 0#16 b)
    rw [fold_cu l (cu x b), fold_cu l (cu 0#16 b), cu_eq x b, cpow_xor]
    show cpow l.length (cbs x) ^^^ _ ^^^ _ = cpow l.length (cbs x) ^^^ (_ ^^^ _)
    rw [BitVec.xor_assoc]
theorem ct_all : ((List.range 256).all fun n => decide (ct 0#16 (BitVec.ofNat 8 n) = (cbits (BitVec.ofNat 8 n)).foldl cu 0#16)) = true := by decide +kernel
/-- A byte's step is that of its bits. -/
theorem ct_bits (c : BitVec 16) (b : BitVec 8) : ct c b = (cbits b).foldl cu c := by
  have h := List.all_eq_true.1 ct_all b.toNat (List.mem_range.2 b.isLt)
  simp only [decide_eq_true_eq, BitVec.ofNat_toNat, BitVec.setWidth_eq] at h
  rw [fold_cu, ← h]
  unfold ct
  rw [cpow_xor, BitVec.zero_xor]
  rfl
theorem ct_xor (c d : BitVec 16) (a b : BitVec 8) : ct (c ^^^ d) (a ^^^ b) = ct c a ^^^ ct d b := by
  unfold ct
  rw [← cpow_xor]
  congr 1
  have : (a ^^^ b).setWidth 16 <<< 8 = (a.setWidth 16 <<< 8) ^^^ (b.setWidth 16 <<< 8) := by rw [BitVec.setWidth_xor, BitVec.shiftLeft_xor_distrib]
  rw [this, BitVec.xor_assoc, BitVec.xor_assoc]
  congr 1
  rw [← BitVec.xor_assoc, BitVec.xor_comm d, BitVec.xor_assoc]
/-- The sum of texts of one length, xored. -/
theorem cOf_xor : ∀ (l m : List (BitVec 8)) (c d : BitVec 16), l.length = m.length → cOf (c ^^^ d) (List.zipWith (· ^^^ ·) l m) = cOf c l ^^^ cOf d m
  | [], [], _, _, _ => rfl
  | a :: l, b :: m, c, d, h => by
    show cOf (ct (c ^^^ d) (a ^^^ b)) (List.zipWith (· ^^^ ·) l m) = cOf (ct c a) l ^^^ cOf (ct d b) m
    rw [ct_xor]
    exact cOf_xor l m _ _ (by simpa using h)
theorem cOf_append (l m : List (BitVec 8)) (c : BitVec 16) : cOf c (l ++ m) = cOf (cOf c l) m := List.foldl_append ..

theorem low_all : ((List.range 256).all fun n => decide (cpow 8 (BitVec.ofNat 16 n) = BitVec.ofNat 16 n <<< 8)) = true := by decide +kernel
/-- Nothing is left behind a sum's own two bytes. -/
theorem seal_none (c : BitVec 16) : ct (ct c ((c >>> 8).setWidth 8)) (c.setWidth 8) = 0#16 := by
  have e : c ^^^ (((c >>> 8).setWidth 8).setWidth 16 <<< 8) = (c.setWidth 8).setWidth 16 := by
    apply BitVec.eq_of_getLsbD_eq
    intro i hi
    simp only [BitVec.getLsbD_xor, BitVec.getLsbD_shiftLeft, BitVec.getLsbD_setWidth, BitVec.getLsbD_ushiftRight]
    by_cases h : i < 8
    · simp [h, hi]
    · have : i - 8 < 8 := by omega
      have e2 : 8 + (i - 8) = i := by omega
      have : i - 8 < 16 := by omega
      simp [*]
  have f := List.all_eq_true.1 low_all (c.setWidth 8).toNat (List.mem_range.2 (c.setWidth 8).isLt)
  simp only [decide_eq_true_eq] at f
  have g : BitVec.ofNat 16 (c.setWidth 8).toNat = (c.setWidth 8).setWidth 16 := by
    apply BitVec.eq_of_toNat_eq
    simp
  rw [g] at f
  have h1 : ct c ((c >>> 8).setWidth 8) = (c.setWidth 8).setWidth 16 <<< 8 := by unfold ct; rw [e, f]
  rw [h1]
  unfold ct
  rw [BitVec.xor_self, cpow_0]

/-- Where nothing is left behind a text of which at most the first m bits are 1, the sum ahead was just these bits. -/
theorem cu_back : ∀ (e : List Bool) (x : BitVec 16) (m : Nat), m ≤ 16 → (∀ k, e.getD k false = true → k < m) → e.foldl cu x = 0#16 → ∀ k, k < 16 → x.getMsbD k = e.getD k false
  | [], x, m, _, _, h, k, hk => by
    have h' : x = 0#16 := h
    rw [h']; simp
  | b :: e, x, m, hm, he, h, k, hk => by
    have ih := cu_back e (cu x b) (m - 1) (by omega) (fun k hk => by
      have := he (k + 1) (by simpa using hk)
      omega) h
    have hl : (cu x b).getMsbD 15 = false := by
      rw [ih 15 (by omega)]
      cases h2 : e.getD 15 false with
      | false => rfl
      | true =>
        have := he 16 (by simpa using h2)
        omega
    have hcu : cu x b = ((x ^^^ (if b then 32768#16 else 0#16)) <<< 1) ^^^ (if (x ^^^ (if b then 32768#16 else 0#16)).msb then 4129#16 else 0#16) := rfl
    have hx : x.msb = b := by
      rw [hcu] at hl
      have : ((x ^^^ (if b then 32768#16 else 0#16)) <<< 1).getMsbD 15 = false := by simp [BitVec.getMsbD]
      rw [BitVec.getMsbD_xor, this, BitVec.msb_xor] at hl
      cases b <;> cases hxm : x.msb <;> simp [hxm] at hl ⊢
      all_goals revert hl; decide
    have hy : ∀ k, k < 15 → (cu x b).getMsbD k = x.getMsbD (k + 1) := by
      intro k hk
      have hm0 : (x ^^^ (if b then 32768#16 else 0#16)).msb = false := by
        rw [BitVec.msb_xor, hx]; cases b <;> rfl
      rw [hcu, hm0]
      simp only [Bool.false_eq_true, if_false, BitVec.xor_zero]
      rw [BitVec.getMsbD_shiftLeft, BitVec.getMsbD_xor]
      have : (if b then 32768#16 else 0#16).getMsbD (k + 1) = false := by
        have hh : ((List.range 15).all fun k => !((32768#16).getMsbD (k + 1))) = true := by decide
        have := List.all_eq_true.1 hh k (List.mem_range.2 hk)
        cases b
        · simp
        · simpa using this
      rw [Nat.add_comm, Nat.add_comm 1 k] at *
      rw [this, Bool.xor_false]
    cases k with
    | zero => simpa [BitVec.msb] using hx
    | succ k =>
      rw [← hy k (by omega), ih k (by omega)]
      simp
theorem cu_0 : cu 0#16 false = 0#16 := by decide
/-- A burst is told: what differs within 16 bits leaves something. -/
theorem burst_told : ∀ (e : List Bool) (at' : Nat), (∀ k, e.getD k false = true → at' ≤ k ∧ k < at' + 16) → (∃ k, e.getD k false = true) → e.foldl cu 0#16 ≠ 0#16
  | [], _, _, ⟨k, hk⟩ => by simp at hk
  | b :: e, 0, h, ⟨k, hk⟩ => fun h0 => by
    have := cu_back (b :: e) 0#16 16 (by omega) (fun k hk => by have := h k hk; omega) h0 k (by have := h k hk; omega)
    rw [hk] at this
    simp at this
  | b :: e, n + 1, h, ⟨k, hk⟩ => by
    have hb : b = false := by
      cases b with
      | false => rfl
      | true => have := h 0 (by simp); omega
    subst hb
    show e.foldl cu (cu 0#16 false) ≠ 0#16
    rw [cu_0]
    refine burst_told e n (fun j hj => ?_) ?_
    · have := h (j + 1) (by simpa using hj)
      omega
    · cases k with
      | zero => simp at hk
      | succ k => exact ⟨k, by simpa using hk⟩
end Go.Proofs.YtochnjbacglhbaaDoor
