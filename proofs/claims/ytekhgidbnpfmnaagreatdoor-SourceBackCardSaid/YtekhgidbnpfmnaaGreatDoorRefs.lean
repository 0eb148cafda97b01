/- What the document's own plain answers of layers 1 to 4 give. Conditions: the numbers are of the kinds of the parameters. -/
import Derived.Test.YtekhgidbnpfmnaaGreatDoorLayers
import Derived.Test.YtekhgidbnpfmnaaGreatDoorNum
import Derived.StillTailTactics
import Derived.Deep.RegionWith
import Derived.Test.YtekhgidbnpfmnaaGreatDoorProg
import Derived.Handy
import Derived.Lib.Hide
namespace Go.Proofs.YtekhgidbnpfmnaaGreatDoor
open Go.RowKit

theorem tmod_neg {x n : Int} (hn : 0 < n) (h : x.tmod n < 0) : x.tmod n + n = x % n := by
  have e := Int.tmod_eq_emod (a := x) (b := n)
  have h0 := Int.emod_nonneg x (show n ≠ 0 by omega)
  have h1 : ((n.natAbs : Nat) : Int) = n := by omega
  split at e
  · omega
  · omega

theorem tmod_pos {x n : Int} (hn : 0 < n) (h : ¬ x.tmod n < 0) : x.tmod n = x % n := by
  have e := Int.tmod_eq_emod (a := x) (b := n)
  have h0 := Int.emod_lt_of_pos x hn
  have h1 : ((n.natAbs : Nat) : Int) = n := by omega
  split at e
  · omega
  · omega

theorem tmod_gt {x n : Int} (hn : 0 < n) : -n < x.tmod n ∧ x.tmod n < n := by
  have e := Int.tmod_eq_emod (a := x) (b := n)
  have h0 := Int.emod_lt_of_pos x hn
  have h2 := Int.emod_nonneg x (show n ≠ 0 by omega)
  have h1 : ((n.natAbs : Nat) : Int) = n := by omega
  split at e
  · omega
  · rename_i hd
    have : x % n ≠ 0 := fun h => hd (Or.inr (Int.dvd_of_emod_eq_zero h))
    omega

/-- 2 to the power of k. -/
def pw (k : Nat) : Int := 2 ^ k
theorem pw_succ (k : Nat) : pw (k + 1) = 2 * pw k := by unfold pw; rw [Int.pow_succ]; omega
theorem pw_pos (k : Nat) : 0 < pw k := Int.pow_pos (by decide)
theorem pw_mono {k m : Nat} (h : k ≤ m) : pw k ≤ pw m := by
  unfold pw
  have : 2 ^ k ≤ 2 ^ m := Nat.pow_le_pow_right (by decide) h
  exact_mod_cast this

/-- The lowest n bits, with a sign. -/
def sgn (x : Int) (n : Nat) : Int := if pw n / 2 ≤ x % pw n then x % pw n - pw n else x % pw n

theorem sgn_32 (x : Int) : sgn x 32 = wrap32 x := by
  have : pw 32 = 4294967296 := by decide
  unfold sgn wrap32
  rw [this]
  split <;> omega
theorem sgn_16 (x : Int) : sgn x 16 = wrap16 x := by
  have : pw 16 = 65536 := by decide
  unfold sgn wrap16
  rw [this]
  split <;> omega

theorem high_q (x : Int) : (x - x % 4294967296).tdiv 4294967296 = x / 4294967296 := by
  rw [Int.tdiv_eq_ediv_of_dvd ⟨x / 4294967296, by omega⟩]; omega

/-- The lowest k bits of a row of bits, noughts above. -/
def biTo (b : BitVec 32) (k i : Nat) : Int := if i < k then bi b i else 0
theorem biTo_step (b : BitVec 32) (k : Nat) : row 32 .i64 (upd (biTo b k) k (bi b k)) = row 32 .i64 (biTo b (k + 1)) := by
  apply row_ext
  intro i _
  unfold upd biTo
  by_cases h : i = k
  · subst h; simp
  · by_cases h2 : i < k
    · simp [h, h2, Nat.lt_succ_of_lt h2]
    · simp [h, h2, show ¬ i < k + 1 by omega]
theorem biTo_32 (b : BitVec 32) : row 32 .i64 (biTo b 32) = row 32 .i64 (bi b) := row_ext _ fun i hi => by unfold biTo; rw [if_pos hi]
theorem biTo_0 (b : BitVec 32) : row 32 .i64 (biTo b 0) = row 32 .i64 fun _ => 0 := row_ext _ fun i _ => by unfold biTo; rw [if_neg (by omega)]

/-- What is filled from the place s on, up to the place k: bit i of f. -/
def rpart (f : Nat → Int) (s k i : Nat) : Int := if s ≤ i ∧ i < k then f i else 0
theorem rpart_step (f : Nat → Int) (s k : Nat) (h : s ≤ k) : row 32 .i64 (upd (rpart f s k) k (f k)) = row 32 .i64 (rpart f s (k + 1)) := by
  apply row_ext
  intro i _
  unfold upd rpart
  by_cases h1 : i = k
  · subst h1; simp [h]
  · by_cases h2 : i < k
    · simp [h1, h2, Nat.lt_succ_of_lt h2]
    · simp [h1, h2, show ¬ i < k + 1 by omega]
theorem rpart_0 (f : Nat → Int) (s : Nat) : row 32 .i64 (rpart f s s) = row 32 .i64 fun _ => 0 := row_ext _ fun i _ => by unfold rpart; rw [if_neg (by omega)]

/-- What is filled step by step, place j at the step p j: after k steps. -/
def fill (p : Nat → Nat) (f : Nat → Int) (k j : Nat) : Int := if p j < k then f (p j) else 0
theorem fill_step (p : Nat → Nat) (f : Nat → Int) (k q : Nat) (h : ∀ j, j < 32 → (p j = k ↔ j = q)) : row 32 .i64 (upd (fill p f k) q (f k)) = row 32 .i64 (fill p f (k + 1)) := by
  apply row_ext
  intro j hj
  unfold upd fill
  by_cases h1 : j = q
  · have h2 := (h j hj).2 h1
    simp [h1] at h2
    simp [h1, h2]
  · have h2 : ¬ p j = k := fun e => h1 ((h j hj).1 e)
    by_cases h3 : p j < k
    · simp [h1, h3, Nat.lt_succ_of_lt h3]
    · simp [h1, h3, show ¬ p j < k + 1 by omega]
theorem fill_0 (p : Nat → Nat) (f : Nat → Int) : row 32 .i64 (fill p f 0) = row 32 .i64 fun _ => 0 := row_ext _ fun i _ => by unfold fill; rw [if_neg (by omega)]

/-- How many of the lowest k bits are 1. -/
def onesTo (b : BitVec 32) (k : Nat) : Int := (b.cpopNatRec k 0 : Int)
theorem onesTo_step (b : BitVec 32) (k : Nat) : onesTo b k + bi b k = onesTo b (k + 1) := by
  unfold onesTo
  rw [BitVec.cpopNatRec_succ, BitVec.cpopNatRec_eq (acc := 0 + _), bi_bit]
  simp
theorem onesTo_bd (b : BitVec 32) (k : Nat) : 0 ≤ onesTo b k ∧ onesTo b k ≤ 32 := by
  have := BitVec.cpopNatRec_zero_le b k
  unfold onesTo; omega
theorem onesTo_32 (x : Int) : onesTo (wd x) 32 = wOnes x := by
  unfold onesTo wOnes; rw [BitVec.toNat_cpop]

/-- The k highest bits are noughts. -/
theorem clz_none (x : Int) (h : us (wd x) / 2 ^ 0 = 0) : (32 : Int) = wClz x := by
  have e : wd x = 0#32 := by
    have h' : us (wd x) = 0 := by simpa using h
    apply us_inj
    rw [h']; decide
  unfold wClz; rw [e]; decide
theorem clz_of (b : BitVec 32) (k : Nat) (hk : k < 32) (h1 : us b / 2 ^ (32 - k) = 0) (h2 : bi b (31 - k) = 1) : (b.clz.toNat : Int) = k := by
  have hu := us_bd b
  have p1 : (0 : Int) < 2 ^ (32 - k) := Int.pow_pos (by decide)
  have p2 : (0 : Int) < 2 ^ (31 - k) := Int.pow_pos (by decide)
  have l1 : us b < 2 ^ (32 - k) := by
    refine Int.not_le.1 fun hle => ?_
    have h3 : 1 ≤ us b / 2 ^ (32 - k) := (Int.le_ediv_iff_mul_le p1).2 (by omega)
    omega
  have l2 : 2 ^ (31 - k) ≤ us b := by
    unfold bi at h2
    have h3 : 1 ≤ us b / 2 ^ (31 - k) := by
      have := Int.ediv_nonneg hu.1 (Int.le_of_lt p2)
      omega
    have := (Int.le_ediv_iff_mul_le p2).1 h3
    omega
  have n1 : b.toNat < 2 ^ (32 - k) := by unfold us at l1; exact_mod_cast l1
  have n2 : 2 ^ (31 - k) ≤ b.toNat := by unfold us at l2; exact_mod_cast l2
  have hne : b ≠ 0#32 := by
    intro h
    subst h
    have := Nat.two_pow_pos (31 - k)
    simp at n2
  have c1 := BitVec.two_pow_sub_clz_le_toNat_of_ne_zero (x := b) (by decide) hne
  have c2 := BitVec.toNat_lt_two_pow_sub_clz (x := b)
  have c3 : b.clz.toNat < 32 := by
    have h4 : b.clz.toNat < (32#32).toNat := (BitVec.clz_lt_iff_ne_zero (x := b)).2 hne
    have e : (32#32).toNat = 32 := rfl
    omega
  have e2 : 32 - 1 - b.clz.toNat = 31 - b.clz.toNat := by omega
  rw [e2] at c1
  have a1 : k ≤ b.clz.toNat := by
    apply Nat.le_of_not_lt; intro hlt
    have := Nat.pow_le_pow_right (n := 2) (by decide) (show 32 - k ≤ 31 - b.clz.toNat by omega)
    omega
  have a2 : b.clz.toNat ≤ k := by
    apply Nat.le_of_not_lt; intro hlt
    have := Nat.pow_le_pow_right (n := 2) (by decide) (show 32 - b.clz.toNat ≤ 31 - k by omega)
    omega
  omega

theorem drewN_heap (w : World) (d : Nat) : (w.drewN d).heap = w.heap := rfl

theorem setCell_drewN (w : World) (d : Nat) (a : Addr) (v : Value) : (w.drewN d).setCell a v = (w.setCell a v).drewN d := rfl
theorem drewN_drew (w : World) (d : Nat) : (w.drewN d).drew = w.drewN (d + 1) := rfl

theorem tdiv_exact (x m : Int) (hm : 0 < m) : (x - x % m).tdiv m = x / m := by
  have h : x - x % m = m * (x / m) := by have := Int.mul_ediv_add_emod x m; omega
  rw [h, Int.mul_tdiv_cancel_left _ (by omega)]

/-- Which of both, bit by bit, up to the place k. -/
def selTo (m a b : BitVec 32) (k i : Nat) : Int := if i < k then bi (a &&& m ||| b &&& ~~~m) i else bi b i
theorem bi_sel (m a b : BitVec 32) (i : Nat) (hi : i < 32) : bi (a &&& m ||| b &&& ~~~m) i = if bi m i = 1 then bi a i else bi b i := by
  simp only [bi_bit, BitVec.getLsbD_or, BitVec.getLsbD_and, BitVec.getLsbD_not]
  cases m.getLsbD i <;> simp [hi]
theorem selTo_one (m a b : BitVec 32) (k : Nat) (hk : k < 32) (h : bi m k = 1) : row 32 .i64 (upd (selTo m a b k) k (bi a k)) = row 32 .i64 (selTo m a b (k + 1)) := by
  apply row_ext
  intro i hi
  unfold upd selTo
  by_cases h1 : i = k
  · subst h1; rw [if_pos rfl, if_pos (Nat.lt_succ_self _), bi_sel _ _ _ _ hk, if_pos h]
  · by_cases h2 : i < k
    · simp [h1, h2, Nat.lt_succ_of_lt h2]
    · simp [h1, h2, show ¬ i < k + 1 by omega]
theorem selTo_none (m a b : BitVec 32) (k : Nat) (hk : k < 32) (h : ¬ bi m k = 1) : row 32 .i64 (selTo m a b k) = row 32 .i64 (selTo m a b (k + 1)) := by
  apply row_ext
  intro i hi
  unfold selTo
  by_cases h1 : i = k
  · subst h1; rw [if_neg (Nat.lt_irrefl _), if_pos (Nat.lt_succ_self _), bi_sel _ _ _ _ hk, if_neg h]
  · by_cases h2 : i < k
    · simp [h2, Nat.lt_succ_of_lt h2]
    · simp [h2, show ¬ i < k + 1 by omega]
theorem selTo_0 (m a b : BitVec 32) : row 32 .i64 (selTo m a b 0) = row 32 .i64 (bi b) := row_ext _ fun i _ => by unfold selTo; rw [if_neg (by omega)]
theorem selTo_32 (m a b : BitVec 32) : row 32 .i64 (selTo m a b 32) = row 32 .i64 (bi (a &&& m ||| b &&& ~~~m)) := row_ext _ fun i hi => by unfold selTo; rw [if_pos hi]

/-- What is turned, bit by bit, up to the place k. -/
def xorTo (x m : BitVec 32) (k i : Nat) : Int := if i < k then bi (x ^^^ m) i else bi x i
theorem bi_xor (x m : BitVec 32) (i : Nat) : (bi x i + bi m i) % 2 = bi (x ^^^ m) i := by
  simp only [bi_bit, BitVec.getLsbD_xor]
  cases x.getLsbD i <;> cases m.getLsbD i <;> simp
theorem xorTo_at (x m : BitVec 32) (k : Nat) : xorTo x m k k = bi x k := by unfold xorTo; rw [if_neg (Nat.lt_irrefl _)]
theorem xorTo_step (x m : BitVec 32) (k : Nat) : row 32 .i64 (upd (xorTo x m k) k ((bi x k + bi m k) % 2)) = row 32 .i64 (xorTo x m (k + 1)) := by
  apply row_ext
  intro i _
  unfold upd xorTo
  by_cases h1 : i = k
  · subst h1; rw [if_pos rfl, if_pos (Nat.lt_succ_self _), bi_xor]
  · by_cases h2 : i < k
    · simp [h1, h2, Nat.lt_succ_of_lt h2]
    · simp [h1, h2, show ¬ i < k + 1 by omega]
theorem xorTo_0 (x m : BitVec 32) : row 32 .i64 (xorTo x m 0) = row 32 .i64 (bi x) := row_ext _ fun i _ => by unfold xorTo; rw [if_neg (by omega)]
theorem xorTo_32 (x m : BitVec 32) : row 32 .i64 (xorTo x m 32) = row 32 .i64 (bi (x ^^^ m)) := row_ext _ fun i hi => by unfold xorTo; rw [if_pos hi]

end Go.Proofs.YtekhgidbnpfmnaaGreatDoor
