/- Where two texts of bytes differ, bit by bit, and texts of which bits are turned: lists of places. Nothing of any program. -/
import Derived.Test.YthmndfgafkpgdaaCrcX
import Derived.Lib.BitFns
namespace Go.Proofs.Ythmndfgafkpgdaa
open Go.RowKit

/-- The places of the ones among the highest j of sixteen bits. -/
def onesTo (x : Int) (j : Nat) : List Int := ((List.range j).filter fun i => decide (xb x i = 1)).map Int.ofNat
def onesOf (x : Int) : List Int := onesTo x 16
theorem onesTo_yes {x : Int} {j : Nat} (h : xb x j = 1) : onesTo x (j + 1) = onesTo x j ++ [(j : Int)] := by
  unfold onesTo; rw [List.range_succ, List.filter_append, List.map_append]; simp [h]
theorem onesTo_no {x : Int} {j : Nat} (h : xb x j ≠ 1) : onesTo x (j + 1) = onesTo x j := by
  unfold onesTo; rw [List.range_succ, List.filter_append, List.map_append]; simp [h]
theorem onesTo_skip {x : Int} {j : Nat} : ∀ d, (∀ k, j ≤ k → k < j + d → xb x k ≠ 1) → onesTo x (j + d) = onesTo x j
  | 0, _ => rfl
  | d + 1, h => by rw [← Nat.add_assoc, onesTo_no (h _ (by omega) (by omega)), onesTo_skip d fun k h1 h2 => h k h1 (by omega)]
theorem onesTo_pre {x : Int} {j : Nat} : ∀ d, onesTo x j <+: onesTo x (j + d)
  | 0 => List.prefix_refl _
  | d + 1 => by
    refine (onesTo_pre d).trans ?_
    by_cases h : xb x (j + d) = 1
    · rw [← Nat.add_assoc, onesTo_yes h]; exact List.prefix_append _ _
    · rw [← Nat.add_assoc, onesTo_no h]; exact List.prefix_refl _
theorem onesTo_of {x : Int} {j : Nat} (h : j ≤ 16) : onesTo x j <+: onesOf x := by
  obtain ⟨d, hd⟩ : ∃ d, 16 = j + d := ⟨16 - j, by omega⟩
  unfold onesOf; rw [hd]; exact onesTo_pre d
theorem mem_onesTo {x y : Int} {j : Nat} : y ∈ onesTo x j ↔ ∃ i : Nat, y = i ∧ i < j ∧ xb x i = 1 := by
  unfold onesTo
  simp only [List.mem_map, List.mem_filter, List.mem_range, decide_eq_true_eq]
  constructor
  · rintro ⟨i, ⟨h1, h2⟩, rfl⟩; exact ⟨i, rfl, h1, h2⟩
  · rintro ⟨i, rfl, h1, h2⟩; exact ⟨i, ⟨h1, h2⟩, rfl⟩
theorem bitLen_two (x : Nat) : x < 2 ^ 64 → x ≠ 0 → 2 ^ Lib.bitLen x ≤ 2 * x ∧ x < 2 ^ Lib.bitLen x := by
  induction x using Nat.strongRecOn with
  | _ x ih =>
    intro h h0
    rw [Lib.bitLen_half x h0 h]
    by_cases h1 : x / 2 = 0
    · obtain rfl : x = 1 := by omega
      decide
    · have := ih (x / 2) (by omega) (by omega) h1
      rw [Nat.pow_add]; omega
theorem xb_nat (x i : Nat) : xb (x : Int) i = ((x / 2 ^ (15 - i) % 2 : Nat) : Int) := by
  unfold xb; simp
theorem xb_mod (x L : Nat) : x % 2 ^ (L + 1) / 2 ^ L = x / 2 ^ L % 2 := by
  rw [Nat.pow_succ, Nat.mod_mul_right_div_self]
/-- The highest 1 of what is left, and what is left behind it. -/
theorem ones_stepN {x j : Nat} (hj : j ≤ 16) (hne : x % 2 ^ (16 - j) ≠ 0) :
    ∃ L : Nat, Lib.bitLen (x % 2 ^ (16 - j)) = L + 1 ∧ L + 1 ≤ 16 - j ∧ x / 2 ^ L % 2 = 1 ∧ (∀ k, L < k → k < 16 - j → x / 2 ^ k % 2 = 0) ∧ x % 2 ^ (16 - j) = 2 ^ L + x % 2 ^ L := by
  have hlt : x % 2 ^ (16 - j) < 2 ^ (16 - j) := Nat.mod_lt _ (Nat.two_pow_pos _)
  have hm : (2 : Nat) ^ (16 - j) ≤ 2 ^ 16 := Nat.pow_le_pow_right (by decide) (by omega)
  have hb := bitLen_two (x % 2 ^ (16 - j)) (Nat.lt_of_lt_of_le hlt (Nat.le_trans hm (by decide))) hne
  obtain ⟨y, hy⟩ : ∃ y, x % 2 ^ (16 - j) = y := ⟨_, rfl⟩
  rw [hy] at hb hlt hne ⊢
  obtain ⟨L, hL⟩ : ∃ L, Lib.bitLen y = L + 1 := by
    refine ⟨Lib.bitLen y - 1, ?_⟩
    rcases Nat.eq_zero_or_pos (Lib.bitLen y) with h | h
    · rw [h] at hb; simp at hb; omega
    · omega
  rw [hL] at hb
  have hp : (2 : Nat) ^ (L + 1) = 2 * 2 ^ L := by rw [Nat.pow_succ]; omega
  have hLj : L + 1 ≤ 16 - j := by
    have : L < 16 - j := (Nat.pow_lt_pow_iff_right (a := 2) (by decide)).1 (by omega)
    omega
  have hmod : ∀ k, L < k → k ≤ 16 - j → x % 2 ^ k = y := by
    intro k h1 h2
    rw [← Nat.mod_mod_of_dvd x (Nat.pow_dvd_pow 2 h2), hy]
    refine Nat.mod_eq_of_lt (Nat.lt_of_lt_of_le hb.2 (Nat.pow_le_pow_right (by decide) h1))
  have hx := hmod (L + 1) (by omega) hLj
  have hdiv : y / 2 ^ L = 1 := Nat.div_eq_of_lt_le (by omega) (by omega)
  refine ⟨L, hL, hLj, ?_, ?_, ?_⟩
  · rw [← xb_mod, hx, hdiv]
  · intro k h1 h2
    rw [← xb_mod, hmod (k + 1) (by omega) (by omega)]
    exact Nat.div_eq_of_lt (Nat.lt_of_lt_of_le hb.2 (Nat.pow_le_pow_right (by decide) h1))
  · have e1 := Nat.mod_pow_succ (b := 2) (k := L) (x := x)
    rw [hx, ← xb_mod, hx, hdiv] at e1
    omega
theorem andNot_top {L r : Nat} (hL : L < 16) (hr : r < 2 ^ L) : bits .andNot .u16 ((2 ^ L + r : Nat) : Int) ((2 ^ L : Nat) : Int) = (r : Int) := by
  have h16 : (2 : Nat) ^ L ≤ 2 ^ 15 := Nat.pow_le_pow_right (by decide) (by omega)
  have e : (BitVec.ofNat 16 (2 ^ L + r) &&& ~~~ BitVec.ofNat 16 (2 ^ L)) = BitVec.ofNat 16 r := by
    apply BitVec.eq_of_getLsbD_eq
    intro k hk
    simp only [BitVec.getLsbD_and, BitVec.getLsbD_not, BitVec.getLsbD_ofNat, hk, decide_true, Bool.true_and, Nat.testBit_two_pow]
    rcases Nat.lt_trichotomy k L with h | h | h
    · rw [Nat.testBit_two_pow_add_gt h]; simp; omega
    · subst h
      rw [Nat.testBit_lt_two_pow hr]; simp
    · have h2 : (2 : Nat) ^ (L + 1) ≤ 2 ^ k := Nat.pow_le_pow_right (by decide) h
      rw [Nat.pow_succ] at h2
      rw [Nat.testBit_lt_two_pow (by omega : 2 ^ L + r < 2 ^ k), Nat.testBit_lt_two_pow (by omega : r < 2 ^ k)]; simp
  show IntKind.u16.wrap (((BitVec.ofInt 16 ((2 ^ L + r : Nat) : Int)) &&& ~~~ (BitVec.ofInt 16 ((2 ^ L : Nat) : Int))).toNat : Int) = _
  rw [BitVec.ofInt_natCast, BitVec.ofInt_natCast, e, BitVec.toNat_ofNat, Nat.mod_eq_of_lt (by omega)]
  have : r < 32768 := by omega
  simp [IntKind.wrap, IntKind.bits, IntKind.signed]
  omega
theorem shr_top {i : Nat} (h : i ≤ 15) : (32768 : Int) / 2 ^ i = ((2 ^ (15 - i) : Nat) : Int) := by
  have := List.all_eq_true.1 (show ((List.range 16).all fun i => decide ((32768 : Int) / 2 ^ i = ((2 ^ (15 - i) : Nat) : Int))) = true by decide) i (List.mem_range.2 (by omega))
  simpa using this
theorem mod_two_bd {x : Int} (k : Nat) (h0 : 0 ≤ x) : 0 ≤ x % 2 ^ k ∧ x % 2 ^ k ≤ x := by
  obtain ⟨x, rfl⟩ : ∃ n : Nat, x = n := ⟨x.toNat, by omega⟩
  have e1 : ((x : Int) % 2 ^ k) = ((x % 2 ^ k : Nat) : Int) := by simp
  have := Nat.mod_le x (2 ^ k)
  rw [e1]; omega
/-- The next one: its place i; the ones up to it; what is left. -/
theorem ones_step {x : Int} {j : Nat} (h0 : 0 ≤ x) (hj : j ≤ 16) (hne : x % 2 ^ (16 - j) ≠ 0) :
    ∃ i : Nat, j ≤ i ∧ i < 16 ∧ (Lib.bitLen (x % 2 ^ (16 - j)).toNat : Int) = 16 - i ∧ onesTo x (i + 1) = onesTo x j ++ [(i : Int)] ∧ bits .andNot .u16 (x % 2 ^ (16 - j)) (32768 / 2 ^ i) = x % 2 ^ (16 - (i + 1)) ∧ x % 2 ^ (16 - (i + 1)) < x % 2 ^ (16 - j) := by
  obtain ⟨x, rfl⟩ : ∃ n : Nat, x = n := ⟨x.toNat, by omega⟩
  have e1 : ((x : Int) % 2 ^ (16 - j)) = ((x % 2 ^ (16 - j) : Nat) : Int) := by simp
  rw [e1] at hne ⊢
  obtain ⟨L, hL, hLj, hb, hz, hy⟩ := ones_stepN (x := x) hj (by omega)
  refine ⟨15 - L, by omega, by omega, by rw [Int.toNat_natCast, hL]; omega, ?_, ?_, ?_⟩
  · obtain ⟨d, hd⟩ : ∃ d, 15 - L = j + d := ⟨15 - L - j, by omega⟩
    rw [onesTo_yes (by rw [xb_nat, show 15 - (15 - L) = L by omega, hb]; rfl), hd, onesTo_skip d (fun k h1 h2 => by
      rw [xb_nat, hz (15 - k) (by omega) (by omega)]; decide)]
  · have e2 : ((x : Int) % 2 ^ (16 - (15 - L + 1))) = ((x % 2 ^ L : Nat) : Int) := by rw [show 16 - (15 - L + 1) = L by omega]; simp
    rw [e2, shr_top (by omega), show 15 - (15 - L) = L by omega, hy]
    exact andNot_top (by omega) (Nat.mod_lt _ (Nat.two_pow_pos _))
  · have e2 : ((x : Int) % 2 ^ (16 - (15 - L + 1))) = ((x % 2 ^ L : Nat) : Int) := by rw [show 16 - (15 - L + 1) = L by omega]; simp
    have := Nat.two_pow_pos L
    rw [e2]; omega
/-- Nothing is left: all ones have come. -/
theorem ones_end {x : Int} {j : Nat} (h0 : 0 ≤ x) (hj : j ≤ 16) (he : x % 2 ^ (16 - j) = 0) : onesOf x = onesTo x j := by
  obtain ⟨x, rfl⟩ : ∃ n : Nat, x = n := ⟨x.toNat, by omega⟩
  have e1 : ((x : Int) % 2 ^ (16 - j)) = ((x % 2 ^ (16 - j) : Nat) : Int) := by simp
  rw [e1] at he
  have he' : x % 2 ^ (16 - j) = 0 := by omega
  obtain ⟨d, hd⟩ : ∃ d, 16 = j + d := ⟨16 - j, by omega⟩
  unfold onesOf
  rw [hd]
  refine onesTo_skip d fun k h1 h2 => ?_
  rw [xb_nat, ← xb_mod, ← Nat.mod_mod_of_dvd x (Nat.pow_dvd_pow 2 (show 15 - k + 1 ≤ 16 - j by omega)), he']
  simp

/-- The places among the first n bytes at which two texts differ. -/
def differ (l m : List Int) (i : Nat) : Bool := (bl l).getD i false ^^ (bl m).getD i false
def diffs (l m : List Int) (n : Nat) : List Int := ((List.range (8 * n)).filter (differ l m)).map Int.ofNat
theorem byte_ones : ((List.range 256).all fun y => (List.range 16).all fun i => decide (xb (256 * (y : Int)) i = 1) == (decide (i < 8) && bitOf y i)) = true := by decide +kernel
theorem byte_bit {y : Int} (h1 : 0 ≤ y) (h2 : y ≤ 255) {i : Nat} (hi : i < 16) : decide (xb (256 * y) i = 1) = (decide (i < 8) && bitOf y i) := by
  have := List.all_eq_true.1 (List.all_eq_true.1 byte_ones y.toNat (List.mem_range.2 (by omega))) i (List.mem_range.2 hi)
  rw [show ((y.toNat : Nat) : Int) = y by omega] at this
  exact beq_iff_eq.1 this
theorem bitOf_x8 (a b : Int) (r : Nat) : bitOf (x8 a b) r = (bitOf a r ^^ bitOf b r) := by
  unfold bitOf; rw [cb8_x8, BitVec.getLsbD_xor]
theorem filter_shift {p q : Nat → Bool} {a : Nat} : ∀ n, (∀ i, i < n → p (a + i) = q i) → (((List.range n).map (a + ·)).filter p) = ((List.range n).filter q).map (a + ·) := by
  intro n h
  rw [List.filter_map]
  congr 1
  apply List.filter_congr
  intro i hi
  exact h i (List.mem_range.1 hi)
theorem onesOf_byte {y : Int} (h1 : 0 ≤ y) (h2 : y ≤ 255) : onesOf (256 * y) = ((List.range 8).filter (bitOf y)).map Int.ofNat := by
  unfold onesOf onesTo
  congr 1
  rw [show 16 = 8 + 8 from rfl, List.range_add, List.filter_append]
  have e1 : ((List.range 8).filter fun i => decide (xb (256 * y) i = 1)) = (List.range 8).filter (bitOf y) := by
    apply List.filter_congr
    intro i hi
    have := List.mem_range.1 hi
    rw [byte_bit h1 h2 (by omega)]; simp [this]
  have e2 : (((List.range 8).map (8 + ·)).filter fun i => decide (xb (256 * y) i = 1)) = [] := by
    rw [List.filter_eq_nil_iff]
    intro i hi
    obtain ⟨r, hr, rfl⟩ := List.mem_map.1 hi
    have := List.mem_range.1 hr
    rw [byte_bit h1 h2 (by omega), decide_eq_false (by omega)]; simp
  rw [e1, e2, List.append_nil]
theorem diffs_succ {l m : List Int} {n : Nat} (hl : n < l.length) (hm : n < m.length) : diffs l m (n + 1) = diffs l m n ++ (onesOf (256 * x8 (byAt l n) (byAt m n))).map (fun i => 8 * (n : Int) + i) := by
  have hb := x8_bd (byAt l n) (byAt m n)
  rw [onesOf_byte hb.1 hb.2]
  unfold diffs
  rw [show 8 * (n + 1) = 8 * n + 8 by omega, List.range_add, List.filter_append, List.map_append]
  congr 1
  rw [filter_shift (q := bitOf (x8 (byAt l n) (byAt m n))) 8 (fun i hi => by
    unfold differ
    rw [bl_get l _ (by omega), bl_get m _ (by omega), show (8 * n + i) / 8 = n by omega, show (8 * n + i) % 8 = i by omega, bitOf_x8])]
  rw [List.map_map, List.map_map]
  apply List.map_congr_left
  intro i _
  simp only [Function.comp, Int.ofNat_eq_natCast]
  omega
theorem diffs_pre {l m : List Int} {k n : Nat} (h : k ≤ n) : diffs l m k <+: diffs l m n := by
  obtain ⟨d, rfl⟩ : ∃ d, n = k + d := ⟨n - k, by omega⟩
  unfold diffs
  rw [show 8 * (k + d) = 8 * k + 8 * d by omega, List.range_add, List.filter_append, List.map_append]
  exact List.prefix_append _ _
theorem onesOf_bd {x y : Int} (h : y ∈ onesOf x) : 0 ≤ y ∧ y ≤ 15 := by
  obtain ⟨i, rfl, h1, _⟩ := mem_onesTo.1 h
  omega
theorem mem_pre {x : Int} {p q : List Int} (h : p ++ [x] <+: q) : x ∈ q := h.subset (by simp)
theorem mem_diffs {l m : List Int} {n : Nat} {y : Int} : y ∈ diffs l m n ↔ ∃ k : Nat, y = k ∧ k < 8 * n ∧ differ l m k = true := by
  unfold diffs
  simp only [List.mem_map, List.mem_filter, List.mem_range]
  constructor
  · rintro ⟨i, ⟨h1, h2⟩, rfl⟩; exact ⟨i, rfl, h1, h2⟩
  · rintro ⟨i, rfl, h1, h2⟩; exact ⟨i, ⟨h1, h2⟩, rfl⟩
theorem diffs_rise (l m : List Int) (n : Nat) : (diffs l m n).Pairwise (· < ·) := by
  unfold diffs
  rw [List.pairwise_map]
  refine List.Pairwise.imp ?_ (List.Pairwise.sublist List.filter_sublist List.pairwise_lt_range)
  intro a b h
  simp only [Int.ofNat_eq_natCast]
  omega
theorem onesTo_rise (x : Int) (j : Nat) : (onesTo x j).Pairwise (· < ·) := by
  unfold onesTo
  rw [List.pairwise_map]
  refine List.Pairwise.imp ?_ (List.Pairwise.sublist List.filter_sublist List.pairwise_lt_range)
  intro a b h
  simp only [Int.ofNat_eq_natCast]
  omega

/-- How far apart: of places that rise. -/
def spanOf (ps : List Int) : Int := if ps = [] then 0 else 1 + ps.getLastD 0 - ps.headD 0
theorem spanOf_snoc (ps : List Int) (x : Int) : spanOf (ps ++ [x]) = 1 + x - (ps ++ [x]).headD 0 := by
  unfold spanOf; rw [if_neg (by simp)]; simp
theorem rise_head {ps : List Int} {x : Int} (h : (ps ++ [x]).Pairwise (· < ·)) : (ps ++ [x]).headD 0 ≤ x := by
  cases ps with
  | nil => simp
  | cons a t =>
    have := (List.pairwise_append.1 h).2.2 a (by simp) x (by simp)
    simp only [List.cons_append, List.headD_cons]
    omega
theorem rise_len : ∀ (a : Int) (t : List Int), (a :: t).Pairwise (· < ·) → ((a :: t).length : Int) ≤ 1 + (a :: t).getLastD 0 - a
  | a, [], _ => by simp
  | a, b :: t, h => by
    have ih := rise_len b t (List.pairwise_cons.1 h).2
    have hab := (List.pairwise_cons.1 h).1 b (by simp)
    simp only [List.length_cons, List.getLastD_cons] at ih ⊢
    omega
theorem span_len {ps : List Int} (h : ps.Pairwise (· < ·)) : (ps.length : Int) ≤ spanOf ps := by
  cases ps with
  | nil => simp [spanOf]
  | cons a t =>
    have := rise_len a t h
    unfold spanOf
    rw [if_neg (by simp)]
    simpa using this
theorem span_bd {ps : List Int} (h : ps.Pairwise (· < ·)) {lo k : Int} (hb : ∀ y ∈ ps, lo ≤ y ∧ y ≤ lo + k) (hk : 0 ≤ k) : 0 ≤ spanOf ps ∧ spanOf ps ≤ 1 + k := by
  cases ps with
  | nil => simp [spanOf]; omega
  | cons a t =>
    have h1 := span_len h
    have ha := hb a (by simp)
    have hl : (a :: t).getLastD 0 ∈ a :: t := by
      rw [List.getLastD_eq_getLast?, List.getLast?_eq_some_getLast (by simp)]
      exact List.getLast_mem _
    have hz := hb _ hl
    simp only [List.length_cons] at h1
    unfold spanOf at h1 ⊢
    rw [if_neg (by simp)] at h1 ⊢
    simp only [List.headD_cons] at h1 ⊢
    omega
theorem span_0 {ps : List Int} (h : ps.Pairwise (· < ·)) : spanOf ps = 0 ↔ ps = [] := by
  constructor
  · intro e
    have := span_len h
    exact List.eq_nil_of_length_eq_zero (by omega)
  · rintro rfl; simp [spanOf]

/-- A one turns the bit at its place, where the text has it. -/
def flip1 (q : Int) (l : List Int) (i : Int) : List Int := if 0 ≤ q + i ∧ q + i < 8 * l.length then turnAt l (q + i).toNat else l
def flipTo (q : Int) (l : List Int) (is : List Int) : List Int := is.foldl (flip1 q) l
theorem flipTo_snoc (q : Int) (l is : List Int) (i : Int) : flipTo q l (is ++ [i]) = flip1 q (flipTo q l is) i := by
  unfold flipTo; rw [List.foldl_append]; rfl
theorem flip1_len (q : Int) (l : List Int) (i : Int) : (flip1 q l i).length = l.length := by
  unfold flip1; split
  · exact turnAt_len _ _
  · rfl
theorem flip1_bd (q : Int) {l : List Int} (h : Bd8 l) (i : Int) : Bd8 (flip1 q l i) := by
  unfold flip1; split
  · exact turnAt_bd h _
  · exact h
theorem flipTo_len (q : Int) : ∀ (is l : List Int), (flipTo q l is).length = l.length
  | [], _ => rfl
  | i :: is, l => by show (flipTo q (flip1 q l i) is).length = _; rw [flipTo_len q is, flip1_len]
theorem flipTo_bd (q : Int) : ∀ (is : List Int) {l : List Int}, Bd8 l → Bd8 (flipTo q l is)
  | [], _, h => h
  | i :: is, _, h => flipTo_bd q is (flip1_bd q h i)
theorem flipTo_get (q : Int) : ∀ (is l : List Int) (k : Nat), k < 8 * l.length → is.Nodup → (bl (flipTo q l is)).getD k false = ((bl l).getD k false ^^ decide ((k : Int) - q ∈ is))
  | [], _, k, _, _ => by simp [flipTo]
  | i :: is, l, k, hk, hn => by
    show (bl (flipTo q (flip1 q l i) is)).getD k false = _
    have hn' := List.nodup_cons.1 hn
    rw [flipTo_get q is _ k (by rw [flip1_len]; exact hk) hn'.2]
    have e : (bl (flip1 q l i)).getD k false = ((bl l).getD k false ^^ decide ((k : Int) - q = i)) := by
      unfold flip1
      split
      · rename_i h
        rw [turnAt_get _ _ _ hk]
        congr 1
        apply decide_eq_decide.2
        omega
      · rename_i h
        rw [decide_eq_false (by omega), Bool.xor_false]
    rw [e, Bool.xor_assoc]
    congr 1
    by_cases h1 : (k : Int) - q = i
    · rw [decide_eq_true h1, decide_eq_false (by rw [h1]; exact hn'.1), decide_eq_true (by rw [h1]; simp)]; rfl
    · rw [decide_eq_false h1, Bool.false_xor]
      apply decide_eq_decide.2
      simp [h1]
theorem onesOf_nodup (x : Int) : (onesOf x).Nodup := List.Pairwise.imp (fun h => by omega) (onesTo_rise x 16)
/-- What is flipped. -/
def flipOf (l : List Int) (q x : Int) : List Int := flipTo q l (onesOf x)
theorem flipOf_len (l : List Int) (q x : Int) : (flipOf l q x).length = l.length := flipTo_len q _ _
theorem flipOf_bd {l : List Int} (h : Bd8 l) (q x : Int) : Bd8 (flipOf l q x) := flipTo_bd q _ h
theorem flipOf_differ (l : List Int) (q x : Int) {k : Nat} (hk : k < 8 * l.length) : differ l (flipOf l q x) k = decide ((k : Int) - q ∈ onesOf x) := by
  unfold differ flipOf
  rw [flipTo_get q _ _ k hk (onesOf_nodup x), ← Bool.xor_assoc, Bool.xor_self, Bool.false_xor]
theorem bl_inj {l m : List Int} (hl : Bd8 l) (hm : Bd8 m) (hlen : l.length = m.length) (h : ∀ k, k < 8 * l.length → (bl l).getD k false = (bl m).getD k false) : l = m := by
  apply List.ext_getElem hlen
  intro i h1 h2
  rw [byAt_eq h1, byAt_eq h2]
  have b1 := hl.at h1
  have b2 := hm.at h2
  have e : cb8 (byAt l i) = cb8 (byAt m i) := by
    apply BitVec.eq_of_getLsbD_eq
    intro r hr
    have := h (8 * i + (7 - r)) (by omega)
    rw [bl_get l _ (by omega), bl_get m _ (by omega), show (8 * i + (7 - r)) / 8 = i by omega, show (8 * i + (7 - r)) % 8 = 7 - r by omega] at this
    unfold bitOf at this
    rwa [show 7 - (7 - r) = r by omega] at this
  have e2 := congrArg BitVec.toNat e
  unfold cb8 at e2
  rw [BitVec.toNat_ofInt, BitVec.toNat_ofInt] at e2
  omega
theorem flip_back {l : List Int} (h : Bd8 l) (q x : Int) : flipOf (flipOf l q x) q x = l := by
  refine bl_inj (flipOf_bd (flipOf_bd h q x) q x) h (by rw [flipOf_len, flipOf_len]) fun k hk => ?_
  rw [flipOf_len, flipOf_len] at hk
  unfold flipOf
  rw [flipTo_get q _ _ k (by rw [flipTo_len]; exact hk) (onesOf_nodup x), flipTo_get q _ _ k hk (onesOf_nodup x), Bool.xor_assoc, Bool.xor_self, Bool.xor_false]
/-- Where a text and the flipped one differ. -/
def flips (l : List Int) (q x : Int) : List Int := diffs l (flipOf l q x) l.length
theorem mem_flips {l : List Int} {q x y : Int} : y ∈ flips l q x ↔ 0 ≤ y ∧ y < 8 * l.length ∧ ∃ i : Nat, y = q + i ∧ i < 16 ∧ xb x i = 1 := by
  unfold flips
  rw [mem_diffs]
  constructor
  · rintro ⟨k, rfl, h1, h2⟩
    rw [flipOf_differ l q x h1] at h2
    obtain ⟨i, h3, h4, h5⟩ := mem_onesTo.1 (of_decide_eq_true h2)
    exact ⟨by omega, by omega, i, by omega, h4, h5⟩
  · rintro ⟨h0, h1, i, rfl, h4, h5⟩
    refine ⟨(q + i).toNat, by omega, by omega, ?_⟩
    rw [flipOf_differ l q x (by omega)]
    exact decide_eq_true (mem_onesTo.2 ⟨i, by omega, h4, h5⟩)
end Go.Proofs.Ythmndfgafkpgdaa
