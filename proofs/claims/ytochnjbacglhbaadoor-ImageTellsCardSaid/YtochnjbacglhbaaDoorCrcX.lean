/- Bytes of which some bits are turned: what that does to their sum. Nothing of any program. -/
import Derived.Test.YtochnjbacglhbaaDoorCrcL
namespace Go.Proofs.YtochnjbacglhbaaDoor
open Go.RowKit

/-- A text's bits, the highest of the first byte first. -/
def bl (l : List Int) : List Bool := l.flatMap fun b => cbits (cb8 b)
theorem bl_nil : bl [] = [] := rfl
theorem bl_cons (b : Int) (l : List Int) : bl (b :: l) = cbits (cb8 b) ++ bl l := rfl
theorem bl_len : ∀ l : List Int, (bl l).length = 8 * l.length
  | [] => rfl
  | b :: l => by rw [bl_cons, List.length_append, bl_len l, List.length_cons]; show 8 + _ = _; omega
/-- A byte's bit r, the highest first. -/
def bitOf (b : Int) (r : Nat) : Bool := (cb8 b).getLsbD (7 - r)
theorem cbits_get (b : Int) {r : Nat} (h : r < 8) : (cbits (cb8 b)).getD r false = bitOf b r := by
  unfold bitOf
  rcases (show r = 0 ∨ r = 1 ∨ r = 2 ∨ r = 3 ∨ r = 4 ∨ r = 5 ∨ r = 6 ∨ r = 7 by omega) with rfl | rfl | rfl | rfl | rfl | rfl | rfl | rfl <;> rfl
theorem bl_get : ∀ (l : List Int) (k : Nat), k < 8 * l.length → (bl l).getD k false = bitOf (byAt l (k / 8)) (k % 8)
  | [], k, h => by simp at h
  | b :: l, k, h => by
    rw [bl_cons]
    by_cases hk : k < 8
    · have e : (cbits (cb8 b)).length = 8 := rfl
      rw [List.getD_eq_getElem?_getD, List.getElem?_append_left (by omega), ← List.getD_eq_getElem?_getD, cbits_get b hk, Nat.div_eq_of_lt hk, Nat.mod_eq_of_lt hk]
      rfl
    · have e : (cbits (cb8 b)).length = 8 := rfl
      obtain ⟨j, rfl⟩ : ∃ j, k = j + 8 := ⟨k - 8, by omega⟩
      rw [List.getD_eq_getElem?_getD, List.getElem?_append_right (by omega), ← List.getD_eq_getElem?_getD, e, Nat.add_sub_cancel, bl_get l j (by simp at h; omega)]
      have e1 : (j + 8) / 8 = j / 8 + 1 := by omega
      have e2 : (j + 8) % 8 = j % 8 := by omega
      rw [e1, e2]
      rfl
theorem bl_none {l : List Int} {k : Nat} (h : 8 * l.length ≤ k) : (bl l).getD k false = false := by
  rw [List.getD_eq_getElem?_getD, List.getElem?_eq_none (by rw [bl_len]; exact h)]
  rfl
theorem cOf_bl : ∀ (l : List Int) (c : BitVec 16), cOf c (l.map cb8) = (bl l).foldl cu c
  | [], _ => rfl
  | b :: l, c => by
    show cOf (ct c (cb8 b)) (l.map cb8) = _
    rw [cOf_bl l, bl_cons, List.foldl_append, ct_bits]
theorem wOn_bl (l : List Int) : wOn 65535 l = cv ((bl l).foldl cu (cw 65535)) := by
  have := wOf_bv l (cw 65535)
  rw [cv_cw] at this
  show l.foldl wCt 65535 = _
  rw [← cOf_bl]
  exact this
theorem cu_xor (x y : BitVec 16) (a b : Bool) : cu (x ^^^ y) (a ^^ b) = cu x a ^^^ cu y b := by
  unfold cu
  rw [← cbs_xor]
  congr 1
  have h : (if (a ^^ b) = true then 32768#16 else 0#16) = (if a = true then 32768#16 else 0#16) ^^^ (if b = true then 32768#16 else 0#16) := by
    cases a <;> cases b <;> rfl
  rw [h, BitVec.xor_assoc, BitVec.xor_assoc]
  congr 1
  rw [← BitVec.xor_assoc, BitVec.xor_comm y, BitVec.xor_assoc]
theorem fold_xor : ∀ (a b : List Bool) (x y : BitVec 16), a.length = b.length → (List.zipWith (· ^^ ·) a b).foldl cu (x ^^^ y) = a.foldl cu x ^^^ b.foldl cu y
  | [], [], _, _, _ => rfl
  | a :: l, b :: m, x, y, h => by
    show (List.zipWith (· ^^ ·) l m).foldl cu (cu (x ^^^ y) (a ^^ b)) = l.foldl cu (cu x a) ^^^ m.foldl cu (cu y b)
    rw [cu_xor]
    exact fold_xor l m _ _ (by simpa using h)
theorem zip_get (a b : List Bool) (h : a.length = b.length) (k : Nat) : (List.zipWith (· ^^ ·) a b).getD k false = (a.getD k false ^^ b.getD k false) := by
  simp only [List.getD_eq_getElem?_getD, List.getElem?_zipWith]
  by_cases hk : k < a.length
  · rw [List.getElem?_eq_getElem hk, List.getElem?_eq_getElem (by omega)]
    rfl
  · rw [List.getElem?_eq_none (by omega), List.getElem?_eq_none (by omega)]
    rfl
/-- Of sealed bytes of which some are other ones, within 16 bits side by side, that is told. -/
theorem turned_told {l m : List Int} (hl : wOn 65535 l = 0) (hlen : m.length = l.length) (at' : Nat) (h1 : ∀ k, k < 8 * l.length → (bl l).getD k false ≠ (bl m).getD k false → at' ≤ k ∧ k < at' + 16)
    (h2 : ∃ k, k < 8 * l.length ∧ (bl l).getD k false ≠ (bl m).getD k false) : wOn 65535 m ≠ 0 := by
  intro hm
  rw [wOn_bl] at hl hm
  have e1 : (bl l).foldl cu (cw 65535) = 0#16 := cv_inj hl
  have e2 : (bl m).foldl cu (cw 65535) = 0#16 := cv_inj hm
  have hb : (bl l).length = (bl m).length := by rw [bl_len, bl_len, hlen]
  have hf := fold_xor (bl l) (bl m) (cw 65535) (cw 65535) hb
  rw [e1, e2, BitVec.xor_self, BitVec.xor_self] at hf
  refine burst_told _ at' (fun k hk => ?_) ?_ hf
  · rw [zip_get _ _ hb] at hk
    by_cases hlt : k < 8 * l.length
    · exact h1 k hlt (fun e => by rw [e, Bool.xor_self] at hk; cases hk)
    · rw [bl_none (by omega), bl_none (by omega)] at hk
      cases hk
  · obtain ⟨k, _, hk⟩ := h2
    refine ⟨k, ?_⟩
    rw [zip_get _ _ hb]
    revert hk
    cases (bl l).getD k false <;> cases (bl m).getD k false <;> simp
/-- The bit at place p is turned. -/
def turnAt (l : List Int) (p : Nat) : List Int := l.set (p / 8) (x8 (byAt l (p / 8)) (128 / 2 ^ (p % 8)))
theorem turnAt_len (l : List Int) (p : Nat) : (turnAt l p).length = l.length := by unfold turnAt; simp
theorem turnAt_bd {l : List Int} (h : Bd8 l) (p : Nat) : Bd8 (turnAt l p) := by
  intro x hx
  rcases List.mem_or_eq_of_mem_set hx with h' | rfl
  · exact h x h'
  · exact x8_bd _ _
theorem burst_mask : ((List.range 8).all fun r => (List.range 8).all fun q => (cb8 (128 / 2 ^ r)).getLsbD (7 - q) == decide (q = r)) = true := by decide
theorem turnAt_get (l : List Int) (p k : Nat) (hk : k < 8 * l.length) : (bl (turnAt l p)).getD k false = ((bl l).getD k false ^^ decide (k = p)) := by
  rw [bl_get _ k (by rw [turnAt_len]; exact hk), bl_get _ k hk]
  unfold turnAt
  by_cases h : p / 8 = k / 8
  · have e : byAt (l.set (p / 8) (x8 (byAt l (p / 8)) (128 / 2 ^ (p % 8)))) (k / 8) = x8 (byAt l (k / 8)) (128 / 2 ^ (p % 8)) := by
      rw [h]
      conv => lhs; unfold byAt
      rw [List.getD_eq_getElem?_getD, List.getElem?_set_self (by omega)]
      rfl
    rw [e]
    unfold bitOf
    rw [cb8_x8, BitVec.getLsbD_xor]
    congr 1
    have := List.all_eq_true.1 (List.all_eq_true.1 burst_mask (p % 8) (List.mem_range.2 (by omega))) (k % 8) (List.mem_range.2 (by omega))
    rw [beq_iff_eq.1 this]
    apply decide_eq_decide.2
    constructor
    · intro; omega
    · intro; omega
  · have e : byAt (l.set (p / 8) (x8 (byAt l (p / 8)) (128 / 2 ^ (p % 8)))) (k / 8) = byAt l (k / 8) := by
      unfold byAt
      rw [List.getD_eq_getElem?_getD, List.getElem?_set_ne h, ← List.getD_eq_getElem?_getD]
    rw [e, decide_eq_false (fun e => h (by rw [e])), Bool.xor_false]
/-- Bit i of sixteen, the highest first. -/
def xb (x : Int) (i : Nat) : Int := x / 2 ^ (15 - i) % 2
/-- Whether round i turns a bit: it is a 1, and its place is one of the text's. -/
def turns (x : Int) (A L i : Nat) : Prop := xb x i = 1 ∧ A + i < 8 * L
instance (x : Int) (A L i : Nat) : Decidable (turns x A L i) := by unfold turns; exact inferInstance
/-- The text behind i rounds. -/
def turnedTo (x : Int) (A : Nat) (l : List Int) : Nat → List Int
  | 0 => l
  | i + 1 => if turns x A l.length i then turnAt (turnedTo x A l i) (A + i) else turnedTo x A l i
/-- Whether any bit was turned. -/
def anyTo (x : Int) (A L : Nat) : Nat → Bool
  | 0 => false
  | i + 1 => if turns x A L i then true else anyTo x A L i
theorem turnedTo_len (x : Int) (A : Nat) (l : List Int) : ∀ i, (turnedTo x A l i).length = l.length
  | 0 => rfl
  | i + 1 => by
    unfold turnedTo
    split
    · rw [turnAt_len, turnedTo_len x A l i]
    · exact turnedTo_len x A l i
theorem turnedTo_bd (x : Int) (A : Nat) {l : List Int} (h : Bd8 l) : ∀ i, Bd8 (turnedTo x A l i)
  | 0 => h
  | i + 1 => by
    unfold turnedTo
    split
    · exact turnAt_bd (turnedTo_bd x A h i) _
    · exact turnedTo_bd x A h i
theorem turnedTo_get (x : Int) (A : Nat) (l : List Int) (k : Nat) (hk : k < 8 * l.length) : ∀ i, (bl (turnedTo x A l i)).getD k false = ((bl l).getD k false ^^ decide (A ≤ k ∧ k < A + i ∧ xb x (k - A) = 1))
  | 0 => by
    rw [decide_eq_false (by omega), Bool.xor_false]; rfl
  | i + 1 => by
    have ih := turnedTo_get x A l k hk i
    unfold turnedTo
    by_cases ht : turns x A l.length i
    · rw [if_pos ht, turnAt_get _ _ _ (by rw [turnedTo_len]; exact hk), ih]
      by_cases hki : k = A + i
      · subst hki
        have h1 := ht.1
        rw [decide_eq_false (by omega), decide_eq_true rfl, decide_eq_true (by refine ⟨by omega, by omega, ?_⟩; rw [Nat.add_sub_cancel_left]; exact h1)]
        simp
      · rw [decide_eq_false hki, Bool.xor_false]
        congr 1
        apply decide_eq_decide.2
        constructor
        · rintro ⟨a, b, c⟩; exact ⟨a, by omega, c⟩
        · rintro ⟨a, b, c⟩; exact ⟨a, by omega, c⟩
    · rw [if_neg ht, ih]
      congr 1
      apply decide_eq_decide.2
      constructor
      · rintro ⟨a, b, c⟩; exact ⟨a, by omega, c⟩
      · rintro ⟨a, b, c⟩
        refine ⟨a, ?_, c⟩
        rcases Nat.lt_or_ge k (A + i) with h | h
        · exact h
        · obtain rfl : k = A + i := by omega
          rw [Nat.add_sub_cancel_left] at c
          exact absurd ⟨c, hk⟩ ht
theorem anyTo_iff (x : Int) (A L : Nat) : ∀ i, anyTo x A L i = true ↔ ∃ j, j < i ∧ turns x A L j
  | 0 => by simp [anyTo]
  | i + 1 => by
    unfold anyTo
    by_cases ht : turns x A L i
    · rw [if_pos ht]
      exact ⟨fun _ => ⟨i, by omega, ht⟩, fun _ => rfl⟩
    · rw [if_neg ht, anyTo_iff x A L i]
      constructor
      · rintro ⟨j, hj, h⟩; exact ⟨j, by omega, h⟩
      · rintro ⟨j, hj, h⟩
        rcases Nat.lt_or_ge j i with h' | h'
        · exact ⟨j, h', h⟩
        · obtain rfl : j = i := by omega
          exact absurd h ht
theorem turnedTo_same (x : Int) (A : Nat) (l : List Int) : ∀ i, anyTo x A l.length i = false → turnedTo x A l i = l
  | 0, _ => rfl
  | i + 1, h => by
    unfold anyTo at h
    unfold turnedTo
    by_cases ht : turns x A l.length i
    · rw [if_pos ht] at h; cases h
    · rw [if_neg ht] at h ⊢
      exact turnedTo_same x A l i h
/-- What is opened of bytes whose sum is not 0, and of sealed ones. -/
theorem openOf_bad {m : List Int} (h2 : 2 ≤ m.length) (h : wOn 65535 m ≠ 0) : openOf m = ([], 7) := by
  unfold openOf
  rw [if_neg (by omega), if_neg]
  intro ho
  have := (okSum_seal h2).1 ho
  apply h
  rw [← this]
  exact wOn_seal _
theorem openOf_seal (l : List Int) : openOf (sealOf l) = (l, 0) := by
  have hl := sealOf_len l
  have ht : (sealOf l).take ((sealOf l).length - 2) = l := by
    rw [hl, Nat.add_sub_cancel]
    unfold sealOf
    exact List.take_left
  unfold openOf
  rw [if_neg (by omega), if_pos ((okSum_seal (by omega)).2 (by rw [ht])), ht]
theorem openOf_turned (l : List Int) (x : Int) (A : Nat) : openOf (turnedTo x A (sealOf l) 16) = if anyTo x A (sealOf l).length 16 = true then ([], 7) else (l, 0) := by
  by_cases h : anyTo x A (sealOf l).length 16 = true
  · rw [if_pos h]
    refine openOf_bad (by rw [turnedTo_len, sealOf_len]; omega) ?_
    refine turned_told (wOn_seal l) (turnedTo_len _ _ _ _) A (fun k hk hne => ?_) ?_
    · rw [turnedTo_get _ _ _ _ hk] at hne
      by_cases hc : A ≤ k ∧ k < A + 16 ∧ xb x (k - A) = 1
      · exact ⟨hc.1, hc.2.1⟩
      · rw [decide_eq_false hc, Bool.xor_false] at hne
        exact absurd rfl hne
    · obtain ⟨j, hj, ht⟩ := (anyTo_iff _ _ _ _).1 h
      refine ⟨A + j, ht.2, ?_⟩
      rw [turnedTo_get _ _ _ _ ht.2, decide_eq_true (by refine ⟨by omega, by omega, ?_⟩; rw [Nat.add_sub_cancel_left]; exact ht.1)]
      cases (bl (sealOf l)).getD (A + j) false <;> simp
  · rw [if_neg h, turnedTo_same _ _ _ _ (by simpa using h), openOf_seal]
theorem xb_walk {x : Int} (i : Nat) : bits .and .u16 (x / 2 ^ (15 - i)) 1 = xb x i := by
  have e := bits_and_mask .u16 1 (by decide) (x / 2 ^ (15 - i))
  have e1 : ((2 : Int) ^ 1 - 1) = 1 := by decide
  rw [e1] at e
  rw [e]
  unfold xb
  generalize x / 2 ^ (15 - i) = y
  simp [IntKind.wrap, IntKind.bits, IntKind.signed]
  omega
theorem turnedTo_yes {x : Int} {A : Nat} {l : List Int} {i : Nat} (h : turns x A l.length i) : turnedTo x A l (i + 1) = turnAt (turnedTo x A l i) (A + i) := by
  conv => lhs; unfold turnedTo
  rw [if_pos h]
theorem turnedTo_no {x : Int} {A : Nat} {l : List Int} {i : Nat} (h : ¬ turns x A l.length i) : turnedTo x A l (i + 1) = turnedTo x A l i := by
  conv => lhs; unfold turnedTo
  rw [if_neg h]
theorem anyTo_yes {x : Int} {A L i : Nat} (h : turns x A L i) : anyTo x A L (i + 1) = true := by
  unfold anyTo; rw [if_pos h]
theorem anyTo_no {x : Int} {A L i : Nat} (h : ¬ turns x A L i) : anyTo x A L (i + 1) = anyTo x A L i := by
  conv => lhs; unfold anyTo
  rw [if_neg h]
end Go.Proofs.YtochnjbacglhbaaDoor
