/- Sums of bytes: four bits at once by a table, and lists of bytes. Nothing of any program. -/
import Derived.Test.YtochnjbacglhbaaDoorCrcD
import Derived.Test.YtochnjbacglhbaaDoorMem
namespace Go.Proofs.YtochnjbacglhbaaDoor
open Go.RowKit

/-- What a sum is xored with when its highest four bits leave it. -/
def crcFour (k : Nat) : Int := cv (cpow 4 (BitVec.ofNat 16 (4096 * k)))
/-- Four of a step's eight doublings. -/
def wHalf (s : Int) : Int := cv (cpow 4 (cw s))
theorem wHalf_bd (s : Int) : 0 ≤ wHalf s ∧ wHalf s < 65536 := cv_bd _
theorem low4_all : ((List.range 4096).all fun n => decide (cpow 4 (BitVec.ofNat 16 n) = BitVec.ofNat 16 n <<< 4)) = true := by decide +kernel
theorem cw_nat (n : Nat) : cw (n : Int) = BitVec.ofNat 16 n := by
  apply BitVec.eq_of_toNat_eq
  unfold cw
  rw [BitVec.toNat_ofInt, BitVec.toNat_ofNat]
  simp
  omega
theorem bv_or_xor (s : Nat) (hs : s < 65536) : BitVec.ofNat 16 s = BitVec.ofNat 16 (4096 * (s / 4096)) ^^^ BitVec.ofNat 16 (s % 4096) := by
  apply BitVec.eq_of_toNat_eq
  rw [BitVec.toNat_xor, BitVec.toNat_ofNat, BitVec.toNat_ofNat, BitVec.toNat_ofNat, Nat.mod_eq_of_lt (by omega), Nat.mod_eq_of_lt (by omega), Nat.mod_eq_of_lt (by omega)]
  apply Nat.eq_of_testBit_eq
  intro i
  rw [Nat.testBit_xor]
  have h1 : (4096 * (s / 4096)).testBit i = (decide (12 ≤ i) && s.testBit i) := by
    rw [show 4096 * (s / 4096) = 2 ^ 12 * (s / 2 ^ 12) from rfl, Nat.testBit_two_pow_mul, Nat.testBit_div_two_pow]
    by_cases h : 12 ≤ i
    · simp [h, Nat.sub_add_cancel h]
    · simp [h]
  have h2 : (s % 4096).testBit i = (decide (i < 12) && s.testBit i) := by
    rw [show s % 4096 = s % 2 ^ 12 from rfl, Nat.testBit_mod_two_pow]
  rw [h1, h2]
  by_cases h : 12 ≤ i
  · simp [h, Nat.not_lt.2 h]
  · simp [h, Nat.lt_of_not_le h]
theorem half_num {s : Nat} (hs : s < 65536) : wHalf s = wXr ((16 * s % 65536 : Nat) : Int) (crcFour (s / 4096)) := by
  unfold wHalf wXr crcFour
  rw [cw_cv, cw_nat, cw_nat, bv_or_xor s hs, cpow_xor]
  have f := List.all_eq_true.1 low4_all (s % 4096) (List.mem_range.2 (Nat.mod_lt _ (by decide)))
  simp only [decide_eq_true_eq] at f
  rw [f, BitVec.xor_comm]
  congr 2
  apply BitVec.eq_of_toNat_eq
  rw [BitVec.toNat_shiftLeft, Nat.shiftLeft_eq, BitVec.toNat_ofNat, BitVec.toNat_ofNat]
  omega
/-- 'xor' of numbers of 16 bits, in a walk's words. -/
theorem bits_u16_xor {x y : Int} : bits .xor .u16 x y = wXr x y := by
  show IntKind.u16.wrap ((cw x ^^^ cw y).toNat : Int) = ((cw x ^^^ cw y).toNat : Int)
  have := (cw x ^^^ cw y).isLt
  generalize (cw x ^^^ cw y).toNat = n at *
  simp [IntKind.wrap, IntKind.bits, IntKind.signed]
  omega
theorem half_walk {s : Nat} (hs : s < 65536) : bits .xor .u16 (IntKind.u16.wrap (s * 16)) (crcFour (s / 4096)) = wHalf s := by
  rw [bits_u16_xor, half_num hs]
  congr 1
  simp [IntKind.wrap, IntKind.bits, IntKind.signed]
  omega
theorem cpow_add (m n : Nat) (x : BitVec 16) : cpow (m + n) x = cpow n (cpow m x) := by
  induction m generalizing x with
  | zero => simp [cpow]
  | succ m ih => rw [Nat.succ_add]; show cpow (m + n) (cbs x) = cpow n (cpow m (cbs x)); exact ih _
/-- A byte's step is two halves. -/
theorem ct_half {c b : Int} (h1 : 0 ≤ b) (h2 : b ≤ 255) : wHalf (wHalf (wXr (c % 65536) (256 * b))) = wCt c b := by
  rw [← ctI_8 h1 h2]
  unfold wHalf wXr
  rw [cw_cv, cw_cv, ← cpow_add, cw_mod]
  have e : ∀ k, ctI c b k = cpow k (cw c ^^^ cw (256 * b)) := by
    intro k
    induction k with
    | zero => rfl
    | succ k ih => show cbs (ctI c b k) = _; rw [ih, cpow_succ]
  rw [e]
theorem step_walk {c b : Int} : bits .xor .u16 (IntKind.u16.wrap c) (b * 256) = wXr (c % 65536) (256 * b) := by
  rw [bits_u16_xor, Int.mul_comm]
  congr 1
/-- The sum of bytes, from c on. -/
def wOn (c : Int) (l : List Int) : Int := l.foldl wCt c
theorem wOn_bd {c : Int} (h1 : 0 ≤ c) (h2 : c < 65536) (l : List Int) : 0 ≤ wOn c l ∧ wOn c l < 65536 := by
  unfold wOn
  rcases List.eq_nil_or_concat l with rfl | ⟨m, b, rfl⟩
  · exact ⟨h1, h2⟩
  · rw [List.concat_eq_append, List.foldl_append]; exact wCt_bd _ _
theorem wOn_snoc {c : Int} {l : List Int} {k : Nat} (h : k < l.length) : wOn c (l.take (k + 1)) = wCt (wOn c (l.take k)) (byAt l k) := by
  unfold wOn
  rw [take_snoc8 h, List.foldl_append]
  rfl
theorem wOn_append (c : Int) (l m : List Int) : wOn c (l ++ m) = wOn (wOn c l) m := List.foldl_append ..
theorem wOn_take {c : Int} {l : List Int} {n : Nat} (h : l.length ≤ n) : wOn c (l.take n) = wOn c l := by rw [List.take_of_length_le h]
/-- A sum's two bytes. -/
def tailOf (l : List Int) : List Int := [wOn 65535 l / 256, wOn 65535 l % 256]
theorem tailOf_bd (l : List Int) : Bd8 (tailOf l) := by
  have := wOn_bd (c := 65535) (by decide) (by decide) l
  exact Bd8.cons (by omega) (by omega) (Bd8.cons (by omega) (by omega) Bd8.nil)
/-- Sealed bytes. -/
def sealOf (l : List Int) : List Int := l ++ tailOf l
theorem sealOf_len (l : List Int) : (sealOf l).length = l.length + 2 := by simp [sealOf, tailOf]
theorem sealOf_bd {l : List Int} (h : Bd8 l) : Bd8 (sealOf l) := h.append (tailOf_bd l)
/-- Whether bytes are right: the last two are the sum of those ahead. -/
def okSum (l : List Int) : Prop := l.drop (l.length - 2) = tailOf (l.take (l.length - 2))
instance (l : List Int) : Decidable (okSum l) := by unfold okSum; exact inferInstance
/-- What is opened, and the error. -/
def openOf (l : List Int) : List Int × Int := if l.length < 2 then ([], 4) else if okSum l then (l.take (l.length - 2), 0) else ([], 7)
theorem okSum_seal {l : List Int} (h : 2 ≤ l.length) : okSum l ↔ sealOf (l.take (l.length - 2)) = l := by
  unfold okSum sealOf
  constructor
  · intro e; rw [← e, List.take_append_drop]
  · intro e
    have := congrArg (List.drop (l.length - 2)) e
    rw [List.drop_append_of_le_length (by rw [List.length_take]; omega), List.drop_take_self, List.nil_append] at this
    exact this.symm
theorem cb8_hi (x : BitVec 16) : cb8 (cv x / 256) = (x >>> 8).setWidth 8 := by
  apply BitVec.eq_of_toNat_eq
  unfold cb8 cv
  rw [BitVec.toNat_ofInt, BitVec.toNat_setWidth, BitVec.toNat_ushiftRight, Nat.shiftRight_eq_div_pow]
  have := x.isLt
  omega
theorem cb8_lo (x : BitVec 16) : cb8 (cv x % 256) = x.setWidth 8 := by
  apply BitVec.eq_of_toNat_eq
  unfold cb8 cv
  rw [BitVec.toNat_ofInt, BitVec.toNat_setWidth]
  have := x.isLt
  omega
/-- Nothing is left of sealed bytes. -/
theorem wOn_seal (l : List Int) : wOn 65535 (sealOf l) = 0 := by
  unfold sealOf tailOf
  rw [wOn_append]
  obtain ⟨x, hx⟩ : ∃ x, wOn 65535 l = cv x := ⟨_, (show wOn 65535 l = cv (cOf (cw 65535) (l.map cb8)) by
    have := wOf_bv l (cw 65535)
    rw [cv_cw] at this
    exact this)⟩
  rw [hx]
  show wCt (wCt (cv x) (cv x / 256)) (cv x % 256) = 0
  unfold wCt
  rw [cw_cv, cw_cv, cb8_hi, cb8_lo, seal_none]
  rfl
/-- Two bytes, xored. -/
def x8 (a b : Int) : Int := ((cb8 a ^^^ cb8 b).toNat : Int)
theorem x8_bd (a b : Int) : 0 ≤ x8 a b ∧ x8 a b ≤ 255 := by
  have := (cb8 a ^^^ cb8 b).isLt
  unfold x8; omega
theorem bits_u8_xor {x y : Int} : bits .xor .u8 x y = x8 x y := by
  show IntKind.u8.wrap ((cb8 x ^^^ cb8 y).toNat : Int) = ((cb8 x ^^^ cb8 y).toNat : Int)
  have := (cb8 x ^^^ cb8 y).isLt
  generalize (cb8 x ^^^ cb8 y).toNat = n at *
  simp [IntKind.wrap, IntKind.bits, IntKind.signed]
  omega
theorem cb8_nat (b : BitVec 8) : cb8 (b.toNat : Int) = b := by
  apply BitVec.eq_of_toNat_eq
  unfold cb8
  rw [BitVec.toNat_ofInt]
  have := b.isLt
  omega
theorem cb8_x8 (a b : Int) : cb8 (x8 a b) = cb8 a ^^^ cb8 b := cb8_nat _
theorem wXr_i32 {a b : Int} (a1 : 0 ≤ a) (a2 : a < 65536) (b1 : 0 ≤ b) (b2 : b < 65536) : bits .xor .i32 a b = wXr a b := by
  obtain ⟨a, rfl⟩ : ∃ n : Nat, a = n := ⟨a.toNat, by omega⟩
  obtain ⟨b, rfl⟩ : ∃ n : Nat, b = n := ⟨b.toNat, by omega⟩
  have hx : a ^^^ b < 2 ^ 16 := Nat.xor_lt_two_pow (by omega) (by omega)
  rw [wXr_nat (by omega) (by omega), bits_i32_xor, sg_us]
  have h : us (wd (a : Int) ^^^ wd (b : Int)) = ((a ^^^ b : Nat) : Int) := by
    unfold us
    rw [BitVec.toNat_xor]
    have ha := us_wd (a : Int)
    have hb := us_wd (b : Int)
    unfold us at ha hb
    have ha' : (wd (a : Int)).toNat = a := by omega
    have hb' : (wd (b : Int)).toNat = b := by omega
    rw [ha', hb']
  rw [h]
  unfold wrap32
  omega
theorem wCt_xor (s t a b : Int) : wCt (wXr s t) (x8 a b) = wXr (wCt s a) (wCt t b) := by
  unfold wCt
  rw [cb8_x8]
  unfold wXr
  rw [cw_cv, cw_cv, cw_cv, ct_xor]
/-- Three texts, xored byte by byte: the first n. -/
def join3 (l m r : List Int) (n : Nat) : List Int := (List.range n).map fun i => x8 (x8 (byAt l i) (byAt m i)) (byAt r i)
theorem join3_succ (l m r : List Int) (n : Nat) : join3 l m r (n + 1) = join3 l m r n ++ [x8 (x8 (byAt l n) (byAt m n)) (byAt r n)] := by
  unfold join3; rw [List.range_succ, List.map_append]; rfl
theorem join3_len (l m r : List Int) (n : Nat) : (join3 l m r n).length = n := by unfold join3; simp
theorem join3_bd (l m r : List Int) (n : Nat) : Bd8 (join3 l m r n) := by
  intro x hx
  unfold join3 at hx
  obtain ⟨i, _, rfl⟩ := List.mem_map.1 hx
  exact x8_bd _ _
theorem wOn_join3 (l m r : List Int) : ∀ n : Nat, n ≤ l.length → n ≤ m.length → n ≤ r.length →
    wOn 65535 (join3 l m r n) = wXr (wXr (wOn 65535 (l.take n)) (wOn 65535 (m.take n))) (wOn 65535 (r.take n))
  | 0, _, _, _ => by
    show (65535 : Int) = wXr (wXr 65535 65535) 65535
    decide
  | n + 1, h1, h2, h3 => by
    rw [wOn_snoc (by omega), wOn_snoc (by omega), wOn_snoc (by omega), ← wCt_xor, ← wCt_xor, ← wOn_join3 l m r n (by omega) (by omega) (by omega), join3_succ, wOn_append]
    rfl
end Go.Proofs.YtochnjbacglhbaaDoor
