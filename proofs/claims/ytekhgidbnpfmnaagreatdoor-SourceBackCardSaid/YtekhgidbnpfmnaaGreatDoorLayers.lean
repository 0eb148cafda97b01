/- What the functions of packages word, shift, pick, sat, fix and ops answer. Conditions: the numbers are of the kinds of the parameters. -/
import Derived.Test.YtekhgidbnpfmnaaGreatDoorProg
import Derived.Test.YtekhgidbnpfmnaaGreatDoorNum
import Derived.Handy
import Derived.Lib.Hide
import Derived.Deep.QuietTactic
import Derived.BigQuiet
import Derived.WalkSmall
import Derived.Lib.BitFns
import Derived.RegionTactic
import Derived.ChangeAlike
import Derived.Laws.Rows
import Derived.PlainAid
namespace Go.Proofs.YtekhgidbnpfmnaaGreatDoor
open Go.RowKit

theorem ret_int {k : IntKind} {a b : Int} (h : a = b) : Ending.returned (.int k a) = .returned (.int k b) := by rw [h]

/-- A call that leaves the world alone, within a region that draws its order. -/
theorem quiet_here {P : Program} {f : FuncId} {args : Array Value} {w : World} {n : Nat} {v : Value}
    (h : Calls P f args (w.drewN n) fun e w' => e = .returned v ∧ w.drewN n = w') : Calls P f args (w.drewN n) fun e w'' => e = .returned v ∧ ∃ m, w'' = w.drewN m :=
  h.mono fun _ _ ⟨he, hm⟩ => ⟨he, n, hm.symm⟩

theorem len_at (y : Int) (x s : Nat) (h1 : y ≤ 255) (hx : ((x / 2 ^ s : Nat) : Int) = y) (hs : 2 ^ s ≤ x) (hl : x < 2 ^ 64) :
    (s : Int) + Lib.len8 y = (Lib.bitLen x : Int) := by
  have h0 : 0 ≤ y := by rw [← hx]; exact Int.natCast_nonneg _
  have e : y.toNat = x / 2 ^ s := by rw [← hx]; exact Int.toNat_natCast _
  rw [Lib.len8_of y h0 h1, Lib.bitLen_shift s x hs hl, e]
  omega
theorem len8_bd (y : Int) (h0 : 0 ≤ y) (h1 : y ≤ 255) : 0 ≤ Lib.len8 y ∧ Lib.len8 y ≤ 8 := by
  rw [Lib.len8_of y h0 h1]
  have := Lib.bitLen_le8' y h0 h1
  omega

theorem pop8_fin : ∀ n : Fin 256, Lib.pop8 (n.val : Int) = ((BitVec.ofNat 8 n.val).cpop.toNat : Int) := by decide +kernel
theorem pop8_of (b : BitVec 8) (y : Int) (h : y = (b.toNat : Int)) : Lib.pop8 y = (b.cpop.toNat : Int) := by
  subst h
  have := pop8_fin ⟨b.toNat, b.isLt⟩
  rw [this]; simp
theorem four (b : BitVec 32) : b = b.extractLsb' 24 8 ++ (b.extractLsb' 16 8 ++ (b.extractLsb' 8 8 ++ b.extractLsb' 0 8)) := by
  apply BitVec.eq_of_getLsbD_eq
  intro i hi
  simp only [BitVec.getLsbD_append, BitVec.getLsbD_extractLsb']
  by_cases h1 : i < 8
  · simp [h1, show i < 8 + (8 + 8) by omega, show i < 8 + 8 by omega]
  · by_cases h2 : i < 16
    · simp [h1, show i < 8 + (8 + 8) by omega, show i < 8 + 8 by omega, show i - 8 < 8 by omega, show 8 + (i - 8) = i by omega]
    · by_cases h3 : i < 24
      · simp [h3, h2, show i - 16 < 8 by omega, show 16 + (i - 16) = i by omega]
      · simp [h3, show i - 24 < 8 by omega, show 24 + (i - 24) = i by omega]
theorem pop_sum (x : Int) (h0 : 0 ≤ x) (h1 : x ≤ 4294967295) :
    (Lib.pop8 (x / 16777216) + Lib.pop8 (bits .and .u32 (x / 65536) 255) + Lib.pop8 (bits .and .u32 (x / 256) 255) + Lib.pop8 (bits .and .u32 x 255)) % 256 = ((wd x).cpop.toNat : Int) := by
  have t : ((wd x).toNat : Int) = x := by
    have := us_wd x
    unfold us at this
    omega
  have e3 := pop8_of ((wd x).extractLsb' 24 8) (x / 16777216) (by rw [BitVec.extractLsb'_toNat, Nat.shiftRight_eq_div_pow]; omega)
  have e2 := pop8_of ((wd x).extractLsb' 16 8) (bits .and .u32 (x / 65536) 255) (by rw [and_u32_8, BitVec.extractLsb'_toNat, Nat.shiftRight_eq_div_pow]; omega)
  have e1 := pop8_of ((wd x).extractLsb' 8 8) (bits .and .u32 (x / 256) 255) (by rw [and_u32_8, BitVec.extractLsb'_toNat, Nat.shiftRight_eq_div_pow]; omega)
  have e0 := pop8_of ((wd x).extractLsb' 0 8) (bits .and .u32 x 255) (by rw [and_u32_8, BitVec.extractLsb'_toNat, Nat.shiftRight_eq_div_pow]; omega)
  have c : (wd x).cpop.toNat = ((wd x).extractLsb' 24 8).cpop.toNat + (((wd x).extractLsb' 16 8).cpop.toNat + (((wd x).extractLsb' 8 8).cpop.toNat + ((wd x).extractLsb' 0 8).cpop.toNat)) := by
    have h := congrArg (fun b : BitVec 32 => b.cpop.toNat) (four (wd x))
    rw [BitVec.toNat_cpop_append, BitVec.toNat_cpop_append, BitVec.toNat_cpop_append] at h
    exact h
  have l := BitVec.toNat_cpop_le (wd x)
  rw [e0, e1, e2, e3]
  omega

/-- Neighbours of a width change places. -/
def fl (k i : Nat) : Nat := if i / k % 2 = 0 then i + k else i - k
def swp (b M : BitVec 32) (k : Nat) : BitVec 32 := b >>> k &&& M ||| (b &&& M) <<< k
theorem swp_bit (b M : BitVec 32) (k : Nat) (hk : k = 1 ∨ k = 2 ∨ k = 4 ∨ k = 8 ∨ k = 16) (hM : ∀ i, i < 32 → M.getLsbD i = decide (i / k % 2 = 0)) (i : Nat) (hi : i < 32) :
    (swp b M k).getLsbD i = b.getLsbD (fl k i) := by
  unfold swp fl
  simp only [BitVec.getLsbD_or, BitVec.getLsbD_and, BitVec.getLsbD_ushiftRight, BitVec.getLsbD_shiftLeft, hi, decide_true, Bool.true_and]
  rw [hM i hi, hM (i - k) (by omega)]
  by_cases h : i / k % 2 = 0
  · have h2 : i < k ∨ ¬ (i - k) / k % 2 = 0 := by rcases hk with rfl | rfl | rfl | rfl | rfl <;> omega
    rw [if_pos h, Nat.add_comm i k]
    rcases h2 with h2 | h2 <;> simp [h, h2]
  · have h2 : ¬ i < k := by rcases hk with rfl | rfl | rfl | rfl | rfl <;> omega
    have h3 : (i - k) / k % 2 = 0 := by rcases hk with rfl | rfl | rfl | rfl | rfl <;> omega
    rw [if_neg h]
    simp [h, h2, h3]
theorem fl_lt (k i : Nat) (hk : k = 1 ∨ k = 2 ∨ k = 4 ∨ k = 8 ∨ k = 16) (hi : i < 32) : fl k i < 32 := by
  unfold fl
  rcases hk with rfl | rfl | rfl | rfl | rfl <;> split <;> omega
theorem fl_all : ∀ i : Fin 32, fl 1 (fl 2 (fl 4 (fl 8 (fl 16 i.val)))) = 31 - i.val := by decide

theorem mask_bit (M : BitVec 32) (k : Nat) (h : ∀ i : Fin 32, M.getLsbD i.val = decide (i.val / k % 2 = 0)) (i : Nat) (hi : i < 32) : M.getLsbD i = decide (i / k % 2 = 0) := h ⟨i, hi⟩
theorem m1 : ∀ i : Fin 32, (1431655765#32).getLsbD i.val = decide (i.val / 1 % 2 = 0) := by decide
theorem m2 : ∀ i : Fin 32, (858993459#32).getLsbD i.val = decide (i.val / 2 % 2 = 0) := by decide
theorem m4 : ∀ i : Fin 32, (252645135#32).getLsbD i.val = decide (i.val / 4 % 2 = 0) := by decide
theorem m8 : ∀ i : Fin 32, (16711935#32).getLsbD i.val = decide (i.val / 8 % 2 = 0) := by decide

def revB (b : BitVec 32) : BitVec 32 := swp b 16711935#32 8 >>> 16 ||| swp b 16711935#32 8 <<< 16
theorem half_bit (c : BitVec 32) (i : Nat) (hi : i < 32) : (c >>> 16 ||| c <<< 16).getLsbD i = c.getLsbD (fl 16 i) := by
  unfold fl
  simp only [BitVec.getLsbD_or, BitVec.getLsbD_ushiftRight, BitVec.getLsbD_shiftLeft, hi, decide_true, Bool.true_and]
  by_cases h : i < 16
  · rw [if_pos (by omega), Nat.add_comm i 16]; simp [h]
  · rw [if_neg (by omega), BitVec.getLsbD_of_ge c (16 + i) (by omega)]; simp [h]
theorem rev_bits (b : BitVec 32) : revB (swp (swp (swp b 1431655765#32 1) 858993459#32 2) 252645135#32 4) = b.reverse := by
  apply BitVec.eq_of_getLsbD_eq
  intro i hi
  have a16 := fl_lt 16 i (by omega) hi
  have a8 := fl_lt 8 _ (by omega) a16
  have a4 := fl_lt 4 _ (by omega) a8
  have a2 := fl_lt 2 _ (by omega) a4
  unfold revB
  rw [half_bit _ i hi, swp_bit _ _ 8 (by omega) (mask_bit _ 8 m8) _ a16, swp_bit _ _ 4 (by omega) (mask_bit _ 4 m4) _ a8, swp_bit _ _ 2 (by omega) (mask_bit _ 2 m2) _ a4,
    swp_bit _ _ 1 (by omega) (mask_bit _ 1 m1) _ a2, fl_all ⟨i, hi⟩, BitVec.getLsbD_reverse, BitVec.getMsbD]
  simp [hi]

theorem ret_u32 {a b : Int} (h : a = b) : Ending.returned (.int .u32 a) = .returned (.int .u32 b) := by rw [h]

theorem and_u64_31 (k : Nat) (hk : k < 32) : bits .and .u64 (k : Int) 31 = (k : Int) := by
  have h : ∀ i : Fin 32, bits .and .u64 (i.val : Int) 31 = (i.val : Int) := by decide
  exact h ⟨k, hk⟩

theorem swp_word (b M : BitVec 32) (k : Nat) (m p : Int) (hm : m = us M) (hp : p = 2 ^ k) :
    bits .or .u32 (bits .and .u32 (us b / p) m) (bits .and .u32 (us b) m * p % 4294967296) = us (swp b M k) := by
  subst hm hp
  unfold swp
  rw [bits_u32_and, bits_u32_and, us_shr, wd_us, wd_us, wd_us, ← us_wd, wd_mul_pow, bits_u32_or, wd_us, wd_us, wd_us]

/-- The sum of none, the first, or both of two. -/
def part (x y : Int) (k : Nat) : Int := if k = 0 then 0 else if k = 1 then x else x + y
/-- The one or the other of two. -/
def term (x y : Int) (k : Nat) : Int := if k = 0 then x else y
theorem part_step (x y : Int) {k : Nat} (h : k < 2) : part x y k + term x y k = part x y (k + 1) := by
  unfold part term; split <;> (try split) <;> (try split) <;> (try split) <;> omega
/-- The tables' cells lie in w as the program's text has them. -/
def shapesC : Array Value := #[.int .i64 1, .int .i64 23, .string ⟨#[100, 97, 98, 45]⟩, .int .i64 24, .int .i64 30, .string ⟨#[100, 97, 45, 45]⟩, .int .i64 31, .int .i64 31, .string ⟨#[100, 97, 45, 115]⟩, .int .i64 32, .int .i64 32, .string ⟨#[100, 97, 45, 117]⟩, .int .i64 33, .int .i64 33, .string ⟨#[100, 45, 45, 117]⟩, .int .i64 34, .int .i64 38, .string ⟨#[100, 97, 45, 117]⟩, .int .i64 39, .int .i64 39, .string ⟨#[45, 45, 45, 117]⟩, .int .i64 40, .int .i64 40, .string ⟨#[100, 45, 45, 117]⟩, .int .i64 41, .int .i64 41, .string ⟨#[45, 97, 45, 45]⟩, .int .i64 42, .int .i64 43, .string ⟨#[45, 45, 45, 45]⟩]
theorem infoShapes : (Tryz.prog.info? 173).map (·.size) = some 30 := by kernel_rfl

theorem shapes_at {k : Nat} (h : k < 10) (w : World) : (Instr.index 173 (.agg shapesC) (.int .i64 k)).run Tryz.prog w = .ok (.agg #[.int .i64 (loZ k), .int .i64 (hiZ k), .string (shZ k)]) w := by
  rcases (show k = 0 ∨ k = 1 ∨ k = 2 ∨ k = 3 ∨ k = 4 ∨ k = 5 ∨ k = 6 ∨ k = 7 ∨ k = 8 ∨ k = 9 by omega) with rfl | rfl | rfl | rfl | rfl | rfl | rfl | rfl | rfl | rfl
  all_goals kernel_rfl

theorem shape_is (n : Int) (w : World) {ty : TypeId} (hs : w.heap[1]? = some (.cells shapesC ty (0, 0))) :
    Calls Tryz.prog 91 #[.int .i64 n] w fun e w' => e = .returned (.string (wShape n)) ∧ Below w.heap.size w w' := by
  go_enter Tryz.func91, Tryz.ntmps91
  go_wp2_with (refine wpList_load_row rfl 173 _ rfl 1 rfl ty shapesC (0, 0) _ hs Tryz.underlying173 rfl infoShapes ?_)
  go_loopw [6] (fun i wr => ∃ k : Nat, k ≤ 10 ∧ i = .int .i64 k ∧ (n < 1 ∨ loZ k ≤ n) ∧ Below w.heap.size w wr) (fun i _ => 10 - (intOf i).toNat)
  case atStart => exact ⟨0, by omega, rfl, by simp [loZ]; omega, Below.refl _ _⟩
  case round =>
    obtain ⟨k, hk, rfl, hn, hb⟩ := hrel
    have hB := hb.size
    by_cases hlt : k < 10
    · have hx := fun w => shapes_at hlt w
      have L := lo_bd k
      have H := hi_bd hlt
      have E2 := Lib.hid (lo_next hlt)
      by_cases h1 : loZ k ≤ n
      · by_cases h2 : n ≤ hiZ k
        · have E := Lib.hid (wShape_at hlt h1 h2)
          go_wp2
          go_ret
          exact ⟨by rw [E.out]; rfl, hb.alloc hB _⟩
        · go_wp2
          go_roundw
          case rel => exact ⟨k + 1, by omega, by go_num, by rw [E2.out]; omega, hb.alloc hB _⟩
          case measure => simp [intOf]; omega
      · go_wp2
        go_roundw
        case rel => exact ⟨k + 1, by omega, by go_num, by left; omega, hb.alloc hB _⟩
        case measure => simp [intOf]; omega
    · have e : loZ k = 44 := by obtain rfl : k = 10 := by omega
                                rfl
      have E := Lib.hid (wShape_out (n := n) (by omega))
      clear e
      go_wp2
      go_ret
      exact ⟨by rw [E.out]; rfl, hb⟩

end Go.Proofs.YtekhgidbnpfmnaaGreatDoor
