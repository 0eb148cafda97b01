/- What the functions of packages word, shift, pick, sat, fix and ops answer. Conditions: the numbers are of the kinds of the parameters. -/
import Derived.Test.YtgmphfagflhglaaGreatDoorProg
import Derived.Test.YtgmphfagflhglaaGreatDoorNum
import Derived.Handy
import Derived.Lib.Hide
import Derived.Deep.QuietTactic
import Derived.BigQuiet
import Derived.WalkSmall
import Derived.Lib.BitFns
import Derived.RegionTactic
import Derived.ChangeAlike
import Derived.Laws.Rows
import Derived.PlainAid
namespace Go.Proofs.YtgmphfagflhglaaGreatDoor
open Go.RowKit

theorem ret_int {k : IntKind} {a b : Int} (h : a = b) : Ending.returned (.int k a) = .returned (.int k b) := by rw [h]

/-- A call that leaves the world alone, within a region that draws its order. -/
theorem quiet_here {P : Program} {f : FuncId} {args : Array Value} {w : World} {n : Nat} {v : Value}
    (h : Calls P f args (w.drewN n) fun e w' => e = .returned v ∧ w.drewN n = w') : Calls P f args (w.drewN n) fun e w'' => e = .returned v ∧ ∃ m, w'' = w.drewN m :=
  h.mono fun _ _ ⟨he, hm⟩ => ⟨he, n, hm.symm⟩

theorem low_is (x z : Int) (w : World) (h : wrap32 x = z) :
    Calls Tryz.prog 135 #[.int .i64 x] w fun e w' => e = .returned (.int .i32 z) ∧ w = w' := by
  subst h
  go_enter Tryz.func135, Tryz.ntmps135
  go_wp2
  go_ret
  exact ⟨rfl, rfl⟩

theorem high_is (x z : Int) (w : World) (h1 : -9223372036854775808 ≤ x) (h2 : x ≤ 9223372036854775807) (h : x / 4294967296 = z) :
    Calls Tryz.prog 137 #[.int .i64 x] w fun e w' => e = .returned (.int .i32 z) ∧ w = w' := by
  subst h
  go_enter Tryz.func137, Tryz.ntmps137
  go_wp2
  go_ret
  exact ⟨rfl, rfl⟩

theorem half_is (x z : Int) (w : World) (h : wrap16 x = z) :
    Calls Tryz.prog 142 #[.int .i32 x] w fun e w' => e = .returned (.int .i32 z) ∧ w = w' := by
  subst h
  go_enter Tryz.func142, Tryz.ntmps142
  go_wp2
  go_ret
  exact ⟨ret_int (by rw [wrap_i16, IntWalk.wrap32_in _ (by unfold wrap16; omega)]), rfl⟩

theorem len_at (y : Int) (x s : Nat) (h1 : y ≤ 255) (hx : ((x / 2 ^ s : Nat) : Int) = y) (hs : 2 ^ s ≤ x) (hl : x < 2 ^ 64) :
    (s : Int) + Lib.len8 y = (Lib.bitLen x : Int) := by
  have h0 : 0 ≤ y := by rw [← hx]; exact Int.natCast_nonneg _
  have e : y.toNat = x / 2 ^ s := by rw [← hx]; exact Int.toNat_natCast _
  rw [Lib.len8_of y h0 h1, Lib.bitLen_shift s x hs hl, e]
  omega
theorem len8_bd (y : Int) (h0 : 0 ≤ y) (h1 : y ≤ 255) : 0 ≤ Lib.len8 y ∧ Lib.len8 y ≤ 8 := by
  rw [Lib.len8_of y h0 h1]
  have := Lib.bitLen_le8' y h0 h1
  omega

set_option maxHeartbeats 4000000 in
set_option maxRecDepth 100000 in
theorem len32_is (x : Int) (w : World) (h0 : 0 ≤ x) (h1 : x ≤ 4294967295) :
    Calls Tryz.prog 124 #[.int .u32 x] w fun e w' => e = .returned (.int .i64 (Lib.bitLen x.toNat)) ∧ w = w' := by
  by_cases c1 : 65536 ≤ x
  · by_cases c2 : 256 ≤ x / 65536
    · have d0 : 0 ≤ x / 65536 / 256 := by omega
      have d1 : x / 65536 / 256 ≤ 255 := by omega
      have d2 := len8_bd _ d0 d1
      have e := Lib.hid (len_at (x / 65536 / 256) x.toNat 24 d1 (by omega) (by omega) (by omega))
      go_enter Tryz.func124, Tryz.ntmps124
      go_wp2
      go_ret
      exact ⟨ret_int e.out, rfl⟩
    · have d0 : 0 ≤ x / 65536 := by omega
      have d1 : x / 65536 ≤ 255 := by omega
      have d2 := len8_bd _ d0 d1
      have e := Lib.hid (len_at (x / 65536) x.toNat 16 d1 (by omega) (by omega) (by omega))
      go_enter Tryz.func124, Tryz.ntmps124
      go_wp2
      go_ret
      exact ⟨ret_int e.out, rfl⟩
  · by_cases c2 : 256 ≤ x
    · have d0 : 0 ≤ x / 256 := by omega
      have d1 : x / 256 ≤ 255 := by omega
      have d2 := len8_bd _ d0 d1
      have e := Lib.hid (len_at (x / 256) x.toNat 8 d1 (by omega) (by omega) (by omega))
      go_enter Tryz.func124, Tryz.ntmps124
      go_wp2
      go_ret
      exact ⟨ret_int e.out, rfl⟩
    · have d1 : x ≤ 255 := by omega
      have d2 := len8_bd _ h0 d1
      have e := Lib.hid (Lib.len8_of x h0 d1)
      go_enter Tryz.func124, Tryz.ntmps124
      go_wp2
      go_ret
      exact ⟨ret_int e.out, rfl⟩

theorem lead32_is (x : Int) (w : World) (h0 : 0 ≤ x) (h1 : x ≤ 4294967295) :
    Calls Tryz.prog 93 #[.int .u32 x] w fun e w' => e = .returned (.int .i64 ((wd x).clz.toNat : Int)) ∧ w = w' := by
  have c := clz_len (wd x)
  have t : (wd x).toNat = x.toNat := by
    have := us_wd x
    unfold us at this
    omega
  rw [t] at c
  have c0 : Lib.bitLen x.toNat ≤ 32 := Lib.bitLen_le _ _ (by decide) (by omega)
  have e := Lib.hid c
  clear c t
  go_enter Tryz.func93, Tryz.ntmps93
  go_wp2_with (go_at_call 124; refine (len32_is x _ h0 h1).mono ?_; rintro e w' ⟨rfl, rfl⟩)
  go_ret
  exact ⟨ret_int e.out.symm, rfl⟩

theorem pop8_fin : ∀ n : Fin 256, Lib.pop8 (n.val : Int) = ((BitVec.ofNat 8 n.val).cpop.toNat : Int) := by decide +kernel
theorem pop8_of (b : BitVec 8) (y : Int) (h : y = (b.toNat : Int)) : Lib.pop8 y = (b.cpop.toNat : Int) := by
  subst h
  have := pop8_fin ⟨b.toNat, b.isLt⟩
  rw [this]; simp
theorem four (b : BitVec 32) : b = b.extractLsb' 24 8 ++ (b.extractLsb' 16 8 ++ (b.extractLsb' 8 8 ++ b.extractLsb' 0 8)) := by
  apply BitVec.eq_of_getLsbD_eq
  intro i hi
  simp only [BitVec.getLsbD_append, BitVec.getLsbD_extractLsb']
  by_cases h1 : i < 8
  · simp [h1, show i < 8 + (8 + 8) by omega, show i < 8 + 8 by omega]
  · by_cases h2 : i < 16
    · simp [h1, show i < 8 + (8 + 8) by omega, show i < 8 + 8 by omega, show i - 8 < 8 by omega, show 8 + (i - 8) = i by omega]
    · by_cases h3 : i < 24
      · simp [h3, h2, show i - 16 < 8 by omega, show 16 + (i - 16) = i by omega]
      · simp [h3, show i - 24 < 8 by omega, show 24 + (i - 24) = i by omega]
theorem pop_sum (x : Int) (h0 : 0 ≤ x) (h1 : x ≤ 4294967295) :
    (Lib.pop8 (x / 16777216) + Lib.pop8 (bits .and .u32 (x / 65536) 255) + Lib.pop8 (bits .and .u32 (x / 256) 255) + Lib.pop8 (bits .and .u32 x 255)) % 256 = ((wd x).cpop.toNat : Int) := by
  have t : ((wd x).toNat : Int) = x := by
    have := us_wd x
    unfold us at this
    omega
  have e3 := pop8_of ((wd x).extractLsb' 24 8) (x / 16777216) (by rw [BitVec.extractLsb'_toNat, Nat.shiftRight_eq_div_pow]; omega)
  have e2 := pop8_of ((wd x).extractLsb' 16 8) (bits .and .u32 (x / 65536) 255) (by rw [and_u32_8, BitVec.extractLsb'_toNat, Nat.shiftRight_eq_div_pow]; omega)
  have e1 := pop8_of ((wd x).extractLsb' 8 8) (bits .and .u32 (x / 256) 255) (by rw [and_u32_8, BitVec.extractLsb'_toNat, Nat.shiftRight_eq_div_pow]; omega)
  have e0 := pop8_of ((wd x).extractLsb' 0 8) (bits .and .u32 x 255) (by rw [and_u32_8, BitVec.extractLsb'_toNat, Nat.shiftRight_eq_div_pow]; omega)
  have c : (wd x).cpop.toNat = ((wd x).extractLsb' 24 8).cpop.toNat + (((wd x).extractLsb' 16 8).cpop.toNat + (((wd x).extractLsb' 8 8).cpop.toNat + ((wd x).extractLsb' 0 8).cpop.toNat)) := by
    have h := congrArg (fun b : BitVec 32 => b.cpop.toNat) (four (wd x))
    rw [BitVec.toNat_cpop_append, BitVec.toNat_cpop_append, BitVec.toNat_cpop_append] at h
    exact h
  have l := BitVec.toNat_cpop_le (wd x)
  rw [e0, e1, e2, e3]
  omega

/-- Neighbours of a width change places. -/
def fl (k i : Nat) : Nat := if i / k % 2 = 0 then i + k else i - k
def swp (b M : BitVec 32) (k : Nat) : BitVec 32 := b >>> k &&& M ||| (b &&& M) <<< k
theorem swp_bit (b M : BitVec 32) (k : Nat) (hk : k = 1 ∨ k = 2 ∨ k = 4 ∨ k = 8 ∨ k = 16) (hM : ∀ i, i < 32 → M.getLsbD i = decide (i / k % 2 = 0)) (i : Nat) (hi : i < 32) :
    (swp b M k).getLsbD i = b.getLsbD (fl k i) := by
  unfold swp fl
  simp only [BitVec.getLsbD_or, BitVec.getLsbD_and, BitVec.getLsbD_ushiftRight, BitVec.getLsbD_shiftLeft, hi, decide_true, Bool.true_and]
  rw [hM i hi, hM (i - k) (by omega)]
  by_cases h : i / k % 2 = 0
  · have h2 : i < k ∨ ¬ (i - k) / k % 2 = 0 := by rcases hk with rfl | rfl | rfl | rfl | rfl <;> omega
    rw [if_pos h, Nat.add_comm i k]
    rcases h2 with h2 | h2 <;> simp [h, h2]
  · have h2 : ¬ i < k := by rcases hk with rfl | rfl | rfl | rfl | rfl <;> omega
    have h3 : (i - k) / k % 2 = 0 := by rcases hk with rfl | rfl | rfl | rfl | rfl <;> omega
    rw [if_neg h]
    simp [h, h2, h3]
theorem fl_lt (k i : Nat) (hk : k = 1 ∨ k = 2 ∨ k = 4 ∨ k = 8 ∨ k = 16) (hi : i < 32) : fl k i < 32 := by
  unfold fl
  rcases hk with rfl | rfl | rfl | rfl | rfl <;> split <;> omega
theorem fl_all : ∀ i : Fin 32, fl 1 (fl 2 (fl 4 (fl 8 (fl 16 i.val)))) = 31 - i.val := by decide

theorem mask_bit (M : BitVec 32) (k : Nat) (h : ∀ i : Fin 32, M.getLsbD i.val = decide (i.val / k % 2 = 0)) (i : Nat) (hi : i < 32) : M.getLsbD i = decide (i / k % 2 = 0) := h ⟨i, hi⟩
theorem m1 : ∀ i : Fin 32, (1431655765#32).getLsbD i.val = decide (i.val / 1 % 2 = 0) := by decide
theorem m2 : ∀ i : Fin 32, (858993459#32).getLsbD i.val = decide (i.val / 2 % 2 = 0) := by decide
theorem m4 : ∀ i : Fin 32, (252645135#32).getLsbD i.val = decide (i.val / 4 % 2 = 0) := by decide
theorem m8 : ∀ i : Fin 32, (16711935#32).getLsbD i.val = decide (i.val / 8 % 2 = 0) := by decide

def revB (b : BitVec 32) : BitVec 32 := swp b 16711935#32 8 >>> 16 ||| swp b 16711935#32 8 <<< 16
theorem half_bit (c : BitVec 32) (i : Nat) (hi : i < 32) : (c >>> 16 ||| c <<< 16).getLsbD i = c.getLsbD (fl 16 i) := by
  unfold fl
  simp only [BitVec.getLsbD_or, BitVec.getLsbD_ushiftRight, BitVec.getLsbD_shiftLeft, hi, decide_true, Bool.true_and]
  by_cases h : i < 16
  · rw [if_pos (by omega), Nat.add_comm i 16]; simp [h]
  · rw [if_neg (by omega), BitVec.getLsbD_of_ge c (16 + i) (by omega)]; simp [h]
theorem rev_bits (b : BitVec 32) : revB (swp (swp (swp b 1431655765#32 1) 858993459#32 2) 252645135#32 4) = b.reverse := by
  apply BitVec.eq_of_getLsbD_eq
  intro i hi
  have a16 := fl_lt 16 i (by omega) hi
  have a8 := fl_lt 8 _ (by omega) a16
  have a4 := fl_lt 4 _ (by omega) a8
  have a2 := fl_lt 2 _ (by omega) a4
  unfold revB
  rw [half_bit _ i hi, swp_bit _ _ 8 (by omega) (mask_bit _ 8 m8) _ a16, swp_bit _ _ 4 (by omega) (mask_bit _ 4 m4) _ a8, swp_bit _ _ 2 (by omega) (mask_bit _ 2 m2) _ a4,
    swp_bit _ _ 1 (by omega) (mask_bit _ 1 m1) _ a2, fl_all ⟨i, hi⟩, BitVec.getLsbD_reverse, BitVec.getMsbD]
  simp [hi]

theorem ret_u32 {a b : Int} (h : a = b) : Ending.returned (.int .u32 a) = .returned (.int .u32 b) := by rw [h]

theorem and_u64_31 (k : Nat) (hk : k < 32) : bits .and .u64 (k : Int) 31 = (k : Int) := by
  have h : ∀ i : Fin 32, bits .and .u64 (i.val : Int) 31 = (i.val : Int) := by decide
  exact h ⟨k, hk⟩

theorem rot32_is (b : BitVec 32) (k : Nat) (w : World) (hk : k < 32) :
    Calls Tryz.prog 129 #[.int .u32 (us b), .int .i64 k] w fun e w' => e = .returned (.int .u32 (us (b.rotateLeft k))) ∧ w = w' := by
  have hb := us_bd b
  have e1 := and_u64_31 k hk
  go_enter Tryz.func129, Tryz.ntmps129
  go_wp2
  go_ret
  refine ⟨ret_u32 ?_, rfl⟩
  rw [← rol_bits b k hk, ← us_wd, wd_mul_pow, wd_us, us_shr, bits_u32_or, wd_us, wd_us]

theorem swp_word (b M : BitVec 32) (k : Nat) (m p : Int) (hm : m = us M) (hp : p = 2 ^ k) :
    bits .or .u32 (bits .and .u32 (us b / p) m) (bits .and .u32 (us b) m * p % 4294967296) = us (swp b M k) := by
  subst hm hp
  unfold swp
  rw [bits_u32_and, bits_u32_and, us_shr, wd_us, wd_us, wd_us, ← us_wd, wd_mul_pow, bits_u32_or, wd_us, wd_us, wd_us]

theorem shBy_is (n : Int) (w : World) :
    Calls Tryz.prog 127 #[.int .i32 n] w fun e w' => e = .returned (.int .u32 (sn n)) ∧ w = w' := by
  go_enter Tryz.func127, Tryz.ntmps127
  go_wp2
  go_ret
  exact ⟨ret_int (by rw [sn_cast]; omega), rfl⟩

theorem shl_is (x n : Int) (w : World) :
    Calls Tryz.prog 103 #[.int .i32 x, .int .i32 n] w fun e w' => e = .returned (.int .i32 (wShl x n)) ∧ w = w' := by
  have b := sn_lt n
  go_enter Tryz.func103, Tryz.ntmps103
  go_wp2_with (go_at_call 127; refine (shBy_is _ _).mono ?_; rintro e w' ⟨rfl, rfl⟩)
  go_ret
  refine ⟨ret_int ?_, rfl⟩
  rw [← us_wd, ← us_wd, wd_mul_pow, wd_us, ← sg_us]
  rfl
theorem shr_is (x n : Int) (w : World) :
    Calls Tryz.prog 104 #[.int .i32 x, .int .i32 n] w fun e w' => e = .returned (.int .i32 (wShr x n)) ∧ w = w' := by
  have b := sn_lt n
  go_enter Tryz.func104, Tryz.ntmps104
  go_wp2_with (go_at_call 127; refine (shBy_is _ _).mono ?_; rintro e w' ⟨rfl, rfl⟩)
  go_ret
  exact ⟨ret_int (by rw [← us_wd, us_shr, ← sg_us]; rfl), rfl⟩
theorem sar_is (x n : Int) (w : World) :
    Calls Tryz.prog 105 #[.int .i32 x, .int .i32 n] w fun e w' => e = .returned (.int .i32 (wSar x n)) ∧ w.alloc (.cells #[.int .i32 x] 21) = w' := by
  have b := sn_lt n
  go_enter Tryz.func105, Tryz.ntmps105
  go_wp2_with (first
    | (go_at_call 127; refine (shBy_is _ _).mono ?_; rintro e w' ⟨rfl, rfl⟩)
    | (go_at_call 104; refine (shr_is _ _ _).mono ?_; rintro e w' ⟨rfl, rfl⟩)
    | go_in)
  go_ret
  exact ⟨ret_int (sar_word x (sn n)), rfl⟩

theorem rol_is (x n : Int) (w : World) :
    Calls Tryz.prog 106 #[.int .i32 x, .int .i32 n] w fun e w' => e = .returned (.int .i32 (wRol x n)) ∧ w = w' := by
  have b := sn_lt n
  have e := us_wd x
  go_enter Tryz.func106, Tryz.ntmps106
  go_wp2_with (first
    | (go_at_call 127; refine (shBy_is _ _).mono ?_; rintro e w' ⟨rfl, rfl⟩)
    | (go_at_call 129; rw [← us_wd]; refine (rot32_is _ _ _ b).mono ?_; rintro e w' ⟨rfl, rfl⟩))
  go_ret
  exact ⟨ret_int (by rw [← sg_us]; rfl), rfl⟩

theorem clz_is (x : Int) (w : World) :
    Calls Tryz.prog 85 #[.int .i32 x] w fun e w' => e = .returned (.int .i32 (wClz x)) ∧ w = w' := by
  have b := wClz_bd x
  have e := Lib.hid (wd_mod x)
  go_enter Tryz.func85, Tryz.ntmps85
  go_wp2_with (go_at_call 93; refine (lead32_is _ _ (by omega) (by omega)).mono ?_; rw [e.out]; rintro e w' ⟨rfl, rfl⟩)
  go_ret
  exact ⟨ret_int (IntWalk.wrap32_in (wClz x) ⟨by omega, by omega⟩), rfl⟩

theorem sign_is (x : Int) (w : World) (h1 : -2147483648 ≤ x) (h2 : x ≤ 2147483647) :
    Calls Tryz.prog 92 #[.int .i32 x] w fun e w' => e = .returned (.int .i32 (wSign x)) ∧ w = w' := by
  have E := Lib.hid (sign_shr h1 h2)
  go_enter Tryz.func92, Tryz.ntmps92
  go_wp2
  go_ret
  exact ⟨ret_int E.out, rfl⟩
theorem mask_is (x : Int) (w : World) (h1 : -2147483648 ≤ x) (h2 : x ≤ 2147483647) :
    Calls Tryz.prog 141 #[.int .i32 x] w fun e w' => e = .returned (.int .i32 (wMask x)) ∧ w = w' := by
  have E := Lib.hid (mask_sign h1 h2)
  have B := Lib.hid (bits_i32_or x (wrap32 (-x)))
  go_enter Tryz.func141, Tryz.ntmps141
  go_wp2_with (go_at_call 92; refine (sign_is _ _ (by rw [B.out]; exact (sg_bd _).1) (by rw [B.out]; exact (sg_bd _).2)).mono ?_; rintro e w' ⟨rfl, rfl⟩)
  go_ret
  exact ⟨ret_int E.out, rfl⟩
theorem choose_is (m a b : Int) (w : World) :
    Calls Tryz.prog 134 #[.int .i32 m, .int .i32 a, .int .i32 b] w fun e w' => e = .returned (.int .i32 (wSel m a b)) ∧ w = w' := by
  have E := Lib.hid (sel_bits m a b)
  go_enter Tryz.func134, Tryz.ntmps134
  go_wp2
  go_ret
  exact ⟨ret_int E.out, rfl⟩
theorem flip_is (x m : Int) (w : World) :
    Calls Tryz.prog 83 #[.int .i32 x, .int .i32 m] w fun e w' => e = .returned (.int .i32 (wFlip x m)) ∧ w = w' := by
  have E := Lib.hid (flip_bits x m)
  go_enter Tryz.func83, Tryz.ntmps83
  go_wp2
  go_ret
  exact ⟨ret_int E.out, rfl⟩
theorem below_is (a b : Int) (w : World) (h1 : -2147483648 ≤ a) (h2 : a ≤ 2147483647) (h3 : -2147483648 ≤ b) (h4 : b ≤ 2147483647) :
    Calls Tryz.prog 145 #[.int .i32 a, .int .i32 b] w fun e w' => e = .returned (.int .i32 (wBelow a b)) ∧ w = w' := by
  have E := below_shr (a := a) (b := b) (by omega) (by omega)
  have hb := wBelow_bd a b
  go_enter Tryz.func145, Tryz.ntmps145
  go_wp2
  go_ret
  exact ⟨rfl, rfl⟩
theorem belowU_is (a b : Int) (w : World) (h1 : 0 ≤ a) (h2 : a ≤ 4294967295) (h3 : 0 ≤ b) (h4 : b ≤ 4294967295) :
    Calls Tryz.prog 146 #[.int .u32 a, .int .u32 b] w fun e w' => e = .returned (.int .i32 (wBelow a b)) ∧ w = w' := by
  have E := below_shr (a := a) (b := b) (by omega) (by omega)
  have hb := wBelow_bd a b
  go_enter Tryz.func146, Tryz.ntmps146
  go_wp2
  go_ret
  exact ⟨rfl, rfl⟩
theorem less_m (a b : Int) (w : World) (h1 : -2147483648 ≤ a) (h2 : a ≤ 2147483647) (h3 : -2147483648 ≤ b) (h4 : b ≤ 2147483647) :
    Calls Tryz.prog 131 #[.agg #[.int .i32 a, .int .i32 b]] w fun e w' => e = .returned (.int .i32 (wBelow a b)) ∧ w.alloc (.cells #[.int .i32 a, .int .i32 b] 194) = w' := by
  go_enter Tryz.func131, Tryz.ntmps131
  go_wp2_with (go_at_call 145; refine (below_is _ _ _ h1 h2 h3 h4).mono ?_; rintro e w' ⟨rfl, rfl⟩)
  go_ret
  exact ⟨rfl, rfl⟩
theorem under_m (a b : Int) (w : World) :
    Calls Tryz.prog 132 #[.agg #[.int .i32 a, .int .i32 b]] w fun e w' => e = .returned (.int .i32 (wBelow (a % 4294967296) (b % 4294967296))) ∧ w.alloc (.cells #[.int .i32 a, .int .i32 b] 194) = w' := by
  go_enter Tryz.func132, Tryz.ntmps132
  go_wp2_with (go_at_call 146; refine (belowU_is _ _ _ (by omega) (by omega) (by omega) (by omega)).mono ?_; rintro e w' ⟨rfl, rfl⟩)
  go_ret
  exact ⟨rfl, rfl⟩
theorem same_m (a b : Int) (w : World) :
    Calls Tryz.prog 133 #[.agg #[.int .i32 a, .int .i32 b]] w fun e w' => e = .returned (.int .i32 (bits .xor .i32 (-1) (wMask (bits .xor .i32 a b)))) ∧ w.alloc (.cells #[.int .i32 a, .int .i32 b] 194) = w' := by
  have B := Lib.hid (bits_i32_xor a b)
  go_enter Tryz.func133, Tryz.ntmps133
  go_wp2_with (go_at_call 141; refine (mask_is _ _ (by rw [B.out]; exact (sg_bd _).1) (by rw [B.out]; exact (sg_bd _).2)).mono ?_; rintro e w' ⟨rfl, rfl⟩)
  go_ret
  exact ⟨rfl, rfl⟩
theorem less_is (a b : Int) (w : World) (h1 : -2147483648 ≤ a) (h2 : a ≤ 2147483647) (h3 : -2147483648 ≤ b) (h4 : b ≤ 2147483647) :
    Calls Tryz.prog 107 #[.int .i32 a, .int .i32 b] w fun e w' => e = .returned (.int .i32 (wLess a b)) ∧ w.alloc (.cells #[.int .i32 a, .int .i32 b] 194) = w' := by
  have E := Lib.hid (below_one a b)
  go_enter Tryz.func107, Tryz.ntmps107
  go_wp2_with (first
    | (go_at_call 131; refine (less_m _ _ _ h1 h2 h3 h4).mono ?_; rintro e w' ⟨rfl, rfl⟩)
    | go_in)
  go_ret
  exact ⟨ret_int E.out, rfl⟩
theorem under_is (a b : Int) (w : World) :
    Calls Tryz.prog 108 #[.int .i32 a, .int .i32 b] w fun e w' => e = .returned (.int .i32 (wUnder a b)) ∧ w.alloc (.cells #[.int .i32 a, .int .i32 b] 194) = w' := by
  have E := Lib.hid ((below_one (a % 4294967296) (b % 4294967296)).trans (under_one a b))
  go_enter Tryz.func108, Tryz.ntmps108
  go_wp2_with (first
    | (go_at_call 132; refine (under_m _ _ _).mono ?_; rintro e w' ⟨rfl, rfl⟩)
    | go_in)
  go_ret
  exact ⟨ret_int E.out, rfl⟩
theorem same_is (a b : Int) (w : World) (h1 : -2147483648 ≤ a) (h2 : a ≤ 2147483647) (h3 : -2147483648 ≤ b) (h4 : b ≤ 2147483647) :
    Calls Tryz.prog 109 #[.int .i32 a, .int .i32 b] w fun e w' => e = .returned (.int .i32 (wSame a b)) ∧ w.alloc (.cells #[.int .i32 a, .int .i32 b] 194) = w' := by
  have E := Lib.hid (same_mask h1 h2 h3 h4)
  go_enter Tryz.func109, Tryz.ntmps109
  go_wp2_with (first
    | (go_at_call 133; refine (same_m _ _ _).mono ?_; rintro e w' ⟨rfl, rfl⟩)
    | go_in)
  go_ret
  exact ⟨ret_int E.out, rfl⟩
theorem min_is (a b : Int) (w : World) (h1 : -2147483648 ≤ a) (h2 : a ≤ 2147483647) (h3 : -2147483648 ≤ b) (h4 : b ≤ 2147483647) :
    Calls Tryz.prog 110 #[.int .i32 a, .int .i32 b] w fun e w' => e = .returned (.int .i32 (wMin a b)) ∧ w.alloc (.cells #[.int .i32 a, .int .i32 b] 194) = w' := by
  have E := Lib.hid (below_min h1 h2 h3 h4)
  go_enter Tryz.func110, Tryz.ntmps110
  go_wp2_with (first
    | (go_at_call 131; refine (less_m _ _ _ h1 h2 h3 h4).mono ?_; rintro e w' ⟨rfl, rfl⟩)
    | (go_at_call 134; refine (choose_is _ _ _ _).mono ?_; rintro e w' ⟨rfl, rfl⟩))
  go_ret
  exact ⟨ret_int E.out, rfl⟩
theorem max_is (a b : Int) (w : World) (h1 : -2147483648 ≤ a) (h2 : a ≤ 2147483647) (h3 : -2147483648 ≤ b) (h4 : b ≤ 2147483647) :
    Calls Tryz.prog 111 #[.int .i32 a, .int .i32 b] w fun e w' => e = .returned (.int .i32 (wMax a b)) ∧ w.alloc (.cells #[.int .i32 a, .int .i32 b] 194) = w' := by
  have E := Lib.hid (below_max h1 h2 h3 h4)
  go_enter Tryz.func111, Tryz.ntmps111
  go_wp2_with (first
    | (go_at_call 131; refine (less_m _ _ _ h1 h2 h3 h4).mono ?_; rintro e w' ⟨rfl, rfl⟩)
    | (go_at_call 134; refine (choose_is _ _ _ _).mono ?_; rintro e w' ⟨rfl, rfl⟩))
  go_ret
  exact ⟨ret_int E.out, rfl⟩

theorem clamp64_is (x l h : Int) (w : World) :
    Calls Tryz.prog 143 #[.int .i64 x, .int .i64 l, .int .i64 h] w fun e w' => e = .returned (.int .i64 (wClamp x l h)) ∧ w = w' := by
  go_enter Tryz.func143, Tryz.ntmps143
  go_wp2
  all_goals
    go_ret
    exact ⟨ret_int (by unfold wClamp; omega), rfl⟩
theorem sat_is (x : Int) (w : World) :
    Calls Tryz.prog 125 #[.int .i64 x] w fun e w' => e = .returned (.int .i32 (wCut x)) ∧ w = w' := by
  have E := Lib.hid (wCut_clamp x)
  obtain ⟨c1, c2⟩ := wCut_bd x
  rw [wCut_clamp] at c1 c2
  go_enter Tryz.func125, Tryz.ntmps125
  go_wp2_with (go_at_call 143; refine (clamp64_is _ _ _ _).mono ?_; rintro e w' ⟨rfl, rfl⟩)
  go_ret
  exact ⟨ret_int E.out.symm, rfl⟩
/-- The sum of none, the first, or both of two. -/
def part (x y : Int) (k : Nat) : Int := if k = 0 then 0 else if k = 1 then x else x + y
/-- The one or the other of two. -/
def term (x y : Int) (k : Nat) : Int := if k = 0 then x else y
theorem part_step (x y : Int) {k : Nat} (h : k < 2) : part x y k + term x y k = part x y (k + 1) := by
  unfold part term; split <;> (try split) <;> (try split) <;> (try split) <;> omega
theorem sum_is (b : Nat) (x y : Int) (w : World) (x1 : -4611686018427387904 ≤ x) (x2 : x ≤ 4611686018427387903) (y1 : -4611686018427387904 ≤ y) (y2 : y ≤ 4611686018427387903)
    (hc : ∀ j, j < 2 → w.cell? ⟨b, j, none⟩ = some (.int .i64 (term x y j))) :
    Calls Tryz.prog 126 #[.slice (some ⟨b, 0, none⟩) 2 2] w fun e w' => e = .returned (.int .i64 (x + y)) ∧ w = w' := by
  go_enter Tryz.func126, Tryz.ntmps126
  go_wp2
  go_loop [3, 8] (fun t i => ∃ k : Nat, k ≤ 2 ∧ i = .int .i64 k ∧ t = .int .i64 (part x y k)) (fun _ i => match i with | .int _ n => 2 - n.toNat | _ => 0)
  case atStart => exact ⟨0, Nat.zero_le _, rfl, rfl⟩
  case round =>
    obtain ⟨k, hk, rfl, rfl⟩ := hrel
    have hcell : (k : Int) < 2 → w.cell? ⟨b, k, none⟩ = some (.int .i64 (term x y k)) := fun h => hc k (by omega)
    have hstep : (k : Int) < 2 → part x y k + term x y k = part x y (k + 1) := fun h => part_step x y (by omega)
    have p1 : -9223372036854775808 ≤ part x y (k + 1) ∧ part x y (k + 1) ≤ 9223372036854775807 := by unfold part; split <;> (try split) <;> omega
    clear hc x1 x2 y1 y2
    go_wp2
    · refine ⟨⟨k + 1, by omega, by push_cast; rfl, rfl⟩, ?_⟩
      first | omega | (simp; omega) | trace_state
    · have : k = 2 := by omega
      subst this
      go_ret
      exact ⟨rfl, rfl⟩

theorem add_is (a b : Int) (w : World) (h1 : -2147483648 ≤ a) (h2 : a ≤ 2147483647) (h3 : -2147483648 ≤ b) (h4 : b ≤ 2147483647) :
    Calls Tryz.prog 97 #[.int .i32 a, .int .i32 b] w fun e w' => e = .returned (.int .i32 (wCut (a + b))) ∧ Below w.heap.size w w' := by
  go_enter Tryz.func97, Tryz.ntmps97
  go_wp2_with (first
    | (go_at_call 126; refine (sum_is w.heap.size a b _ (by omega) (by omega) (by omega) (by omega) (fun j hj => by
        match j, hj with
        | 0, _ => simp [term]
        | 1, _ => simp [term])).mono ?_; rintro e w' ⟨rfl, rfl⟩)
    | (go_at_call 125; refine (sat_is _ _).mono ?_; rintro e w' ⟨rfl, rfl⟩))
  go_ret
  exact ⟨rfl, (Below.refl _ _).alloc (Nat.le_refl _) _⟩
theorem sub_is (a b : Int) (w : World) (h1 : -2147483648 ≤ a) (h2 : a ≤ 2147483647) (h3 : -2147483648 ≤ b) (h4 : b ≤ 2147483647) :
    Calls Tryz.prog 98 #[.int .i32 a, .int .i32 b] w fun e w' => e = .returned (.int .i32 (wCut (a - b))) ∧ Below w.heap.size w w' := by
  have E := Lib.hid (show a + -b = a - b by omega)
  go_enter Tryz.func98, Tryz.ntmps98
  go_wp2_with (first
    | (go_at_call 126; refine (sum_is w.heap.size a (-b) _ (by omega) (by omega) (by omega) (by omega) (fun j hj => by
        match j, hj with
        | 0, _ => simp [term]
        | 1, _ => simp [term])).mono ?_; rintro e w' ⟨rfl, rfl⟩)
    | (go_at_call 125; refine (sat_is _ _).mono ?_; rintro e w' ⟨rfl, rfl⟩))
  go_ret
  exact ⟨ret_int (by rw [E.out]), (Below.refl _ _).alloc (Nat.le_refl _) _⟩
theorem neg_is (x : Int) (w : World) (h1 : -2147483648 ≤ x) (h2 : x ≤ 2147483647) :
    Calls Tryz.prog 139 #[.int .i32 x] w fun e w' => e = .returned (.int .i32 (wCut (-x))) ∧ Below w.heap.size w w' := by
  have E := Lib.hid (show (0 : Int) - x = -x by omega)
  go_enter Tryz.func139, Tryz.ntmps139
  go_wp2_with (go_at_call 98; refine (sub_is _ _ _ (by omega) (by omega) h1 h2).mono ?_; rintro e w1 ⟨rfl, hb⟩)
  go_ret
  exact ⟨ret_int (by first | rfl | rw [E.out]), hb⟩
/-- The amount of x, cut. -/
theorem abs_is (x : Int) (w : World) (h1 : -2147483648 ≤ x) (h2 : x ≤ 2147483647) :
    Calls Tryz.prog 140 #[.int .i32 x] w fun e w' => e = .returned (.int .i32 (wAbs x)) ∧ Below w.heap.size w w' := by
  go_enter Tryz.func140, Tryz.ntmps140
  go_wp2_with (go_at_call 139; refine (neg_is _ _ h1 h2).mono ?_; rintro e w1 ⟨rfl, hb⟩)
  all_goals
    go_ret
    exact ⟨ret_int (by unfold wAbs wCut at *; omega), hb⟩

theorem round_q (x n : Int) (w : World) (x1 : -9223372036854775808 ≤ x) (x2 : x ≤ 9223372036854775807) (n1 : -9223372036854775808 ≤ n) (n2 : n ≤ 9223372036854775807) :
    Calls Tryz.prog 149 #[.int .i64 x, .int .i64 n] w fun e w' => e = .returned (.int .i64 (wRnd x n)) ∧ ∃ m, w' = w.drewN m := by
  rcases (show n < 1 ∨ (1 ≤ n ∧ 62 < n) ∨ (1 ≤ n ∧ n ≤ 62) by omega) with h | ⟨h, h'⟩ | ⟨h, h'⟩
  · have E := Lib.hid (wRnd_out (x := x) (n := n) (by omega))
    go_enter Tryz.func149, Tryz.ntmps149
    go_wp2
    go_ret
    exact ⟨ret_int E.out.symm, 0, rfl⟩
  · have E := Lib.hid (wRnd_out (x := x) (n := n) (by omega))
    go_enter Tryz.func149, Tryz.ntmps149
    go_wp2
    go_ret
    exact ⟨ret_int E.out.symm, 0, rfl⟩
  · have E := Lib.hid (wRnd_bits (x := x) h h')
    have d := div_bd' h x1 x2
    go_enter Tryz.func149, Tryz.ntmps149
    go_wp2
    go_region
    go_wp2
    go_ret
    refine ⟨ret_int ?_, 1, rfl⟩
    rw [← E.out]
    rw [and_i64_1, IntWalk.wrap64_in _ (by omega)]
theorem round_b (x n : Int) (w : World) (x1 : -9223372036854775808 ≤ x) (x2 : x ≤ 9223372036854775807) (n1 : -9223372036854775808 ≤ n) (n2 : n ≤ 9223372036854775807) :
    Calls Tryz.prog 149 #[.int .i64 x, .int .i64 n] w fun e w' => e = .returned (.int .i64 (wRnd x n)) ∧ Below w.heap.size w w' :=
  (round_q x n w x1 x2 n1 n2).mono fun _ _ ⟨he, m, hm⟩ => ⟨he, hm ▸ below_drewN (Below.refl _ _) m⟩
theorem whole_is (a b : Int) (w : World) (a1 : -2147483648 ≤ a) (a2 : a ≤ 2147483647) (b1 : -2147483648 ≤ b) (b2 : b ≤ 2147483647) :
    Calls Tryz.prog 147 #[.int .i32 a, .int .i32 b] w fun e w' => e = .returned (.int .i64 (a * b)) ∧ w = w' := by
  obtain ⟨p1, p2⟩ := prod_bd a1 a2 b1 b2
  go_enter Tryz.func147, Tryz.ntmps147
  go_wp2
  go_ret
  exact ⟨rfl, rfl⟩
theorem mulq_is (a b : Int) (w : World) (a1 : -2147483648 ≤ a) (a2 : a ≤ 2147483647) (b1 : -2147483648 ≤ b) (b2 : b ≤ 2147483647) :
    Calls Tryz.prog 114 #[.int .i32 a, .int .i32 b] w fun e w' => e = .returned (.int .i32 (wMulq a b)) ∧ Below w.heap.size w w' := by
  obtain ⟨p1, p2⟩ := prod_bd a1 a2 b1 b2
  have E := Lib.hid (wRnd_30 (a * b))
  go_enter Tryz.func114, Tryz.ntmps114
  go_wp2_with go_in
  go_quiet ((first
    | (go_at_call 147; with_reducible exact quiet_here (whole_is a b _ a1 a2 b1 b2))
    | (go_at_call 149; exact Calls.quiet_of (round_q (a * b) 30 _ (by omega) (by omega) (by omega) (by omega)))
    | (go_at_call 125; exact quiet_here (sat_is _ _))))
  go_wp2
  go_ret
  exact ⟨ret_int (by rw [E.out]; rfl), (((Below.refl _ _).alloc (Nat.le_refl _) _).trans (below_drewN (Below.refl _ _) _))⟩
theorem mulr_is (a b : Int) (w : World) (a1 : -2147483648 ≤ a) (a2 : a ≤ 2147483647) (b1 : -2147483648 ≤ b) (b2 : b ≤ 2147483647) :
    Calls Tryz.prog 115 #[.int .i32 a, .int .i32 b] w fun e w' => e = .returned (.int .i32 (wMulr a b)) ∧ Below w.heap.size w w' := by
  obtain ⟨p1, p2⟩ := prod_bd a1 a2 b1 b2
  have E := Lib.hid (wRnd_16 (a * b))
  go_enter Tryz.func115, Tryz.ntmps115
  go_wp2_with go_in
  go_quiet ((first
    | (go_at_call 147; with_reducible exact quiet_here (whole_is a b _ a1 a2 b1 b2))
    | (go_at_call 149; exact Calls.quiet_of (round_q (a * b) 16 _ (by omega) (by omega) (by omega) (by omega)))
    | (go_at_call 125; exact quiet_here (sat_is _ _))))
  go_wp2
  go_ret
  exact ⟨ret_int (by rw [E.out]; rfl), (((Below.refl _ _).alloc (Nat.le_refl _) _).trans (below_drewN (Below.refl _ _) _))⟩
theorem mulh_is (a b : Int) (w : World) (a1 : -2147483648 ≤ a) (a2 : a ≤ 2147483647) (b1 : -2147483648 ≤ b) (b2 : b ≤ 2147483647) :
    Calls Tryz.prog 113 #[.int .i32 a, .int .i32 b] w fun e w' => e = .returned (.int .i32 (wMulh a b)) ∧ Below w.heap.size w w' := by
  obtain ⟨p1, p2⟩ := prod_bd a1 a2 b1 b2
  go_enter Tryz.func113, Tryz.ntmps113
  go_wp2_with go_in
  go_quiet ((first
    | (go_at_call 147; with_reducible exact quiet_here (whole_is a b _ a1 a2 b1 b2))
    | (go_at_call 137; exact quiet_here (high_is (a * b) (wMulh a b) _ (by omega) (by omega) rfl))))
  go_wp2
  go_ret
  exact ⟨rfl, (((Below.refl _ _).alloc (Nat.le_refl _) _).trans (below_drewN (Below.refl _ _) _))⟩
theorem mull_is (a b : Int) (w : World) (a1 : -2147483648 ≤ a) (a2 : a ≤ 2147483647) (b1 : -2147483648 ≤ b) (b2 : b ≤ 2147483647) :
    Calls Tryz.prog 112 #[.int .i32 a, .int .i32 b] w fun e w' => e = .returned (.int .i32 (wMull a b)) ∧ Below w.heap.size w w' := by
  obtain ⟨p1, p2⟩ := prod_bd a1 a2 b1 b2
  go_enter Tryz.func112, Tryz.ntmps112
  go_wp2_with go_in
  go_quiet ((first
    | (go_at_call 147; with_reducible exact quiet_here (whole_is a b _ a1 a2 b1 b2))
    | (go_at_call 135; exact quiet_here (low_is (a * b) (wMull a b) _ rfl))))
  go_wp2
  go_ret
  exact ⟨rfl, (((Below.refl _ _).alloc (Nat.le_refl _) _).trans (below_drewN (Below.refl _ _) _))⟩

theorem cost_is (n : Int) (w : World) (hc : ∀ i : Nat, i < 44 → w.cell? ⟨2, i, none⟩ = some (.int .i64 (costZ i))) :
    Calls Tryz.prog 78 #[.int .i64 n] w fun e w' => e = .returned (.int .i64 (wCost n)) ∧ w = w' := by
  by_cases h1 : n < 1
  · have E := Lib.hid (wCost_out (Or.inl h1))
    go_enter Tryz.func78, Tryz.ntmps78
    go_wp2
    go_ret
    exact ⟨ret_int E.out.symm, rfl⟩
  by_cases h2 : 43 < n
  · have E := Lib.hid (wCost_out (Or.inr h2))
    go_enter Tryz.func78, Tryz.ntmps78
    go_wp2
    go_ret
    exact ⟨ret_int E.out.symm, rfl⟩
  obtain ⟨k, rfl⟩ : ∃ k : Nat, n = k := ⟨n.toNat, by omega⟩
  have E := Lib.hid (wCost_in k (by omega) (by omega))
  have h3 := hc k (by omega)
  clear hc
  go_enter Tryz.func78, Tryz.ntmps78
  go_wp2
  all_goals go_ret
  all_goals exact ⟨ret_int (by rw [E.out]; omega), rfl⟩

/-- The tables' cells lie in w as the program's text has them. -/
def shapesC : Array Value := #[.int .i64 1, .int .i64 23, .string ⟨#[100, 97, 98, 45]⟩, .int .i64 24, .int .i64 30, .string ⟨#[100, 97, 45, 45]⟩, .int .i64 31, .int .i64 31, .string ⟨#[100, 97, 45, 115]⟩, .int .i64 32, .int .i64 32, .string ⟨#[100, 97, 45, 117]⟩, .int .i64 33, .int .i64 33, .string ⟨#[100, 45, 45, 117]⟩, .int .i64 34, .int .i64 38, .string ⟨#[100, 97, 45, 117]⟩, .int .i64 39, .int .i64 39, .string ⟨#[45, 45, 45, 117]⟩, .int .i64 40, .int .i64 40, .string ⟨#[100, 45, 45, 117]⟩, .int .i64 41, .int .i64 41, .string ⟨#[45, 97, 45, 45]⟩, .int .i64 42, .int .i64 43, .string ⟨#[45, 45, 45, 45]⟩]
theorem infoShapes : (Tryz.prog.info? 142).map (·.size) = some 30 := by kernel_rfl

theorem shapes_at {k : Nat} (h : k < 10) (w : World) : (Instr.index 142 (.agg shapesC) (.int .i64 k)).run Tryz.prog w = .ok (.agg #[.int .i64 (loZ k), .int .i64 (hiZ k), .string (shZ k)]) w := by
  rcases (show k = 0 ∨ k = 1 ∨ k = 2 ∨ k = 3 ∨ k = 4 ∨ k = 5 ∨ k = 6 ∨ k = 7 ∨ k = 8 ∨ k = 9 by omega) with rfl | rfl | rfl | rfl | rfl | rfl | rfl | rfl | rfl | rfl
  all_goals kernel_rfl

theorem shape_is (n : Int) (w : World) {ty : TypeId} (hs : w.heap[1]? = some (.cells shapesC ty (0, 0))) :
    Calls Tryz.prog 50 #[.int .i64 n] w fun e w' => e = .returned (.string (wShape n)) ∧ Below w.heap.size w w' := by
  go_enter Tryz.func50, Tryz.ntmps50
  go_wp2_with (refine wpList_load_row rfl 142 _ rfl 1 rfl ty shapesC (0, 0) _ hs Tryz.underlying142 rfl infoShapes ?_)
  go_loopw [6] (fun i wr => ∃ k : Nat, k ≤ 10 ∧ i = .int .i64 k ∧ (n < 1 ∨ loZ k ≤ n) ∧ Below w.heap.size w wr) (fun i _ => 10 - (intOf i).toNat)
  case atStart => exact ⟨0, by omega, rfl, by simp [loZ]; omega, Below.refl _ _⟩
  case round =>
    obtain ⟨k, hk, rfl, hn, hb⟩ := hrel
    have hB := hb.size
    by_cases hlt : k < 10
    · have hx := fun w => shapes_at hlt w
      have L := lo_bd k
      have H := hi_bd hlt
      have E2 := Lib.hid (lo_next hlt)
      by_cases h1 : loZ k ≤ n
      · by_cases h2 : n ≤ hiZ k
        · have E := Lib.hid (wShape_at hlt h1 h2)
          go_wp2
          go_ret
          exact ⟨by rw [E.out]; rfl, hb.alloc hB _⟩
        · go_wp2
          go_roundw
          case rel => exact ⟨k + 1, by omega, by go_num, by rw [E2.out]; omega, hb.alloc hB _⟩
          case measure => simp [intOf]; omega
      · go_wp2
        go_roundw
        case rel => exact ⟨k + 1, by omega, by go_num, by left; omega, hb.alloc hB _⟩
        case measure => simp [intOf]; omega
    · have e : loZ k = 44 := by obtain rfl : k = 10 := by omega
                                rfl
      have E := Lib.hid (wShape_out (n := n) (by omega))
      clear e
      go_wp2
      go_ret
      exact ⟨by rw [E.out]; rfl, hb⟩

end Go.Proofs.YtgmphfagflhglaaGreatDoor
