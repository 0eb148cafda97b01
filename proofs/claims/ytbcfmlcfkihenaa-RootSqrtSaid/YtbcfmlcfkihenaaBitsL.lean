/- What Go's math/bits.Len32 and OnesCount32 answer, over their own text. Conditions: the number is of the kind uint32. -/
import Derived.Test.YtbcfmlcfkihenaaProg
import Derived.Test.YtbcfmlcfkihenaaShiftM
import Derived.Lib.BitFns
import Derived.Deep.QuietTactic
import Derived.BigQuiet
import Derived.RegionTactic
import Derived.ChangeAlike
import Derived.Lib.Hide
namespace Go.Proofs.Ytbcfmlcfkihenaa
open Go.RowKit

theorem ret_int {k : IntKind} {a b : Int} (h : a = b) : Ending.returned (.int k a) = .returned (.int k b) := by rw [h]

theorem len_at (y : Int) (x s : Nat) (h1 : y ≤ 255) (hx : ((x / 2 ^ s : Nat) : Int) = y) (hs : 2 ^ s ≤ x) (hl : x < 2 ^ 64) :
    (s : Int) + Lib.len8 y = (Lib.bitLen x : Int) := by
  have h0 : 0 ≤ y := by rw [← hx]; exact Int.natCast_nonneg _
  have e : y.toNat = x / 2 ^ s := by rw [← hx]; exact Int.toNat_natCast _
  rw [Lib.len8_of y h0 h1, Lib.bitLen_shift s x hs hl, e]
  omega
theorem len8_bd (y : Int) (h0 : 0 ≤ y) (h1 : y ≤ 255) : 0 ≤ Lib.len8 y ∧ Lib.len8 y ≤ 8 := by
  rw [Lib.len8_of y h0 h1]
  have := Lib.bitLen_le8' y h0 h1
  omega

set_option maxHeartbeats 4000000 in
set_option maxRecDepth 100000 in
theorem len32_is (x : Int) (w : World) (h0 : 0 ≤ x) (h1 : x ≤ 4294967295) :
    Calls Try.prog 127 #[.int .u32 x] w fun e w' => e = .returned (.int .i64 (Lib.bitLen x.toNat)) ∧ w = w' := by
  by_cases c1 : 65536 ≤ x
  · by_cases c2 : 256 ≤ x / 65536
    · have d0 : 0 ≤ x / 65536 / 256 := by omega
      have d1 : x / 65536 / 256 ≤ 255 := by omega
      have d2 := len8_bd _ d0 d1
      have e := Lib.hid (len_at (x / 65536 / 256) x.toNat 24 d1 (by omega) (by omega) (by omega))
      go_enter Try.func127, Try.ntmps127
      go_wp2
      go_ret
      exact ⟨ret_int e.out, rfl⟩
    · have d0 : 0 ≤ x / 65536 := by omega
      have d1 : x / 65536 ≤ 255 := by omega
      have d2 := len8_bd _ d0 d1
      have e := Lib.hid (len_at (x / 65536) x.toNat 16 d1 (by omega) (by omega) (by omega))
      go_enter Try.func127, Try.ntmps127
      go_wp2
      go_ret
      exact ⟨ret_int e.out, rfl⟩
  · by_cases c2 : 256 ≤ x
    · have d0 : 0 ≤ x / 256 := by omega
      have d1 : x / 256 ≤ 255 := by omega
      have d2 := len8_bd _ d0 d1
      have e := Lib.hid (len_at (x / 256) x.toNat 8 d1 (by omega) (by omega) (by omega))
      go_enter Try.func127, Try.ntmps127
      go_wp2
      go_ret
      exact ⟨ret_int e.out, rfl⟩
    · have d1 : x ≤ 255 := by omega
      have d2 := len8_bd _ h0 d1
      have e := Lib.hid (Lib.len8_of x h0 d1)
      go_enter Try.func127, Try.ntmps127
      go_wp2
      go_ret
      exact ⟨ret_int e.out, rfl⟩

theorem lead32_is (x : Int) (w : World) (h0 : 0 ≤ x) (h1 : x ≤ 4294967295) :
    Calls Try.prog 126 #[.int .u32 x] w fun e w' => e = .returned (.int .i64 ((wd x).clz.toNat : Int)) ∧ w = w' := by
  have c := clz_len (wd x)
  have t : (wd x).toNat = x.toNat := by
    have := us_wd x
    unfold us at this
    omega
  rw [t] at c
  have c0 : Lib.bitLen x.toNat ≤ 32 := Lib.bitLen_le _ _ (by decide) (by omega)
  have e := Lib.hid c
  clear c t
  go_enter Try.func126, Try.ntmps126
  go_wp2_with (go_at_call 127; refine (len32_is x _ h0 h1).mono ?_; rintro e w' ⟨rfl, rfl⟩)
  go_ret
  exact ⟨ret_int e.out.symm, rfl⟩

theorem pop8_fin : ∀ n : Fin 256, Lib.pop8 (n.val : Int) = ((BitVec.ofNat 8 n.val).cpop.toNat : Int) := by decide +kernel
theorem pop8_of (b : BitVec 8) (y : Int) (h : y = (b.toNat : Int)) : Lib.pop8 y = (b.cpop.toNat : Int) := by
  subst h
  have := pop8_fin ⟨b.toNat, b.isLt⟩
  rw [this]; simp
theorem four (b : BitVec 32) : b = b.extractLsb' 24 8 ++ (b.extractLsb' 16 8 ++ (b.extractLsb' 8 8 ++ b.extractLsb' 0 8)) := by
  apply BitVec.eq_of_getLsbD_eq
  intro i hi
  simp only [BitVec.getLsbD_append, BitVec.getLsbD_extractLsb']
  by_cases h1 : i < 8
  · simp [h1, show i < 8 + (8 + 8) by omega, show i < 8 + 8 by omega]
  · by_cases h2 : i < 16
    · simp [h1, show i < 8 + (8 + 8) by omega, show i < 8 + 8 by omega, show i - 8 < 8 by omega, show 8 + (i - 8) = i by omega]
    · by_cases h3 : i < 24
      · simp [h3, h2, show i - 16 < 8 by omega, show 16 + (i - 16) = i by omega]
      · simp [h3, show i - 24 < 8 by omega, show 24 + (i - 24) = i by omega]
theorem pop_sum (x : Int) (h0 : 0 ≤ x) (h1 : x ≤ 4294967295) :
    (Lib.pop8 (x / 16777216) + Lib.pop8 (bits .and .u32 (x / 65536) 255) + Lib.pop8 (bits .and .u32 (x / 256) 255) + Lib.pop8 (bits .and .u32 x 255)) % 256 = ((wd x).cpop.toNat : Int) := by
  have t : ((wd x).toNat : Int) = x := by
    have := us_wd x
    unfold us at this
    omega
  have e3 := pop8_of ((wd x).extractLsb' 24 8) (x / 16777216) (by rw [BitVec.extractLsb'_toNat, Nat.shiftRight_eq_div_pow]; omega)
  have e2 := pop8_of ((wd x).extractLsb' 16 8) (bits .and .u32 (x / 65536) 255) (by rw [and_u32_8, BitVec.extractLsb'_toNat, Nat.shiftRight_eq_div_pow]; omega)
  have e1 := pop8_of ((wd x).extractLsb' 8 8) (bits .and .u32 (x / 256) 255) (by rw [and_u32_8, BitVec.extractLsb'_toNat, Nat.shiftRight_eq_div_pow]; omega)
  have e0 := pop8_of ((wd x).extractLsb' 0 8) (bits .and .u32 x 255) (by rw [and_u32_8, BitVec.extractLsb'_toNat, Nat.shiftRight_eq_div_pow]; omega)
  have c : (wd x).cpop.toNat = ((wd x).extractLsb' 24 8).cpop.toNat + (((wd x).extractLsb' 16 8).cpop.toNat + (((wd x).extractLsb' 8 8).cpop.toNat + ((wd x).extractLsb' 0 8).cpop.toNat)) := by
    have h := congrArg (fun b : BitVec 32 => b.cpop.toNat) (four (wd x))
    rw [BitVec.toNat_cpop_append, BitVec.toNat_cpop_append, BitVec.toNat_cpop_append] at h
    exact h
  have l := BitVec.toNat_cpop_le (wd x)
  rw [e0, e1, e2, e3]
  omega

end Go.Proofs.Ytbcfmlcfkihenaa
