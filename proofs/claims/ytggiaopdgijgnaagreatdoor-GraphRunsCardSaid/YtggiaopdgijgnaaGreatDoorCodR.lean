/- The document's words of instructions. -/
import Derived.Test.YtggiaopdgijgnaaGreatDoorCodC
import Derived.Test.YtggiaopdgijgnaaGreatDoorOpsR
import Derived.Test.YtggiaopdgijgnaaGreatDoorCodE
namespace Go.Proofs.YtggiaopdgijgnaaGreatDoor
open Go.RowKit

def Letter (l : Int) : Prop := l = 100 ∨ l = 97 ∨ l = 98 ∨ l = 115 ∨ l = 117 ∨ l = 45
theorem shaped_letters {o l0 l1 l2 l3 : Int} (h : Shaped o l0 l1 l2 l3) : Letter l0 ∧ Letter l1 ∧ Letter l2 ∧ Letter l3 := by
  unfold Shaped at h
  unfold Letter
  omega
theorem chk_bd {o d a b n : Int} (h : cChk o d a b n = 0) : (1 ≤ o ∧ o ≤ 43) ∧ (0 ≤ d ∧ d ≤ 31) ∧ (0 ≤ a ∧ a ≤ 31) ∧ (0 ≤ b ∧ b ≤ 31) ∧ (-32768 ≤ n ∧ n ≤ 65535) ∧ cEnc o d a b n = o * 67108864 + d * 2097152 + a * 65536 + b * 2048 + (if n < 0 then n + 65536 else n) := by
  have k := chk_op h
  obtain ⟨e0, e1, e2, e3⟩ := chk_0 h
  obtain ⟨_, _, _, _, _, _, _, _, _, hs⟩ := shaped k
  unfold cEnc
  rw [if_pos h]
  clear h
  unfold isOp at k
  unfold cWord
  generalize shL o 0 = l0 at *
  generalize shL o 1 = l1 at *
  generalize shL o 2 = l2 at *
  generalize shL o 3 = l3 at *
  rcases hs with ⟨_, _, rfl, rfl, rfl, rfl⟩ | ⟨_, _, rfl, rfl, rfl, rfl⟩ | ⟨_, rfl, rfl, rfl, rfl⟩ | ⟨_, rfl, rfl, rfl, rfl⟩ | ⟨_, rfl, rfl, rfl, rfl⟩ | ⟨_, rfl, rfl, rfl, rfl⟩ | ⟨_, rfl, rfl, rfl, rfl⟩ | ⟨_, rfl, rfl, rfl, rfl⟩ <;>
    simp only [fB_d, fB_a, fB_b, fB_s, fB_u, fB_n, fE_r, fE_s, fE_u, fE_n, true_or, or_true, Int.reduceNeg] at * <;> omega
theorem u8_of {n : Nat} [OfNat UInt8 n] {x : UInt8} (h : (n : Int) = x.toNat) (hn : (OfNat.ofNat n : UInt8).toNat = n := by decide) : x = OfNat.ofNat n := UInt8.toNat_inj.1 (by omega)
theorem dec_ok {v : Int} (h : isOp (v / 67108864)) (hl : cLeft v = 0) : cErr v = 0 ∧ cO v = v / 67108864 ∧ ∀ k, cG v k = cF v k := by
  have e : cErr v = 0 := by unfold cErr; rw [if_neg (fun f => f h), hl]; rfl
  refine ⟨e, ?_, fun k => ?_⟩
  · unfold cO; rw [if_pos e]
  · unfold cG; rw [if_pos e]
theorem dec_bad {v : Int} (h : isOp (v / 67108864)) (hl : cLeft v ≠ 0) : cErr v = 3 ∧ cO v = 0 ∧ ∀ k, cG v k = 0 := by
  have e : cErr v = 3 := by unfold cErr; rw [if_neg (fun f => f h), if_pos hl]
  have e' : ¬ cErr v = 0 := by rw [e]; decide
  refine ⟨e, ?_, fun k => ?_⟩
  · unfold cO; rw [if_neg e']
  · unfold cG; rw [if_neg e']

set_option maxHeartbeats 16000000 in
theorem refDecode_is (v : Int) (w : World) (v0 : 0 ≤ v) (v1 : v < 4294967296) : Calls Tryz.prog 13 #[.int .u32 v] w (decV w v) := by
  by_cases ho : isOp (v / 67108864)
  case neg =>
    have e : cErr v = 2 := by unfold cErr; rw [if_pos ho]
    have eo : cO v = 0 := by unfold cO; rw [e]; rfl
    have eg : ∀ k, cG v k = 0 := fun k => by unfold cG; rw [e]; rfl
    unfold decV
    rw [e, eo, eg, eg, eg, eg]
    have hs := Lib.hid (wShape_no ho)
    clear e eo eg ho
    have u0 : 0 ≤ v / 2097152 % 32 := by omega
    have u1 : v / 2097152 % 32 < 32 := by omega
    go_enter Tryz.func13, Tryz.ntmps13
    go_wp2_with (go_at_call 30; ((with_reducible refine (refShape_is _ _).mono ?_); rintro e w1 ⟨rfl, rfl⟩); rw [hs.out])
    exact bodyPost_ret (v := .tuple #[.agg #[.int .i64 0, .int .i64 0, .int .i64 0, .int .i64 0, .int .i64 0], .int .i64 2]) (by simp [results, Tryz.results13, go_sem]) rfl ⟨rfl, ((Below.refl _ _).alloc (Nat.le_refl _) _).alloc (by simp) _⟩
  obtain ⟨x0, x1, x2, x3, hs, e0, e1, e2, e3, hsh⟩ := shaped ho
  have HS := Lib.hid hs
  have hl0 : cLeft v = v % 67108864 - fBits (shL (v / 67108864) 0) (fRead (shL (v / 67108864) 0) v) - fBits (shL (v / 67108864) 1) (fRead (shL (v / 67108864) 1) v) - fBits (shL (v / 67108864) 2) (fRead (shL (v / 67108864) 2) v) - fBits (shL (v / 67108864) 3) (fRead (shL (v / 67108864) 3) v) := rfl
  have hf0 : cF v 0 = fRead (shL (v / 67108864) 0) v := rfl
  have hf1 : cF v 1 = fRead (shL (v / 67108864) 1) v := rfl
  have hf2 : cF v 2 = fRead (shL (v / 67108864) 2) v := rfl
  have hf3 : cF v 3 = fRead (shL (v / 67108864) 3) v := rfl
  have HO := Lib.hid ho
  clear hs ho
  rcases hsh with ⟨-, -, r0, r1, r2, r3⟩ | ⟨-, -, r0, r1, r2, r3⟩ | ⟨-, r0, r1, r2, r3⟩ | ⟨-, r0, r1, r2, r3⟩ | ⟨-, r0, r1, r2, r3⟩ | ⟨-, r0, r1, r2, r3⟩ | ⟨-, r0, r1, r2, r3⟩ | ⟨-, r0, r1, r2, r3⟩
  · rw [r0, r1, r2, r3] at hl0
    rw [r0] at hf0 e0
    rw [r1] at hf1 e1
    rw [r2] at hf2 e2
    rw [r3] at hf3 e3
    simp only [fB_a, fB_b, fB_d, fB_n, fR_a, fR_b, fR_d, fR_n] at hl0 hf0 hf1 hf2 hf3
    obtain rfl := u8_of e0
    obtain rfl := u8_of e1
    obtain rfl := u8_of e2
    obtain rfl := u8_of e3
    clear e0 e1 e2 e3 r0 r1 r2 r3
    have y0 : ((({ data := #[100, 97, 98, 45] } : ByteArray)[0]).toNat : Int) = 100 := rfl
    have y1 : ((({ data := #[100, 97, 98, 45] } : ByteArray)[1]).toNat : Int) = 97 := rfl
    have y2 : ((({ data := #[100, 97, 98, 45] } : ByteArray)[2]).toNat : Int) = 98 := rfl
    have y3 : ((({ data := #[100, 97, 98, 45] } : ByteArray)[3]).toNat : Int) = 45 := rfl
    rcases (show (v % 2048 ≠ 0) ∨ (v % 2048 = 0) by omega) with h0 | h0
    · obtain ⟨q0, q1, q2⟩ := dec_bad HO.out (by omega)
      unfold decV
      rw [q0, q1, q2, q2, q2, q2]
      have g0 : (v % 2048 != 0) = true := by simpa using h0
      clear hl0 hf0 hf1 hf2 hf3 q0 q1 q2 h0
      go_enter Tryz.func13, Tryz.ntmps13
      go_wp2_with (go_at_call 30; ((with_reducible refine (refShape_is _ _).mono ?_); rintro e w1 ⟨rfl, rfl⟩); rw [HS.out])
      exact bodyPost_ret (v := .tuple #[.agg #[.int .i64 0, .int .i64 0, .int .i64 0, .int .i64 0, .int .i64 0], .int .i64 3]) (by simp [results, Tryz.results13, go_sem]) rfl ⟨rfl, ((Below.refl _ _).alloc (Nat.le_refl _) _).alloc (by simp) _⟩
    · obtain ⟨q0, q1, q2⟩ := dec_ok HO.out (by omega)
      unfold decV
      rw [q0, q1, q2, q2, q2, q2, show cF v 0 = v / 2097152 % 32 by omega, show cF v 1 = v / 65536 % 32 by omega, show cF v 2 = v % 65536 / 2048 by omega, show cF v 3 = 0 by omega]
      have g0 : (v % 2048 != 0) = false := by simpa using h0
      clear hl0 hf0 hf1 hf2 hf3 q0 q1 q2 h0
      go_enter Tryz.func13, Tryz.ntmps13
      go_wp2_with (go_at_call 30; ((with_reducible refine (refShape_is _ _).mono ?_); rintro e w1 ⟨rfl, rfl⟩); rw [HS.out])
      exact bodyPost_ret (v := .tuple #[.agg #[.int .i64 (v / 67108864), .int .i64 (v / 2097152 % 32), .int .i64 (v / 65536 % 32), .int .i64 (v % 65536 / 2048), .int .i64 (0)], .int .i64 0]) (by simp [results, Tryz.results13, go_sem]) rfl ⟨rfl, ((Below.refl _ _).alloc (Nat.le_refl _) _).alloc (by simp) _⟩
  · rw [r0, r1, r2, r3] at hl0
    rw [r0] at hf0 e0
    rw [r1] at hf1 e1
    rw [r2] at hf2 e2
    rw [r3] at hf3 e3
    simp only [fB_a, fB_d, fB_n, fR_a, fR_d, fR_n] at hl0 hf0 hf1 hf2 hf3
    obtain rfl := u8_of e0
    obtain rfl := u8_of e1
    obtain rfl := u8_of e2
    obtain rfl := u8_of e3
    clear e0 e1 e2 e3 r0 r1 r2 r3
    have y0 : ((({ data := #[100, 97, 45, 45] } : ByteArray)[0]).toNat : Int) = 100 := rfl
    have y1 : ((({ data := #[100, 97, 45, 45] } : ByteArray)[1]).toNat : Int) = 97 := rfl
    have y2 : ((({ data := #[100, 97, 45, 45] } : ByteArray)[2]).toNat : Int) = 45 := rfl
    have y3 : ((({ data := #[100, 97, 45, 45] } : ByteArray)[3]).toNat : Int) = 45 := rfl
    rcases (show (v % 65536 ≠ 0) ∨ (v % 65536 = 0) by omega) with h0 | h0
    · obtain ⟨q0, q1, q2⟩ := dec_bad HO.out (by omega)
      unfold decV
      rw [q0, q1, q2, q2, q2, q2]
      have g0 : (v % 65536 != 0) = true := by simpa using h0
      clear hl0 hf0 hf1 hf2 hf3 q0 q1 q2 h0
      go_enter Tryz.func13, Tryz.ntmps13
      go_wp2_with (go_at_call 30; ((with_reducible refine (refShape_is _ _).mono ?_); rintro e w1 ⟨rfl, rfl⟩); rw [HS.out])
      exact bodyPost_ret (v := .tuple #[.agg #[.int .i64 0, .int .i64 0, .int .i64 0, .int .i64 0, .int .i64 0], .int .i64 3]) (by simp [results, Tryz.results13, go_sem]) rfl ⟨rfl, ((Below.refl _ _).alloc (Nat.le_refl _) _).alloc (by simp) _⟩
    · obtain ⟨q0, q1, q2⟩ := dec_ok HO.out (by omega)
      unfold decV
      rw [q0, q1, q2, q2, q2, q2, show cF v 0 = v / 2097152 % 32 by omega, show cF v 1 = v / 65536 % 32 by omega, show cF v 2 = 0 by omega, show cF v 3 = 0 by omega]
      have g0 : (v % 65536 != 0) = false := by simpa using h0
      clear hl0 hf0 hf1 hf2 hf3 q0 q1 q2 h0
      go_enter Tryz.func13, Tryz.ntmps13
      go_wp2_with (go_at_call 30; ((with_reducible refine (refShape_is _ _).mono ?_); rintro e w1 ⟨rfl, rfl⟩); rw [HS.out])
      exact bodyPost_ret (v := .tuple #[.agg #[.int .i64 (v / 67108864), .int .i64 (v / 2097152 % 32), .int .i64 (v / 65536 % 32), .int .i64 (0), .int .i64 (0)], .int .i64 0]) (by simp [results, Tryz.results13, go_sem]) rfl ⟨rfl, ((Below.refl _ _).alloc (Nat.le_refl _) _).alloc (by simp) _⟩
  · rw [r0, r1, r2, r3] at hl0
    rw [r0] at hf0 e0
    rw [r1] at hf1 e1
    rw [r2] at hf2 e2
    rw [r3] at hf3 e3
    simp only [fB_a, fB_d, fB_n, fB_s, fR_a, fR_d, fR_n, fR_s] at hl0 hf0 hf1 hf2 hf3
    obtain rfl := u8_of e0
    obtain rfl := u8_of e1
    obtain rfl := u8_of e2
    obtain rfl := u8_of e3
    clear e0 e1 e2 e3 r0 r1 r2 r3
    have y0 : ((({ data := #[100, 97, 45, 115] } : ByteArray)[0]).toNat : Int) = 100 := rfl
    have y1 : ((({ data := #[100, 97, 45, 115] } : ByteArray)[1]).toNat : Int) = 97 := rfl
    have y2 : ((({ data := #[100, 97, 45, 115] } : ByteArray)[2]).toNat : Int) = 45 := rfl
    have y3 : ((({ data := #[100, 97, 45, 115] } : ByteArray)[3]).toNat : Int) = 115 := rfl
    rcases (show (32768 ≤ v % 65536) ∨ (v % 65536 < 32768) by omega) with h0 | h0
    · obtain ⟨q0, q1, q2⟩ := dec_ok HO.out (by omega)
      unfold decV
      rw [q0, q1, q2, q2, q2, q2, show cF v 0 = v / 2097152 % 32 by omega, show cF v 1 = v / 65536 % 32 by omega, show cF v 2 = 0 by omega, show cF v 3 = v % 65536 - 65536 by omega]
      clear hl0 hf0 hf1 hf2 hf3 q0 q1 q2
      go_enter Tryz.func13, Tryz.ntmps13
      go_wp2_with (go_at_call 30; ((with_reducible refine (refShape_is _ _).mono ?_); rintro e w1 ⟨rfl, rfl⟩); rw [HS.out])
      exact bodyPost_ret (v := .tuple #[.agg #[.int .i64 (v / 67108864), .int .i64 (v / 2097152 % 32), .int .i64 (v / 65536 % 32), .int .i64 (0), .int .i64 (v % 65536 - 65536)], .int .i64 0]) (by simp [results, Tryz.results13, go_sem]) rfl ⟨rfl, ((Below.refl _ _).alloc (Nat.le_refl _) _).alloc (by simp) _⟩
    · obtain ⟨q0, q1, q2⟩ := dec_ok HO.out (by omega)
      unfold decV
      rw [q0, q1, q2, q2, q2, q2, show cF v 0 = v / 2097152 % 32 by omega, show cF v 1 = v / 65536 % 32 by omega, show cF v 2 = 0 by omega, show cF v 3 = v % 65536 by omega]
      clear hl0 hf0 hf1 hf2 hf3 q0 q1 q2
      go_enter Tryz.func13, Tryz.ntmps13
      go_wp2_with (go_at_call 30; ((with_reducible refine (refShape_is _ _).mono ?_); rintro e w1 ⟨rfl, rfl⟩); rw [HS.out])
      exact bodyPost_ret (v := .tuple #[.agg #[.int .i64 (v / 67108864), .int .i64 (v / 2097152 % 32), .int .i64 (v / 65536 % 32), .int .i64 (0), .int .i64 (v % 65536)], .int .i64 0]) (by simp [results, Tryz.results13, go_sem]) rfl ⟨rfl, ((Below.refl _ _).alloc (Nat.le_refl _) _).alloc (by simp) _⟩
  · rw [r0, r1, r2, r3] at hl0
    rw [r0] at hf0 e0
    rw [r1] at hf1 e1
    rw [r2] at hf2 e2
    rw [r3] at hf3 e3
    simp only [fB_a, fB_d, fB_n, fB_u, fR_a, fR_d, fR_n, fR_u] at hl0 hf0 hf1 hf2 hf3
    obtain rfl := u8_of e0
    obtain rfl := u8_of e1
    obtain rfl := u8_of e2
    obtain rfl := u8_of e3
    clear e0 e1 e2 e3 r0 r1 r2 r3
    have y0 : ((({ data := #[100, 97, 45, 117] } : ByteArray)[0]).toNat : Int) = 100 := rfl
    have y1 : ((({ data := #[100, 97, 45, 117] } : ByteArray)[1]).toNat : Int) = 97 := rfl
    have y2 : ((({ data := #[100, 97, 45, 117] } : ByteArray)[2]).toNat : Int) = 45 := rfl
    have y3 : ((({ data := #[100, 97, 45, 117] } : ByteArray)[3]).toNat : Int) = 117 := rfl
    obtain ⟨q0, q1, q2⟩ := dec_ok HO.out (by omega)
    unfold decV
    rw [q0, q1, q2, q2, q2, q2, show cF v 0 = v / 2097152 % 32 by omega, show cF v 1 = v / 65536 % 32 by omega, show cF v 2 = 0 by omega, show cF v 3 = v % 65536 by omega]
    clear hl0 hf0 hf1 hf2 hf3 q0 q1 q2
    go_enter Tryz.func13, Tryz.ntmps13
    go_wp2_with (go_at_call 30; ((with_reducible refine (refShape_is _ _).mono ?_); rintro e w1 ⟨rfl, rfl⟩); rw [HS.out])
    exact bodyPost_ret (v := .tuple #[.agg #[.int .i64 (v / 67108864), .int .i64 (v / 2097152 % 32), .int .i64 (v / 65536 % 32), .int .i64 (0), .int .i64 (v % 65536)], .int .i64 0]) (by simp [results, Tryz.results13, go_sem]) rfl ⟨rfl, ((Below.refl _ _).alloc (Nat.le_refl _) _).alloc (by simp) _⟩
  · rw [r0, r1, r2, r3] at hl0
    rw [r0] at hf0 e0
    rw [r1] at hf1 e1
    rw [r2] at hf2 e2
    rw [r3] at hf3 e3
    simp only [fB_d, fB_n, fB_u, fR_d, fR_n, fR_u] at hl0 hf0 hf1 hf2 hf3
    obtain rfl := u8_of e0
    obtain rfl := u8_of e1
    obtain rfl := u8_of e2
    obtain rfl := u8_of e3
    clear e0 e1 e2 e3 r0 r1 r2 r3
    have y0 : ((({ data := #[100, 45, 45, 117] } : ByteArray)[0]).toNat : Int) = 100 := rfl
    have y1 : ((({ data := #[100, 45, 45, 117] } : ByteArray)[1]).toNat : Int) = 45 := rfl
    have y2 : ((({ data := #[100, 45, 45, 117] } : ByteArray)[2]).toNat : Int) = 45 := rfl
    have y3 : ((({ data := #[100, 45, 45, 117] } : ByteArray)[3]).toNat : Int) = 117 := rfl
    rcases (show (v / 65536 % 32 ≠ 0) ∨ (v / 65536 % 32 = 0) by omega) with h0 | h0
    · obtain ⟨q0, q1, q2⟩ := dec_bad HO.out (by omega)
      unfold decV
      rw [q0, q1, q2, q2, q2, q2]
      have g0 : (v / 65536 % 32 != 0) = true := by simpa using h0
      clear hl0 hf0 hf1 hf2 hf3 q0 q1 q2 h0
      go_enter Tryz.func13, Tryz.ntmps13
      go_wp2_with (go_at_call 30; ((with_reducible refine (refShape_is _ _).mono ?_); rintro e w1 ⟨rfl, rfl⟩); rw [HS.out])
      exact bodyPost_ret (v := .tuple #[.agg #[.int .i64 0, .int .i64 0, .int .i64 0, .int .i64 0, .int .i64 0], .int .i64 3]) (by simp [results, Tryz.results13, go_sem]) rfl ⟨rfl, ((Below.refl _ _).alloc (Nat.le_refl _) _).alloc (by simp) _⟩
    · obtain ⟨q0, q1, q2⟩ := dec_ok HO.out (by omega)
      unfold decV
      rw [q0, q1, q2, q2, q2, q2, show cF v 0 = v / 2097152 % 32 by omega, show cF v 1 = 0 by omega, show cF v 2 = 0 by omega, show cF v 3 = v % 65536 by omega]
      have g0 : (v / 65536 % 32 != 0) = false := by simpa using h0
      clear hl0 hf0 hf1 hf2 hf3 q0 q1 q2 h0
      go_enter Tryz.func13, Tryz.ntmps13
      go_wp2_with (go_at_call 30; ((with_reducible refine (refShape_is _ _).mono ?_); rintro e w1 ⟨rfl, rfl⟩); rw [HS.out])
      exact bodyPost_ret (v := .tuple #[.agg #[.int .i64 (v / 67108864), .int .i64 (v / 2097152 % 32), .int .i64 (0), .int .i64 (0), .int .i64 (v % 65536)], .int .i64 0]) (by simp [results, Tryz.results13, go_sem]; simp only [bne_eq_false_iff_eq] at *; omega) rfl ⟨rfl, ((Below.refl _ _).alloc (Nat.le_refl _) _).alloc (by simp) _⟩
  · rw [r0, r1, r2, r3] at hl0
    rw [r0] at hf0 e0
    rw [r1] at hf1 e1
    rw [r2] at hf2 e2
    rw [r3] at hf3 e3
    simp only [fB_n, fB_u, fR_n, fR_u] at hl0 hf0 hf1 hf2 hf3
    obtain rfl := u8_of e0
    obtain rfl := u8_of e1
    obtain rfl := u8_of e2
    obtain rfl := u8_of e3
    clear e0 e1 e2 e3 r0 r1 r2 r3
    have y0 : ((({ data := #[45, 45, 45, 117] } : ByteArray)[0]).toNat : Int) = 45 := rfl
    have y1 : ((({ data := #[45, 45, 45, 117] } : ByteArray)[1]).toNat : Int) = 45 := rfl
    have y2 : ((({ data := #[45, 45, 45, 117] } : ByteArray)[2]).toNat : Int) = 45 := rfl
    have y3 : ((({ data := #[45, 45, 45, 117] } : ByteArray)[3]).toNat : Int) = 117 := rfl
    rcases (show (v / 2097152 % 32 ≠ 0) ∨ (v / 2097152 % 32 = 0 ∧ v / 65536 % 32 ≠ 0) ∨ (v / 2097152 % 32 = 0 ∧ v / 65536 % 32 = 0) by omega) with h0 | ⟨h0, h1⟩ | ⟨h0, h1⟩
    · obtain ⟨q0, q1, q2⟩ := dec_bad HO.out (by omega)
      unfold decV
      rw [q0, q1, q2, q2, q2, q2]
      have g0 : (v / 2097152 % 32 != 0) = true := by simpa using h0
      clear hl0 hf0 hf1 hf2 hf3 q0 q1 q2 h0
      go_enter Tryz.func13, Tryz.ntmps13
      go_wp2_with (go_at_call 30; ((with_reducible refine (refShape_is _ _).mono ?_); rintro e w1 ⟨rfl, rfl⟩); rw [HS.out])
      exact bodyPost_ret (v := .tuple #[.agg #[.int .i64 0, .int .i64 0, .int .i64 0, .int .i64 0, .int .i64 0], .int .i64 3]) (by simp [results, Tryz.results13, go_sem]) rfl ⟨rfl, ((Below.refl _ _).alloc (Nat.le_refl _) _).alloc (by simp) _⟩
    · obtain ⟨q0, q1, q2⟩ := dec_bad HO.out (by omega)
      unfold decV
      rw [q0, q1, q2, q2, q2, q2]
      have g0 : (v / 2097152 % 32 != 0) = false := by simpa using h0
      have g1 : (v / 65536 % 32 != 0) = true := by simpa using h1
      clear hl0 hf0 hf1 hf2 hf3 q0 q1 q2 h0 h1
      go_enter Tryz.func13, Tryz.ntmps13
      go_wp2_with (go_at_call 30; ((with_reducible refine (refShape_is _ _).mono ?_); rintro e w1 ⟨rfl, rfl⟩); rw [HS.out])
      exact bodyPost_ret (v := .tuple #[.agg #[.int .i64 0, .int .i64 0, .int .i64 0, .int .i64 0, .int .i64 0], .int .i64 3]) (by simp [results, Tryz.results13, go_sem]) rfl ⟨rfl, ((Below.refl _ _).alloc (Nat.le_refl _) _).alloc (by simp) _⟩
    · obtain ⟨q0, q1, q2⟩ := dec_ok HO.out (by omega)
      unfold decV
      rw [q0, q1, q2, q2, q2, q2, show cF v 0 = 0 by omega, show cF v 1 = 0 by omega, show cF v 2 = 0 by omega, show cF v 3 = v % 65536 by omega]
      have g0 : (v / 2097152 % 32 != 0) = false := by simpa using h0
      have g1 : (v / 65536 % 32 != 0) = false := by simpa using h1
      clear hl0 hf0 hf1 hf2 hf3 q0 q1 q2 h0 h1
      go_enter Tryz.func13, Tryz.ntmps13
      go_wp2_with (go_at_call 30; ((with_reducible refine (refShape_is _ _).mono ?_); rintro e w1 ⟨rfl, rfl⟩); rw [HS.out])
      exact bodyPost_ret (v := .tuple #[.agg #[.int .i64 (v / 67108864), .int .i64 (0), .int .i64 (0), .int .i64 (0), .int .i64 (v % 65536)], .int .i64 0]) (by simp [results, Tryz.results13, go_sem]; simp only [bne_eq_false_iff_eq] at *; omega) rfl ⟨rfl, ((Below.refl _ _).alloc (Nat.le_refl _) _).alloc (by simp) _⟩
  · rw [r0, r1, r2, r3] at hl0
    rw [r0] at hf0 e0
    rw [r1] at hf1 e1
    rw [r2] at hf2 e2
    rw [r3] at hf3 e3
    simp only [fB_a, fB_n, fR_a, fR_n] at hl0 hf0 hf1 hf2 hf3
    obtain rfl := u8_of e0
    obtain rfl := u8_of e1
    obtain rfl := u8_of e2
    obtain rfl := u8_of e3
    clear e0 e1 e2 e3 r0 r1 r2 r3
    have y0 : ((({ data := #[45, 97, 45, 45] } : ByteArray)[0]).toNat : Int) = 45 := rfl
    have y1 : ((({ data := #[45, 97, 45, 45] } : ByteArray)[1]).toNat : Int) = 97 := rfl
    have y2 : ((({ data := #[45, 97, 45, 45] } : ByteArray)[2]).toNat : Int) = 45 := rfl
    have y3 : ((({ data := #[45, 97, 45, 45] } : ByteArray)[3]).toNat : Int) = 45 := rfl
    rcases (show (v % 65536 ≠ 0) ∨ (v % 65536 = 0 ∧ v / 2097152 % 32 ≠ 0) ∨ (v % 65536 = 0 ∧ v / 2097152 % 32 = 0) by omega) with h0 | ⟨h0, h1⟩ | ⟨h0, h1⟩
    · obtain ⟨q0, q1, q2⟩ := dec_bad HO.out (by omega)
      unfold decV
      rw [q0, q1, q2, q2, q2, q2]
      have g0 : (v % 65536 != 0) = true := by simpa using h0
      clear hl0 hf0 hf1 hf2 hf3 q0 q1 q2 h0
      go_enter Tryz.func13, Tryz.ntmps13
      go_wp2_with (go_at_call 30; ((with_reducible refine (refShape_is _ _).mono ?_); rintro e w1 ⟨rfl, rfl⟩); rw [HS.out])
      exact bodyPost_ret (v := .tuple #[.agg #[.int .i64 0, .int .i64 0, .int .i64 0, .int .i64 0, .int .i64 0], .int .i64 3]) (by simp [results, Tryz.results13, go_sem]) rfl ⟨rfl, ((Below.refl _ _).alloc (Nat.le_refl _) _).alloc (by simp) _⟩
    · obtain ⟨q0, q1, q2⟩ := dec_bad HO.out (by omega)
      unfold decV
      rw [q0, q1, q2, q2, q2, q2]
      have g0 : (v % 65536 != 0) = false := by simpa using h0
      have g1 : (v / 2097152 % 32 != 0) = true := by simpa using h1
      clear hl0 hf0 hf1 hf2 hf3 q0 q1 q2 h0 h1
      go_enter Tryz.func13, Tryz.ntmps13
      go_wp2_with (go_at_call 30; ((with_reducible refine (refShape_is _ _).mono ?_); rintro e w1 ⟨rfl, rfl⟩); rw [HS.out])
      exact bodyPost_ret (v := .tuple #[.agg #[.int .i64 0, .int .i64 0, .int .i64 0, .int .i64 0, .int .i64 0], .int .i64 3]) (by simp [results, Tryz.results13, go_sem]) rfl ⟨rfl, ((Below.refl _ _).alloc (Nat.le_refl _) _).alloc (by simp) _⟩
    · obtain ⟨q0, q1, q2⟩ := dec_ok HO.out (by omega)
      unfold decV
      rw [q0, q1, q2, q2, q2, q2, show cF v 0 = 0 by omega, show cF v 1 = v / 65536 % 32 by omega, show cF v 2 = 0 by omega, show cF v 3 = 0 by omega]
      have g0 : (v % 65536 != 0) = false := by simpa using h0
      have g1 : (v / 2097152 % 32 != 0) = false := by simpa using h1
      clear hl0 hf0 hf1 hf2 hf3 q0 q1 q2 h0 h1
      go_enter Tryz.func13, Tryz.ntmps13
      go_wp2_with (go_at_call 30; ((with_reducible refine (refShape_is _ _).mono ?_); rintro e w1 ⟨rfl, rfl⟩); rw [HS.out])
      exact bodyPost_ret (v := .tuple #[.agg #[.int .i64 (v / 67108864), .int .i64 (0), .int .i64 (v / 65536 % 32), .int .i64 (0), .int .i64 (0)], .int .i64 0]) (by simp [results, Tryz.results13, go_sem]; simp only [bne_eq_false_iff_eq] at *; omega) rfl ⟨rfl, ((Below.refl _ _).alloc (Nat.le_refl _) _).alloc (by simp) _⟩
  · rw [r0, r1, r2, r3] at hl0
    rw [r0] at hf0 e0
    rw [r1] at hf1 e1
    rw [r2] at hf2 e2
    rw [r3] at hf3 e3
    simp only [fB_n, fR_n] at hl0 hf0 hf1 hf2 hf3
    obtain rfl := u8_of e0
    obtain rfl := u8_of e1
    obtain rfl := u8_of e2
    obtain rfl := u8_of e3
    clear e0 e1 e2 e3 r0 r1 r2 r3
    have y0 : ((({ data := #[45, 45, 45, 45] } : ByteArray)[0]).toNat : Int) = 45 := rfl
    have y1 : ((({ data := #[45, 45, 45, 45] } : ByteArray)[1]).toNat : Int) = 45 := rfl
    have y2 : ((({ data := #[45, 45, 45, 45] } : ByteArray)[2]).toNat : Int) = 45 := rfl
    have y3 : ((({ data := #[45, 45, 45, 45] } : ByteArray)[3]).toNat : Int) = 45 := rfl
    rcases (show (v % 65536 ≠ 0) ∨ (v % 65536 = 0 ∧ v / 2097152 % 32 ≠ 0) ∨ (v % 65536 = 0 ∧ v / 2097152 % 32 = 0 ∧ v / 65536 % 32 ≠ 0) ∨ (v % 65536 = 0 ∧ v / 2097152 % 32 = 0 ∧ v / 65536 % 32 = 0) by omega) with h0 | ⟨h0, h1⟩ | ⟨h0, h1, h2⟩ | ⟨h0, h1, h2⟩
    · obtain ⟨q0, q1, q2⟩ := dec_bad HO.out (by omega)
      unfold decV
      rw [q0, q1, q2, q2, q2, q2]
      have g0 : (v % 65536 != 0) = true := by simpa using h0
      clear hl0 hf0 hf1 hf2 hf3 q0 q1 q2 h0
      go_enter Tryz.func13, Tryz.ntmps13
      go_wp2_with (go_at_call 30; ((with_reducible refine (refShape_is _ _).mono ?_); rintro e w1 ⟨rfl, rfl⟩); rw [HS.out])
      exact bodyPost_ret (v := .tuple #[.agg #[.int .i64 0, .int .i64 0, .int .i64 0, .int .i64 0, .int .i64 0], .int .i64 3]) (by simp [results, Tryz.results13, go_sem]) rfl ⟨rfl, ((Below.refl _ _).alloc (Nat.le_refl _) _).alloc (by simp) _⟩
    · obtain ⟨q0, q1, q2⟩ := dec_bad HO.out (by omega)
      unfold decV
      rw [q0, q1, q2, q2, q2, q2]
      have g0 : (v % 65536 != 0) = false := by simpa using h0
      have g1 : (v / 2097152 % 32 != 0) = true := by simpa using h1
      clear hl0 hf0 hf1 hf2 hf3 q0 q1 q2 h0 h1
      go_enter Tryz.func13, Tryz.ntmps13
      go_wp2_with (go_at_call 30; ((with_reducible refine (refShape_is _ _).mono ?_); rintro e w1 ⟨rfl, rfl⟩); rw [HS.out])
      exact bodyPost_ret (v := .tuple #[.agg #[.int .i64 0, .int .i64 0, .int .i64 0, .int .i64 0, .int .i64 0], .int .i64 3]) (by simp [results, Tryz.results13, go_sem]) rfl ⟨rfl, ((Below.refl _ _).alloc (Nat.le_refl _) _).alloc (by simp) _⟩
    · obtain ⟨q0, q1, q2⟩ := dec_bad HO.out (by omega)
      unfold decV
      rw [q0, q1, q2, q2, q2, q2]
      have g0 : (v % 65536 != 0) = false := by simpa using h0
      have g1 : (v / 2097152 % 32 != 0) = false := by simpa using h1
      have g2 : (v / 65536 % 32 != 0) = true := by simpa using h2
      clear hl0 hf0 hf1 hf2 hf3 q0 q1 q2 h0 h1 h2
      go_enter Tryz.func13, Tryz.ntmps13
      go_wp2_with (go_at_call 30; ((with_reducible refine (refShape_is _ _).mono ?_); rintro e w1 ⟨rfl, rfl⟩); rw [HS.out])
      exact bodyPost_ret (v := .tuple #[.agg #[.int .i64 0, .int .i64 0, .int .i64 0, .int .i64 0, .int .i64 0], .int .i64 3]) (by simp [results, Tryz.results13, go_sem]) rfl ⟨rfl, ((Below.refl _ _).alloc (Nat.le_refl _) _).alloc (by simp) _⟩
    · obtain ⟨q0, q1, q2⟩ := dec_ok HO.out (by omega)
      unfold decV
      rw [q0, q1, q2, q2, q2, q2, show cF v 0 = 0 by omega, show cF v 1 = 0 by omega, show cF v 2 = 0 by omega, show cF v 3 = 0 by omega]
      have g0 : (v % 65536 != 0) = false := by simpa using h0
      have g1 : (v / 2097152 % 32 != 0) = false := by simpa using h1
      have g2 : (v / 65536 % 32 != 0) = false := by simpa using h2
      clear hl0 hf0 hf1 hf2 hf3 q0 q1 q2 h0 h1 h2
      go_enter Tryz.func13, Tryz.ntmps13
      go_wp2_with (go_at_call 30; ((with_reducible refine (refShape_is _ _).mono ?_); rintro e w1 ⟨rfl, rfl⟩); rw [HS.out])
      exact bodyPost_ret (v := .tuple #[.agg #[.int .i64 (v / 67108864), .int .i64 (0), .int .i64 (0), .int .i64 (0), .int .i64 (0)], .int .i64 0]) (by simp [results, Tryz.results13, go_sem]; simp only [bne_eq_false_iff_eq] at *; omega) rfl ⟨rfl, ((Below.refl _ _).alloc (Nat.le_refl _) _).alloc (by simp) _⟩

end Go.Proofs.YtggiaopdgijgnaaGreatDoor
