/- The code of two counted loops behind a number put into a register: what the machine comes to with it in 10000 steps. Nothing of any program. -/
import Derived.Test.YtgmphfagflhglaaGreatDoorBldM
namespace Go.Proofs.YtgmphfagflhglaaGreatDoor
open Go.RowKit Go.IntWalk

theorem shapes : (shL 31 0 = 100 ∧ shL 31 1 = 97 ∧ shL 31 2 = 45 ∧ shL 31 3 = 115) ∧ (shL 1 0 = 100 ∧ shL 1 1 = 97 ∧ shL 1 2 = 98 ∧ shL 1 3 = 45) ∧ (shL 32 0 = 100 ∧ shL 32 1 = 97 ∧ shL 32 2 = 45 ∧ shL 32 3 = 117) ∧
    (shL 33 0 = 100 ∧ shL 33 1 = 45 ∧ shL 33 2 = 45 ∧ shL 33 3 = 117) ∧ (shL 38 0 = 100 ∧ shL 38 1 = 97 ∧ shL 38 2 = 45 ∧ shL 38 3 = 117) ∧ (shL 43 0 = 45 ∧ shL 43 1 = 45 ∧ shL 43 2 = 45 ∧ shL 43 3 = 45) := by decide +kernel
theorem chk_addi {d a n : Int} (hd : 0 ≤ d ∧ d ≤ 31) (ha : 0 ≤ a ∧ a ≤ 31) (hn : -32768 ≤ n ∧ n ≤ 32767) : cChk 31 d a 0 n = 0 := by
  obtain ⟨⟨e0, e1, e2, e3⟩, _⟩ := shapes
  refine chk_mk (by decide) ?_ ?_ ?_ ?_
  · rw [e0, fE_r _ _ (by decide), if_pos hd]
  · rw [e1, fE_r _ _ (by decide), if_pos ha]
  · rw [e2, fE_n, if_pos rfl]
  · rw [e3, fE_s, if_pos hn]
theorem chk_add {d a b : Int} (hd : 0 ≤ d ∧ d ≤ 31) (ha : 0 ≤ a ∧ a ≤ 31) (hb : 0 ≤ b ∧ b ≤ 31) : cChk 1 d a b 0 = 0 := by
  obtain ⟨_, ⟨e0, e1, e2, e3⟩, _⟩ := shapes
  refine chk_mk (by decide) ?_ ?_ ?_ ?_
  · rw [e0, fE_r _ _ (by decide), if_pos hd]
  · rw [e1, fE_r _ _ (by decide), if_pos ha]
  · rw [e2, fE_r _ _ (by decide), if_pos hb]
  · rw [e3, fE_n, if_pos rfl]
theorem chk_ori {d a n : Int} (hd : 0 ≤ d ∧ d ≤ 31) (ha : 0 ≤ a ∧ a ≤ 31) (hn : 0 ≤ n ∧ n ≤ 65535) : cChk 32 d a 0 n = 0 := by
  obtain ⟨_, _, ⟨e0, e1, e2, e3⟩, _⟩ := shapes
  refine chk_mk (by decide) ?_ ?_ ?_ ?_
  · rw [e0, fE_r _ _ (by decide), if_pos hd]
  · rw [e1, fE_r _ _ (by decide), if_pos ha]
  · rw [e2, fE_n, if_pos rfl]
  · rw [e3, fE_u, if_pos hn]
theorem chk_lui {d n : Int} (hd : 0 ≤ d ∧ d ≤ 31) (hn : 0 ≤ n ∧ n ≤ 65535) : cChk 33 d 0 0 n = 0 := by
  obtain ⟨_, _, _, ⟨e0, e1, e2, e3⟩, _⟩ := shapes
  refine chk_mk (by decide) ?_ ?_ ?_ ?_
  · rw [e0, fE_r _ _ (by decide), if_pos hd]
  · rw [e1, fE_n, if_pos rfl]
  · rw [e2, fE_n, if_pos rfl]
  · rw [e3, fE_u, if_pos hn]
theorem chk_blt {d a n : Int} (hd : 0 ≤ d ∧ d ≤ 31) (ha : 0 ≤ a ∧ a ≤ 31) (hn : 0 ≤ n ∧ n ≤ 65535) : cChk 38 d a 0 n = 0 := by
  obtain ⟨_, _, _, _, ⟨e0, e1, e2, e3⟩, _⟩ := shapes
  refine chk_mk (by decide) ?_ ?_ ?_ ?_
  · rw [e0, fE_r _ _ (by decide), if_pos hd]
  · rw [e1, fE_r _ _ (by decide), if_pos ha]
  · rw [e2, fE_n, if_pos rfl]
  · rw [e3, fE_u, if_pos hn]
theorem chk_halt : cChk 43 0 0 0 0 = 0 := by decide +kernel

/-- A number's highest 16 bits and its lowest, put together again. -/
theorem or_halves {k : Int} (h1 : -2147483648 ≤ k) (h2 : k ≤ 2147483647) : wOr (wrap32 (k % 4294967296 / 65536 * 65536)) (k % 4294967296 % 65536) = k := by
  have e : wOr (wrap32 (k % 4294967296 / 65536 * 65536)) (k % 4294967296 % 65536) = bits .or .i32 (wrap32 (k % 4294967296 / 65536 * 65536)) (k % 4294967296 % 65536) := by
    rw [bits_i32_or]; rfl
  rw [e, bits_or_add .i32 16 (by decide) _ _ (by show wrap32 _ % 65536 = 0; unfold wrap32; omega) (by omega) (by show _ < (65536 : Int); omega)]
  have q : (2 : Int) ^ IntKind.i32.bits = 4294967296 := rfl
  rw [q, IntKind.wrap_i32]
  unfold wrap32
  omega

/-- The words that put a number into register 5. -/
def setL (k : Int) : List Int := if -32768 ≤ k ∧ k ≤ 32767 then [cWord 31 5 0 0 k] else [cWord 33 5 0 0 (k % 4294967296 / 65536), cWord 32 5 5 0 (k % 4294967296 % 65536)]
/-- The words of two loops, from place p on. -/
def lpTwo (p x y : Nat) : List Int :=
  [cWord 31 1 0 0 0, cWord 31 2 0 0 x, cWord 31 3 0 0 0, cWord 31 4 0 0 y, cWord 31 6 6 0 1, cWord 1 7 7 1 0, cWord 1 8 8 3 0, cWord 31 3 3 0 1, cWord 38 3 4 0 (p + 4 : Nat), cWord 31 1 1 0 1, cWord 38 1 2 0 (p + 2 : Nat), cWord 43 0 0 0 0]
theorem twoAt (l : List Int) {x y : Nat} (hl : l.length ≤ 2) (hx : x ≤ 30) (hy : y ≤ 30) : TwoAt (l ++ lpTwo l.length x y) l.length x y := by
  have hn : ∀ i, i < 12 → l.length + i < (l ++ lpTwo l.length x y).length := fun i hi => by rw [List.length_append]; show _ < l.length + 12; omega
  have hb : ∀ i, byAt (l ++ lpTwo l.length x y) (l.length + i) = byAt (lpTwo l.length x y) i := fun i => by
    unfold byAt; rw [List.getD_eq_getElem?_getD, List.getElem?_append_right (by omega), Nat.add_sub_cancel_left, ← List.getD_eq_getElem?_getD]
  exact {
    i0 := ⟨hn 0 (by decide), hb 0, chk_addi (by decide) (by decide) (by decide)⟩
    i1 := ⟨hn 1 (by decide), hb 1, chk_addi (by decide) (by decide) (by omega)⟩
    i2 := ⟨hn 2 (by decide), hb 2, chk_addi (by decide) (by decide) (by decide)⟩
    i3 := ⟨hn 3 (by decide), hb 3, chk_addi (by decide) (by decide) (by omega)⟩
    i4 := ⟨hn 4 (by decide), hb 4, chk_addi (by decide) (by decide) (by decide)⟩
    i5 := ⟨hn 5 (by decide), hb 5, chk_add (by decide) (by decide) (by decide)⟩
    i6 := ⟨hn 6 (by decide), hb 6, chk_add (by decide) (by decide) (by decide)⟩
    i7 := ⟨hn 7 (by decide), hb 7, chk_addi (by decide) (by decide) (by decide)⟩
    i8 := ⟨hn 8 (by decide), hb 8, chk_blt (by decide) (by decide) (by omega)⟩
    i9 := ⟨hn 9 (by decide), hb 9, chk_addi (by decide) (by decide) (by decide)⟩
    i10 := ⟨hn 10 (by decide), hb 10, chk_blt (by decide) (by decide) (by omega)⟩
    i11 := ⟨hn 11 (by decide), hb 11, chk_halt⟩ }
theorem at_begin (ram : List Int) : At9 (beginS ram) (0 : Nat) [0, 0, 0, 0, 0, 0, 0, 0, 0] :=
  ⟨rfl, rfl, fun d hd => (by decide : ∀ d, d < 9 → (0 : Int) = [0, 0, 0, 0, 0, 0, 0, 0, 0].getD d 0) d hd⟩
theorem set_leads {k : Int} (h1 : -2147483648 ≤ k) (h2 : k ≤ 2147483647) (r : List Int) : Leads (setL k ++ r) (setL k).length (0 : Nat) [0, 0, 0, 0, 0, 0, 0, 0, 0] ((setL k).length : Nat) [0, 0, 0, 0, 0, k, 0, 0, 0] := by
  unfold setL
  split
  · have i0 : CodeAt ([cWord 31 5 0 0 k] ++ r) 0 31 5 0 0 k := ⟨by rw [List.length_append]; show 0 < 1 + r.length; omega, rfl, chk_addi (by decide) (by decide) (by omega)⟩
    have s := leads_addi (l := [0, 0, 0, 0, 0, 0, 0, 0, 0]) i0 rfl (by decide) (by decide) (by decide)
    have e : wrap32 (List.getD [0, 0, 0, 0, 0, 0, 0, 0, 0] 0 0 + k) = k := by show wrap32 (0 + k) = k; rw [Int.zero_add]; exact wrap_small (by omega) (by omega)
    rw [e] at s
    exact s
  · have i0 : CodeAt ([cWord 33 5 0 0 (k % 4294967296 / 65536), cWord 32 5 5 0 (k % 4294967296 % 65536)] ++ r) 0 33 5 0 0 (k % 4294967296 / 65536) := ⟨by rw [List.length_append]; show 0 < 2 + r.length; omega, rfl, chk_lui (by decide) (by omega)⟩
    have i1 : CodeAt ([cWord 33 5 0 0 (k % 4294967296 / 65536), cWord 32 5 5 0 (k % 4294967296 % 65536)] ++ r) 1 32 5 5 0 (k % 4294967296 % 65536) := ⟨by rw [List.length_append]; show 1 < 2 + r.length; omega, rfl, chk_ori (by decide) (by decide) (by omega)⟩
    have s := (leads_lui (l := [0, 0, 0, 0, 0, 0, 0, 0, 0]) i0 rfl (by decide) (by decide)).trans (leads_ori (l := [0, 0, 0, 0, 0, wrap32 (k % 4294967296 / 65536 * 65536), 0, 0, 0]) i1 rfl (by decide) (by decide) (by decide))
    have e : wOr (List.getD [0, 0, 0, 0, 0, wrap32 (k % 4294967296 / 65536 * 65536), 0, 0, 0] 5 0) (k % 4294967296 % 65536) = k := or_halves h1 h2
    rw [e] at s
    exact s
/-- The code, and what the machine comes to with it. -/
def loopsL (k : Int) (x y : Nat) : List Int := setL k ++ lpTwo (setL k).length x y
theorem set_len (k : Int) : 1 ≤ (setL k).length ∧ (setL k).length ≤ 2 := by unfold setL; split <;> simp
theorem loops_run {k : Int} {x y : Nat} (h1 : -2147483648 ≤ k) (h2 : k ≤ 2147483647) (hx : x ≤ 30) (hx1 : 1 ≤ x) (hy : y ≤ 30) (hy1 : 1 ≤ y) (ram : List Int) :
    (runT (loopsL k x y) 10000 (beginS ram)).st = 1 ∧ (runT (loopsL k x y) 10000 (beginS ram)).reg 5 = k ∧ (runT (loopsL k x y) 10000 (beginS ram)).reg 6 = x * y ∧
    (runT (loopsL k x y) 10000 (beginS ram)).reg 7 = (y * x * (x - 1) / 2 : Int) ∧ (runT (loopsL k x y) 10000 (beginS ram)).reg 8 = (x * y * (y - 1) / 2 : Int) := by
  have hs := set_leads h1 h2 (lpTwo (setL k).length x y) (beginS ram) (at_begin ram)
  obtain ⟨j, hj, q0, q5, q6, q7, q8⟩ := (twoAt (setL k) (set_len k).2 hx hy).all hx hx1 hy hy1 hs
  have e : runT (loopsL k x y) 10000 (beginS ram) = runT (loopsL k x y) j (runT (loopsL k x y) (setL k).length (beginS ram)) := by
    have := (set_len k).2
    rw [show (10000 : Nat) = (setL k).length + (j + (10000 - (setL k).length - j)) by omega, runT_add, runT_add]
    exact runT_off (by rw [show (runT (loopsL k x y) j (runT (loopsL k x y) (setL k).length (beginS ram))).st = 1 from q0]; decide) _
  have t1 := tri_two x
  have t2 := tri_two y
  rw [e]
  refine ⟨q0, q5, q6, q7.trans ?_, q8.trans ?_⟩
  · rw [Int.mul_assoc, ← t1, show (y : Int) * (2 * tri x) = 2 * (y * tri x) by grind]; omega
  · rw [Int.mul_assoc, ← t2, show (x : Int) * (2 * tri y) = 2 * (x * tri y) by grind]; omega
end Go.Proofs.YtgmphfagflhglaaGreatDoor
