/- What package code's fields answer of words: bits, and what is read. Conditions: an instruction's field lies below what is made. -/
import Derived.Test.YtcoicgkpikoibaaGreatDoorCodA
namespace Go.Proofs.YtcoicgkpikoibaaGreatDoor
open Go.RowKit

theorem pow_at (l : Int) : (0 : Int) < 2 ^ rAt l ∧ (2 : Int) ^ rAt l ≤ 2097152 := by
  unfold rAt
  repeat' split
  all_goals decide
theorem pow_sz (l : Int) : (0 : Int) < 2 ^ rSz l ∧ (2 : Int) ^ rSz l ≤ 65536 ∧ rSz l ≤ 16 := by
  unfold rSz
  repeat' split
  all_goals decide
theorem pow_both (l : Int) : (2 : Int) ^ rSz l * 2 ^ rAt l ≤ 4294967296 := by
  by_cases h1 : l = 100
  · subst h1; decide
  by_cases h2 : l = 97
  · subst h2; decide
  by_cases h3 : l = 98
  · subst h3; decide
  have e : rAt l = 0 := by unfold rAt; rw [if_neg h1, if_neg h2, if_neg h3]
  have := (pow_sz l).2.1
  rw [e]; omega
theorem u32_wrap (x : Int) : IntKind.u32.wrap x = x % 4294967296 := by simp [IntKind.wrap, IntKind.bits, IntKind.signed]
theorem sz_cases (l : Int) : rSz l = 5 ∨ rSz l = 16 ∨ rSz l = 0 := by
  unfold rSz
  repeat' split
  all_goals simp
theorem mask_walk (l x : Int) : bits .and .u32 (IntKind.u32.wrap x) (2 ^ rSz l - 1) = x % 2 ^ rSz l := by
  rw [bits_and_mask .u32 (rSz l) (Nat.le_trans (pow_sz l).2.2 (by decide)), u32_wrap, u32_wrap]
  rcases sz_cases l with h | h | h <;> rw [h] <;> omega
theorem bits_walk (l x : Int) : IntKind.u32.wrap (x % 2 ^ rSz l * 2 ^ min (rAt l) 32) = fBits l x := by
  have p := pow_at l
  have s := pow_sz l
  have q := pow_both l
  have e : min (rAt l) 32 = rAt l := by
    apply Nat.min_eq_left
    unfold rAt
    repeat' split
    all_goals decide
  have y0 : 0 ≤ x % 2 ^ rSz l := Int.emod_nonneg _ (by omega)
  have y1 : x % 2 ^ rSz l < 2 ^ rSz l := Int.emod_lt_of_pos _ s.1
  have h0 : 0 ≤ x % 2 ^ rSz l * 2 ^ rAt l := Int.mul_nonneg y0 (by omega)
  have h1 : x % 2 ^ rSz l * 2 ^ rAt l < 2 ^ rSz l * 2 ^ rAt l := Int.mul_lt_mul_of_pos_right y1 p.1
  rw [e, u32_wrap]
  unfold fBits
  exact Int.emod_eq_of_lt h0 (by omega)
/-- What a region upon a field's box and a room's box reads. -/
theorem boxes_on {w0 w w' : World} {B b off g : Nat} {l x f v0 v1 v2 v3 : Value} (h : (w.cell? ⟨B, 0, none⟩ = some l ∧ w.cell? ⟨B, 1, none⟩ = some f ∧ w.cell? ⟨b, off, none⟩ = some x ∧ w.cell? ⟨g, 0, none⟩ = some v0 ∧ w.cell? ⟨g, 1, none⟩ = some v1 ∧ w.cell? ⟨g, 2, none⟩ = some v2 ∧ w.cell? ⟨g, 3, none⟩ = some v3) ∧ Below B w0 w ∧ g + 1 ≤ w.heap.size)
    (hb : b < B) (hg : B < g) (k : Below w.heap.size w w') :
    (w'.cell? ⟨B, 0, none⟩ = some l ∧ w'.cell? ⟨B, 1, none⟩ = some f ∧ w'.cell? ⟨b, off, none⟩ = some x ∧ w'.cell? ⟨g, 0, none⟩ = some v0 ∧ w'.cell? ⟨g, 1, none⟩ = some v1 ∧ w'.cell? ⟨g, 2, none⟩ = some v2 ∧ w'.cell? ⟨g, 3, none⟩ = some v3) ∧ Below B w0 w' ∧ g + 1 ≤ w'.heap.size := by
  obtain ⟨⟨c0, c1, c2, c3, c4, c5, c6⟩, hb2, hl⟩ := h
  exact ⟨⟨(k.cell (p := ⟨B, 0, none⟩) (by show B < _; omega)).trans c0, (k.cell (p := ⟨B, 1, none⟩) (by show B < _; omega)).trans c1, (k.cell (p := ⟨b, off, none⟩) (by show b < _; omega)).trans c2, (k.cell (p := ⟨g, 0, none⟩) hl).trans c3, (k.cell (p := ⟨g, 1, none⟩) hl).trans c4, (k.cell (p := ⟨g, 2, none⟩) hl).trans c5, (k.cell (p := ⟨g, 3, none⟩) hl).trans c6⟩, hb2.trans (k.mono (by omega)), Nat.le_trans hl k.size⟩

theorem box_new {w : World} {b off : Nat} {x : Value} (l f : Value) (T : TypeId) (hb : b < w.heap.size) (hc : w.cell? ⟨b, off, none⟩ = some x) :
    (w.alloc (.cells #[l, f] T)).cell? ⟨w.heap.size, 0, none⟩ = some l ∧ (w.alloc (.cells #[l, f] T)).cell? ⟨w.heap.size, 1, none⟩ = some f ∧ (w.alloc (.cells #[l, f] T)).cell? ⟨b, off, none⟩ = some x ∧ Below w.heap.size w (w.alloc (.cells #[l, f] T)) ∧ w.heap.size + 1 ≤ (w.alloc (.cells #[l, f] T)).heap.size :=
  ⟨by go_cell, by go_cell, (((Below.refl w.heap.size w).alloc (Nat.le_refl _) _).cell (p := ⟨b, off, none⟩) hb).trans hc, (Below.refl _ _).alloc (Nat.le_refl _) _, by simp⟩
set_option maxHeartbeats 1000000 in
theorem codeBits_is (fn b off : Nat) (l x z : Int) (w : World) (hK : ∀ args w, Sem.run Tryz.prog (callFunc fn args) w = .ok (.enter fn args) w) (hF : ∀ w, Calls Tryz.prog fn #[.pointer (some ⟨b, 0, none⟩)] w fun e w' => e = .returned (.pointer (some ⟨b, off, none⟩)) ∧ w = w')
    (hc : w.cell? ⟨b, off, none⟩ = some (.int .i64 x)) (hb : b < w.heap.size) (hz : fBits l x = z) :
    Calls Tryz.prog 64 #[.agg #[.int .u8 l, .func (.func fn) #[] #[]], .pointer (some ⟨b, 0, none⟩)] w fun e w' => e = .returned (.int .u32 z) ∧ Below w.heap.size w w' := by
  have HF := Lib.hid hF
  have HZ := Lib.hid hz
  have HB := Lib.hid hb
  have HC := Lib.hid hc
  have P := pow_at l
  have S := pow_sz l
  have y0 : 0 ≤ x % 2 ^ rSz l := Int.emod_nonneg _ (by omega)
  have y1 : x % 2 ^ rSz l < 2 ^ rSz l := Int.emod_lt_of_pos _ S.1
  clear hF hz hb hc
  go_enter Tryz.func64, Tryz.ntmps64
  go_wp2_with (go_at_call 100; ((with_reducible refine (codeRoom_is l _ _).mono ?_); rintro e w1 ⟨rfl, hq⟩); have hq1 := box_on (box_new (.int .u8 l) (.func (.func fn) #[] #[]) 101 HB.out HC.out) HB.out hq)
  obtain ⟨W, hW⟩ : ∃ W, w1.alloc (.cells #[.int .u64 (rAt l), .int .u64 (rSz l), .int .i64 (rLow l), .int .i64 (rHigh l)] 121) = W := ⟨_, rfl⟩
  rw [hW]
  have q0 := box_on hq1 HB.out ((Below.refl _ _).alloc (Nat.le_refl _) (.cells #[.int .u64 (rAt l), .int .u64 (rSz l), .int .i64 (rLow l), .int .i64 (rHigh l)] 121))
  rw [hW] at q0
  have r0 : W.cell? ⟨w1.heap.size, 0, none⟩ = some (.int .u64 (rAt l)) ∧ W.cell? ⟨w1.heap.size, 1, none⟩ = some (.int .u64 (rSz l)) ∧ W.cell? ⟨w1.heap.size, 2, none⟩ = some (.int .i64 (rLow l)) ∧ W.cell? ⟨w1.heap.size, 3, none⟩ = some (.int .i64 (rHigh l)) ∧ w1.heap.size + 1 ≤ W.heap.size := by
    subst hW; exact ⟨by go_cell, by go_cell, by go_cell, by go_cell, by simp⟩
  have HG := Lib.hid (show w.heap.size < w1.heap.size from hq1.2.2.2.2)
  obtain ⟨q1, q2, q3, q4, q5⟩ := q0
  obtain ⟨r1, r2, r3, r4, r5⟩ := r0
  have u0 := Lib.hid S.2.2
  obtain ⟨P0, P1⟩ := P
  obtain ⟨S0, S1, _⟩ := S
  have E1 : bits .and .u32 (IntKind.u32.wrap x) (2 ^ rSz l - 1) = x % 2 ^ rSz l := mask_walk l x
  have E2 := Lib.hid ((bits_walk l x).trans HZ.out)
  have hS0 : (W.drew.cell? ⟨w.heap.size, 0, none⟩ = some (.int .u8 l) ∧ W.drew.cell? ⟨w.heap.size, 1, none⟩ = some (.func (.func fn) #[] #[]) ∧ W.drew.cell? ⟨b, off, none⟩ = some (.int .i64 x) ∧ W.drew.cell? ⟨w1.heap.size, 0, none⟩ = some (.int .u64 (rAt l)) ∧ W.drew.cell? ⟨w1.heap.size, 1, none⟩ = some (.int .u64 (rSz l)) ∧ W.drew.cell? ⟨w1.heap.size, 2, none⟩ = some (.int .i64 (rLow l)) ∧ W.drew.cell? ⟨w1.heap.size, 3, none⟩ = some (.int .i64 (rHigh l))) ∧ Below w.heap.size w W.drew ∧ w1.heap.size + 1 ≤ W.drew.heap.size := ⟨⟨q1, q2, q3, r1, r2, r3, r4⟩, q4.drew, r5⟩
  clear hW hq1 hq q1 q2 q3 q4 q5 r1 r2 r3 r4 r5
  generalize rLow l = lo at *
  generalize rHigh l = hi at *
  generalize rAt l = at0 at *
  generalize rSz l = sz at *
  go_region_held3 (fun w' => (w'.cell? ⟨w.heap.size, 0, none⟩ = some (.int .u8 l) ∧ w'.cell? ⟨w.heap.size, 1, none⟩ = some (.func (.func fn) #[] #[]) ∧ w'.cell? ⟨b, off, none⟩ = some (.int .i64 x) ∧ w'.cell? ⟨w1.heap.size, 0, none⟩ = some (.int .u64 at0) ∧ w'.cell? ⟨w1.heap.size, 1, none⟩ = some (.int .u64 sz) ∧ w'.cell? ⟨w1.heap.size, 2, none⟩ = some (.int .i64 lo) ∧ w'.cell? ⟨w1.heap.size, 3, none⟩ = some (.int .i64 hi)) ∧ Below w.heap.size w w' ∧ w1.heap.size + 1 ≤ w'.heap.size)
    (with_reducible assumption)
    (first
      | (go_at_call 101; ((with_reducible refine (codeOnes_is _ _ _ _ _ sz _ rfl u0.out rfl).mono ?_); rintro e w2 ⟨rfl, hq⟩); have hS := boxes_on (by assumption) HB.out HG.out hq)
      | ((with_reducible refine (HF.out _).mono ?_); rintro e w3 ⟨rfl, rfl⟩))
  have hB := Lib.hid hS.2.1
  clear hS hS0
  go_wp2
  go_ret
  exact ⟨ret_int E2.out, hB.out⟩
theorem raw_bd {l : Int} (v : Int) : 0 ≤ fRaw l v ∧ fRaw l v ≤ 65535 := by
  have s := pow_sz l
  have h0 : 0 ≤ v / 2 ^ rAt l % 2 ^ rSz l := Int.emod_nonneg _ (by omega)
  have h1 : v / 2 ^ rAt l % 2 ^ rSz l < 2 ^ rSz l := Int.emod_lt_of_pos _ s.1
  unfold fRaw
  omega
theorem raw_walk (l v : Int) : bits .and .u32 (v / 2 ^ min (rAt l) 32) (2 ^ rSz l - 1) = fRaw l v := by
  have p := pow_at l
  have s := pow_sz l
  have b := raw_bd (l := l) v
  have e : min (rAt l) 32 = rAt l := by
    apply Nat.min_eq_left
    unfold rAt
    repeat' split
    all_goals decide
  rw [e, bits_and_mask .u32 (rSz l) (Nat.le_trans s.2.2 (by decide)), u32_wrap]
  exact Int.emod_eq_of_lt b.1 (show fRaw l v < _ by omega)
/-- A call that writes one cell, and makes memory else. -/
def Wrote (w : World) (p : Addr) (v : Value) (w' : World) : Prop := ∃ w2, Below w.heap.size w w2 ∧ w2.setCell p v = w'
set_option maxHeartbeats 1000000 in
theorem codeRead_is (fn b off : Nat) (l x v z : Int) (w : World) (hK : ∀ args w, Sem.run Tryz.prog (callFunc fn args) w = .ok (.enter fn args) w) (hF : ∀ w, Calls Tryz.prog fn #[.pointer (some ⟨b, 0, none⟩)] w fun e w' => e = .returned (.pointer (some ⟨b, off, none⟩)) ∧ w = w')
    (hc : w.cell? ⟨b, off, none⟩ = some (.int .i64 x)) (hf : w.frozen? ⟨b, off, none⟩ = false) (hb : b < w.heap.size) (hz : fRead l v = z) :
    Calls Tryz.prog 63 #[.agg #[.int .u8 l, .func (.func fn) #[] #[]], .int .u32 v, .pointer (some ⟨b, 0, none⟩)] w fun e w' => e = .returned (.tuple #[]) ∧ Wrote w ⟨b, off, none⟩ (.int .i64 z) w' := by
  have HF := Lib.hid hF
  have HZ := Lib.hid hz
  have HB := Lib.hid hb
  have HC := Lib.hid hc
  have P := pow_at l
  have S := pow_sz l
  have E1 := raw_walk l v
  have Y := raw_bd (l := l) v
  have HF2 := Lib.hid hf
  clear hF hz hb hc hf
  go_enter Tryz.func63, Tryz.ntmps63
  go_wp2_with (go_at_call 100; ((with_reducible refine (codeRoom_is l _ _).mono ?_); rintro e w1 ⟨rfl, hq⟩); have hq1 := box_on (box_new (.int .u8 l) (.func (.func fn) #[] #[]) 101 HB.out HC.out) HB.out hq)
  obtain ⟨W, hW⟩ : ∃ W, w1.alloc (.cells #[.int .u64 (rAt l), .int .u64 (rSz l), .int .i64 (rLow l), .int .i64 (rHigh l)] 121) = W := ⟨_, rfl⟩
  rw [hW]
  have q0 := box_on hq1 HB.out ((Below.refl _ _).alloc (Nat.le_refl _) (.cells #[.int .u64 (rAt l), .int .u64 (rSz l), .int .i64 (rLow l), .int .i64 (rHigh l)] 121))
  rw [hW] at q0
  have r0 : W.cell? ⟨w1.heap.size, 0, none⟩ = some (.int .u64 (rAt l)) ∧ W.cell? ⟨w1.heap.size, 1, none⟩ = some (.int .u64 (rSz l)) ∧ W.cell? ⟨w1.heap.size, 2, none⟩ = some (.int .i64 (rLow l)) ∧ W.cell? ⟨w1.heap.size, 3, none⟩ = some (.int .i64 (rHigh l)) ∧ w1.heap.size + 1 ≤ W.heap.size := by
    subst hW; exact ⟨by go_cell, by go_cell, by go_cell, by go_cell, by simp⟩
  have HG := Lib.hid (show w.heap.size < w1.heap.size from hq1.2.2.2.2)
  obtain ⟨q1, q2, q3, q4, q5⟩ := q0
  obtain ⟨r1, r2, r3, r4, r5⟩ := r0
  have u0 := Lib.hid S.2.2
  obtain ⟨P0, P1⟩ := P
  obtain ⟨S0, S1, _⟩ := S
  unfold fRead at HZ
  have E3 : IntKind.i64.wrap (fRaw l v) = fRaw l v := IntWalk.i64_in _ (by omega)
  have hS0 : (W.drew.cell? ⟨w.heap.size, 0, none⟩ = some (.int .u8 l) ∧ W.drew.cell? ⟨w.heap.size, 1, none⟩ = some (.func (.func fn) #[] #[]) ∧ W.drew.cell? ⟨b, off, none⟩ = some (.int .i64 x) ∧ W.drew.cell? ⟨w1.heap.size, 0, none⟩ = some (.int .u64 (rAt l)) ∧ W.drew.cell? ⟨w1.heap.size, 1, none⟩ = some (.int .u64 (rSz l)) ∧ W.drew.cell? ⟨w1.heap.size, 2, none⟩ = some (.int .i64 (rLow l)) ∧ W.drew.cell? ⟨w1.heap.size, 3, none⟩ = some (.int .i64 (rHigh l))) ∧ Below w.heap.size w W.drew ∧ w1.heap.size + 1 ≤ W.drew.heap.size := ⟨⟨q1, q2, q3, r1, r2, r3, r4⟩, q4.drew, r5⟩
  clear hW hq1 hq q1 q2 q3 q4 q5 r1 r2 r3 r4 r5
  generalize fRaw l v = y at *
  generalize rLow l = lo at *
  generalize rHigh l = hi at *
  generalize rAt l = at0 at *
  generalize rSz l = sz at *
  go_region_held3 (fun w' => (w'.cell? ⟨w.heap.size, 0, none⟩ = some (.int .u8 l) ∧ w'.cell? ⟨w.heap.size, 1, none⟩ = some (.func (.func fn) #[] #[]) ∧ w'.cell? ⟨b, off, none⟩ = some (.int .i64 x) ∧ w'.cell? ⟨w1.heap.size, 0, none⟩ = some (.int .u64 at0) ∧ w'.cell? ⟨w1.heap.size, 1, none⟩ = some (.int .u64 sz) ∧ w'.cell? ⟨w1.heap.size, 2, none⟩ = some (.int .i64 lo) ∧ w'.cell? ⟨w1.heap.size, 3, none⟩ = some (.int .i64 hi)) ∧ Below w.heap.size w w' ∧ w1.heap.size + 1 ≤ w'.heap.size)
    (with_reducible assumption)
    (first
      | (go_at_call 101; ((with_reducible refine (codeOnes_is _ _ _ _ _ sz _ rfl u0.out rfl).mono ?_); rintro e w2 ⟨rfl, hq⟩); have hS := boxes_on (by assumption) HB.out HG.out hq)
      | ((with_reducible refine (HF.out _).mono ?_); rintro e w3 ⟨rfl, rfl⟩))
  have hB := Lib.hid hS.2.1
  have r3 := hS.1.2.2.2.2.2.2
  have r1 := hS.1.2.2.2.2.1
  have q1 := hS.1.2.1
  have q2 := hS.1.2.2.1
  have HX : w2.frozen? ⟨b, off, none⟩ = false := (hS.2.1.frozen (p := ⟨b, off, none⟩) HB.out).trans HF2.out
  have hz := HZ.out
  clear hS hS0
  by_cases h1 : hi < y
  · rw [if_pos h1] at hz
    subst hz
    go_wp2_with ((with_reducible refine (HF.out _).mono ?_); rintro e w3 ⟨rfl, rfl⟩)
    refine bodyPost_end (results_none rfl _ _ _) rfl ?_
    exact ⟨rfl, _, hB.out, rfl⟩
  · rw [if_neg h1] at hz
    subst hz
    go_wp2_with ((with_reducible refine (HF.out _).mono ?_); rintro e w3 ⟨rfl, rfl⟩)
    refine bodyPost_end (results_none rfl _ _ _) rfl ?_
    exact ⟨rfl, _, hB.out, rfl⟩
end Go.Proofs.YtcoicgkpikoibaaGreatDoor
