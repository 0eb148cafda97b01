/- What package code's fields answer of words: bits, and what is read. Conditions: an instruction's field lies below what is made. -/
import Derived.Test.YtheflkhbmbfajaaDoorCodA
namespace Go.Proofs.YtheflkhbmbfajaaDoor
open Go.RowKit

theorem pow_at (l : Int) : (0 : Int) < 2 ^ rAt l ∧ (2 : Int) ^ rAt l ≤ 2097152 := by
  unfold rAt
  repeat' split
  all_goals decide
theorem pow_sz (l : Int) : (0 : Int) < 2 ^ rSz l ∧ (2 : Int) ^ rSz l ≤ 65536 ∧ rSz l ≤ 16 := by
  unfold rSz
  repeat' split
  all_goals decide
theorem pow_both (l : Int) : (2 : Int) ^ rSz l * 2 ^ rAt l ≤ 4294967296 := by
  by_cases h1 : l = 100
  · subst h1; decide
  by_cases h2 : l = 97
  · subst h2; decide
  by_cases h3 : l = 98
  · subst h3; decide
  have e : rAt l = 0 := by unfold rAt; rw [if_neg h1, if_neg h2, if_neg h3]
  have := (pow_sz l).2.1
  rw [e]; omega
theorem u32_wrap (x : Int) : IntKind.u32.wrap x = x % 4294967296 := by simp [IntKind.wrap, IntKind.bits, IntKind.signed]
theorem sz_cases (l : Int) : rSz l = 5 ∨ rSz l = 16 ∨ rSz l = 0 := by
  unfold rSz
  repeat' split
  all_goals simp
theorem mask_walk (l x : Int) : bits .and .u32 (IntKind.u32.wrap x) (2 ^ rSz l - 1) = x % 2 ^ rSz l := by
  rw [bits_and_mask .u32 (rSz l) (Nat.le_trans (pow_sz l).2.2 (by decide)), u32_wrap, u32_wrap]
  rcases sz_cases l with h | h | h <;> rw [h] <;> omega
theorem bits_walk (l x : Int) : IntKind.u32.wrap (x % 2 ^ rSz l * 2 ^ min (rAt l) 32) = fBits l x := by
  have p := pow_at l
  have s := pow_sz l
  have q := pow_both l
  have e : min (rAt l) 32 = rAt l := by
    apply Nat.min_eq_left
    unfold rAt
    repeat' split
    all_goals decide
  have y0 : 0 ≤ x % 2 ^ rSz l := Int.emod_nonneg _ (by omega)
  have y1 : x % 2 ^ rSz l < 2 ^ rSz l := Int.emod_lt_of_pos _ s.1
  have h0 : 0 ≤ x % 2 ^ rSz l * 2 ^ rAt l := Int.mul_nonneg y0 (by omega)
  have h1 : x % 2 ^ rSz l * 2 ^ rAt l < 2 ^ rSz l * 2 ^ rAt l := Int.mul_lt_mul_of_pos_right y1 p.1
  rw [e, u32_wrap]
  unfold fBits
  exact Int.emod_eq_of_lt h0 (by omega)
/-- What a region upon a field's box and a room's box reads. -/
theorem boxes_on {w0 w w' : World} {B b off g : Nat} {l x f v0 v1 v2 v3 : Value} (h : (w.cell? ⟨B, 0, none⟩ = some l ∧ w.cell? ⟨B, 1, none⟩ = some f ∧ w.cell? ⟨b, off, none⟩ = some x ∧ w.cell? ⟨g, 0, none⟩ = some v0 ∧ w.cell? ⟨g, 1, none⟩ = some v1 ∧ w.cell? ⟨g, 2, none⟩ = some v2 ∧ w.cell? ⟨g, 3, none⟩ = some v3) ∧ Below B w0 w ∧ g + 1 ≤ w.heap.size)
    (hb : b < B) (hg : B < g) (k : Below w.heap.size w w') :
    (w'.cell? ⟨B, 0, none⟩ = some l ∧ w'.cell? ⟨B, 1, none⟩ = some f ∧ w'.cell? ⟨b, off, none⟩ = some x ∧ w'.cell? ⟨g, 0, none⟩ = some v0 ∧ w'.cell? ⟨g, 1, none⟩ = some v1 ∧ w'.cell? ⟨g, 2, none⟩ = some v2 ∧ w'.cell? ⟨g, 3, none⟩ = some v3) ∧ Below B w0 w' ∧ g + 1 ≤ w'.heap.size := by
  obtain ⟨⟨c0, c1, c2, c3, c4, c5, c6⟩, hb2, hl⟩ := h
  exact ⟨⟨(k.cell (p := ⟨B, 0, none⟩) (by show B < _; omega)).trans c0, (k.cell (p := ⟨B, 1, none⟩) (by show B < _; omega)).trans c1, (k.cell (p := ⟨b, off, none⟩) (by show b < _; omega)).trans c2, (k.cell (p := ⟨g, 0, none⟩) hl).trans c3, (k.cell (p := ⟨g, 1, none⟩) hl).trans c4, (k.cell (p := ⟨g, 2, none⟩) hl).trans c5, (k.cell (p := ⟨g, 3, none⟩) hl).trans c6⟩, hb2.trans (k.mono (by omega)), Nat.le_trans hl k.size⟩

theorem box_new {w : World} {b off : Nat} {x : Value} (l f : Value) (T : TypeId) (hb : b < w.heap.size) (hc : w.cell? ⟨b, off, none⟩ = some x) :
    (w.alloc (.cells #[l, f] T)).cell? ⟨w.heap.size, 0, none⟩ = some l ∧ (w.alloc (.cells #[l, f] T)).cell? ⟨w.heap.size, 1, none⟩ = some f ∧ (w.alloc (.cells #[l, f] T)).cell? ⟨b, off, none⟩ = some x ∧ Below w.heap.size w (w.alloc (.cells #[l, f] T)) ∧ w.heap.size + 1 ≤ (w.alloc (.cells #[l, f] T)).heap.size :=
  ⟨by go_cell, by go_cell, (((Below.refl w.heap.size w).alloc (Nat.le_refl _) _).cell (p := ⟨b, off, none⟩) hb).trans hc, (Below.refl _ _).alloc (Nat.le_refl _) _, by simp⟩
theorem raw_bd {l : Int} (v : Int) : 0 ≤ fRaw l v ∧ fRaw l v ≤ 65535 := by
  have s := pow_sz l
  have h0 : 0 ≤ v / 2 ^ rAt l % 2 ^ rSz l := Int.emod_nonneg _ (by omega)
  have h1 : v / 2 ^ rAt l % 2 ^ rSz l < 2 ^ rSz l := Int.emod_lt_of_pos _ s.1
  unfold fRaw
  omega
theorem raw_walk (l v : Int) : bits .and .u32 (v / 2 ^ min (rAt l) 32) (2 ^ rSz l - 1) = fRaw l v := by
  have p := pow_at l
  have s := pow_sz l
  have b := raw_bd (l := l) v
  have e : min (rAt l) 32 = rAt l := by
    apply Nat.min_eq_left
    unfold rAt
    repeat' split
    all_goals decide
  rw [e, bits_and_mask .u32 (rSz l) (Nat.le_trans s.2.2 (by decide)), u32_wrap]
  exact Int.emod_eq_of_lt b.1 (show fRaw l v < _ by omega)
/-- A call that writes one cell, and makes memory else. -/
def Wrote (w : World) (p : Addr) (v : Value) (w' : World) : Prop := ∃ w2, Below w.heap.size w w2 ∧ w2.setCell p v = w'
end Go.Proofs.YtheflkhbmbfajaaDoor
