/- What package code's functions answer. Condition: the package ops' table of shapes lies as the program's text has it. -/
import Derived.Test.YtcoicgkpikoibaaGreatDoorLayers
import Derived.Test.YtcoicgkpikoibaaGreatDoorCodD
import Derived.Test.YtcoicgkpikoibaaGreatDoorStr
import Derived.Handy
import Derived.Lib.Hide
import Derived.Deep.QuietTactic
import Derived.Deep.RegionHeld3
import Derived.BigQuiet
import Derived.Outline
import Derived.Laws.EntriesVeiled
namespace Go.Proofs.YtcoicgkpikoibaaGreatDoor
open Go.RowKit

/-- The table of shapes lies in w as the program's text has it. -/
def ShapesLaid (w : World) : Prop := ∃ ty, w.heap[0]? = some (.cells shapesC ty (0, 0))
theorem ShapesLaid.lt {w : World} (h : ShapesLaid w) : 0 < w.heap.size := by
  obtain ⟨t2, h2⟩ := h
  exact (Array.getElem?_eq_some_iff.1 h2).1
theorem ShapesLaid.below {w0 w : World} {B : Nat} (h : ShapesLaid w0) (hb : Below B w0 w) (hB : 0 < B) : ShapesLaid w := by
  obtain ⟨t2, h2⟩ := h
  exact ⟨t2, by rw [hb.block _ hB]; exact h2⟩

theorem letter_no {l : Int} (h : l ≠ 100 ∧ l ≠ 97 ∧ l ≠ 98 ∧ l ≠ 115 ∧ l ≠ 117) : rAt l = 0 ∧ rSz l = 0 ∧ rLow l = 0 ∧ rHigh l = 0 := by
  obtain ⟨h1, h2, h3, h4, h5⟩ := h
  simp [rAt, rSz, rLow, rHigh, h1, h2, h3, h4, h5]
theorem codeRoom_is (l : Int) (fv : Value) (w : World) :
    Calls Tryz.prog 100 #[.agg #[.int .u8 l, fv]] w fun e w' => e = .returned (.agg #[.int .u64 (rAt l), .int .u64 (rSz l), .int .i64 (rLow l), .int .i64 (rHigh l)]) ∧ Below w.heap.size w w' := by
  rcases (show l = 100 ∨ l = 97 ∨ l = 98 ∨ l = 115 ∨ l = 117 ∨ (l ≠ 100 ∧ l ≠ 97 ∧ l ≠ 98 ∧ l ≠ 115 ∧ l ≠ 117) by omega) with rfl | rfl | rfl | rfl | rfl | h
  · go_enter Tryz.func100, Tryz.ntmps100
    go_wp2
    exact bodyPost_ret (v := .agg #[.int .u64 21, .int .u64 5, .int .i64 0, .int .i64 31]) (by simp [results, Tryz.results100, go_sem]) rfl ⟨rfl, ((Below.refl _ _).alloc (Nat.le_refl _) _).alloc (by simp) _⟩
  · go_enter Tryz.func100, Tryz.ntmps100
    go_wp2
    exact bodyPost_ret (v := .agg #[.int .u64 16, .int .u64 5, .int .i64 0, .int .i64 31]) (by simp [results, Tryz.results100, go_sem]) rfl ⟨rfl, ((Below.refl _ _).alloc (Nat.le_refl _) _).alloc (by simp) _⟩
  · go_enter Tryz.func100, Tryz.ntmps100
    go_wp2
    exact bodyPost_ret (v := .agg #[.int .u64 11, .int .u64 5, .int .i64 0, .int .i64 31]) (by simp [results, Tryz.results100, go_sem]) rfl ⟨rfl, ((Below.refl _ _).alloc (Nat.le_refl _) _).alloc (by simp) _⟩
  · go_enter Tryz.func100, Tryz.ntmps100
    go_wp2
    exact bodyPost_ret (v := .agg #[.int .u64 0, .int .u64 16, .int .i64 (-32768), .int .i64 32767]) (by simp [results, Tryz.results100, go_sem]) rfl ⟨rfl, ((Below.refl _ _).alloc (Nat.le_refl _) _).alloc (by simp) _⟩
  · go_enter Tryz.func100, Tryz.ntmps100
    go_wp2
    exact bodyPost_ret (v := .agg #[.int .u64 0, .int .u64 16, .int .i64 0, .int .i64 65535]) (by simp [results, Tryz.results100, go_sem]) rfl ⟨rfl, ((Below.refl _ _).alloc (Nat.le_refl _) _).alloc (by simp) _⟩
  · obtain ⟨e1, e2, e3, e4⟩ := letter_no h
    obtain ⟨h1, h2, h3, h4, h5⟩ := h
    rw [e1, e2, e3, e4]
    have k1 : (l == 100) = false := by simpa using h1
    have k2 : (l == 97) = false := by simpa using h2
    have k3 : (l == 98) = false := by simpa using h3
    have k4 : (l == 115) = false := by simpa using h4
    have k5 : (l == 117) = false := by simpa using h5
    clear e1 e2 e3 e4
    go_enter Tryz.func100, Tryz.ntmps100
    go_wp2
    exact bodyPost_ret (v := .agg #[.int .u64 0, .int .u64 0, .int .i64 0, .int .i64 0]) (by simp [results, Tryz.results100, go_sem]) rfl ⟨rfl, ((Below.refl _ _).alloc (Nat.le_refl _) _).alloc (by simp) _⟩

/-- A room's value. -/
def roomV (l : Int) : Value := .agg #[.int .u64 (rAt l), .int .u64 (rSz l), .int .i64 (rLow l), .int .i64 (rHigh l)]
theorem codeOnes_is (x s y z : Value) (u : Int) (n : Nat) (w : World) (hs : s = .int .u64 n) (hn : n ≤ 16) (hu : (2 : Int) ^ n - 1 = u) :
    Calls Tryz.prog 101 #[.agg #[x, s, y, z]] w fun e w' => e = .returned (.int .u32 u) ∧ Below w.heap.size w w' := by
  subst hs hu
  have hb := fun o => ((Below.refl w.heap.size w).alloc (Nat.le_refl _) o)
  have p1 : (2 : Int) ^ n ≤ 65536 := by
    have : (2 : Int) ^ n ≤ 2 ^ 16 := by exact_mod_cast Nat.pow_le_pow_right (by decide : 0 < 2) hn
    simpa using this
  have p0 : (0 : Int) < 2 ^ n := Int.pow_pos (by decide)
  go_enter Tryz.func101, Tryz.ntmps101
  go_wp2
  go_ret
  exact ⟨rfl, hb _⟩
theorem codeField1_is (b : Nat) (w : World) :
    Calls Tryz.prog 96 #[.pointer (some ⟨b, 0, none⟩)] w fun e w' => e = .returned (.pointer (some ⟨b, 1, none⟩)) ∧ w = w' := by
  go_enter Tryz.func96, Tryz.ntmps96
  go_wp2
  go_ret
  exact ⟨rfl, rfl⟩
theorem codeField2_is (b : Nat) (w : World) :
    Calls Tryz.prog 97 #[.pointer (some ⟨b, 0, none⟩)] w fun e w' => e = .returned (.pointer (some ⟨b, 2, none⟩)) ∧ w = w' := by
  go_enter Tryz.func97, Tryz.ntmps97
  go_wp2
  go_ret
  exact ⟨rfl, rfl⟩
theorem codeField3_is (b : Nat) (w : World) :
    Calls Tryz.prog 98 #[.pointer (some ⟨b, 0, none⟩)] w fun e w' => e = .returned (.pointer (some ⟨b, 3, none⟩)) ∧ w = w' := by
  go_enter Tryz.func98, Tryz.ntmps98
  go_wp2
  go_ret
  exact ⟨rfl, rfl⟩
theorem codeField4_is (b : Nat) (w : World) :
    Calls Tryz.prog 99 #[.pointer (some ⟨b, 0, none⟩)] w fun e w' => e = .returned (.pointer (some ⟨b, 4, none⟩)) ∧ w = w' := by
  go_enter Tryz.func99, Tryz.ntmps99
  go_wp2
  go_ret
  exact ⟨rfl, rfl⟩
/-- The fields of an instruction with four letters. -/
def fieldsV (l0 l1 l2 l3 : Int) : Value := .agg #[.int .u8 l0, .func (.func 96) #[] #[], .int .u8 l1, .func (.func 97) #[] #[], .int .u8 l2, .func (.func 98) #[] #[], .int .u8 l3, .func (.func 99) #[] #[]]
set_option maxHeartbeats 2000000 in
theorem codeFields_is (x0 x1 x2 x3 : UInt8) (s : ByteArray) (l0 l1 l2 l3 : Int) (w : World) (hs : s = ⟨#[x0, x1, x2, x3]⟩) (h0 : l0 = x0.toNat) (h1 : l1 = x1.toNat) (h2 : l2 = x2.toNat) (h3 : l3 = x3.toNat) :
    Calls Tryz.prog 62 #[.string s] w fun e w' => e = .returned (fieldsV l0 l1 l2 l3) ∧ Below w.heap.size w w' := by
  subst hs h0 h1 h2 h3
  go_enter Tryz.func62, Tryz.ntmps62
  go_wp2
  go_region
  go_wp2
  exact bodyPost_ret (v := fieldsV x0.toNat x1.toNat x2.toNat x3.toNat) (by simp [results, Tryz.results62, go_sem, fieldsV]; exact ⟨rfl, rfl, rfl, rfl⟩) rfl ⟨rfl, ((Below.refl _ _).alloc (Nat.le_refl _) _).drew⟩
theorem box_on {w0 w w' : World} {B b off : Nat} {l x f : Value} (h : w.cell? ⟨B, 0, none⟩ = some l ∧ w.cell? ⟨B, 1, none⟩ = some f ∧ w.cell? ⟨b, off, none⟩ = some x ∧ Below B w0 w ∧ B + 1 ≤ w.heap.size) (hb : b < B) (k : Below w.heap.size w w') :
    w'.cell? ⟨B, 0, none⟩ = some l ∧ w'.cell? ⟨B, 1, none⟩ = some f ∧ w'.cell? ⟨b, off, none⟩ = some x ∧ Below B w0 w' ∧ B + 1 ≤ w'.heap.size :=
  ⟨(k.cell (p := ⟨B, 0, none⟩) h.2.2.2.2).trans h.1, (k.cell (p := ⟨B, 1, none⟩) h.2.2.2.2).trans h.2.1, (k.cell (p := ⟨b, off, none⟩) (Nat.lt_trans hb h.2.2.2.2)).trans h.2.2.1, h.2.2.2.1.trans (k.mono (Nat.le_of_lt h.2.2.2.2)), Nat.le_trans h.2.2.2.2 k.size⟩
theorem box_set {w0 w : World} {B b off g : Nat} {l x f : Value} (h : w.cell? ⟨B, 0, none⟩ = some l ∧ w.cell? ⟨B, 1, none⟩ = some f ∧ w.cell? ⟨b, off, none⟩ = some x ∧ Below B w0 w ∧ B + 1 ≤ w.heap.size) (hb : b < B) (hg : B + 1 ≤ g) (v0 v1 v2 v3 : Value) :
    ((((w.setCell ⟨g, 0, none⟩ v0).setCell ⟨g, 1, none⟩ v1).setCell ⟨g, 2, none⟩ v2).setCell ⟨g, 3, none⟩ v3).cell? ⟨B, 0, none⟩ = some l ∧ ((((w.setCell ⟨g, 0, none⟩ v0).setCell ⟨g, 1, none⟩ v1).setCell ⟨g, 2, none⟩ v2).setCell ⟨g, 3, none⟩ v3).cell? ⟨B, 1, none⟩ = some f ∧
      ((((w.setCell ⟨g, 0, none⟩ v0).setCell ⟨g, 1, none⟩ v1).setCell ⟨g, 2, none⟩ v2).setCell ⟨g, 3, none⟩ v3).cell? ⟨b, off, none⟩ = some x ∧ Below B w0 ((((w.setCell ⟨g, 0, none⟩ v0).setCell ⟨g, 1, none⟩ v1).setCell ⟨g, 2, none⟩ v2).setCell ⟨g, 3, none⟩ v3) ∧
      B + 1 ≤ ((((w.setCell ⟨g, 0, none⟩ v0).setCell ⟨g, 1, none⟩ v1).setCell ⟨g, 2, none⟩ v2).setCell ⟨g, 3, none⟩ v3).heap.size := by
  have k : Below (B + 1) w ((((w.setCell ⟨g, 0, none⟩ v0).setCell ⟨g, 1, none⟩ v1).setCell ⟨g, 2, none⟩ v2).setCell ⟨g, 3, none⟩ v3) :=
    ((((Below.refl _ _).setCell (p := ⟨g, 0, none⟩) hg _).setCell (p := ⟨g, 1, none⟩) hg _).setCell (p := ⟨g, 2, none⟩) hg _).setCell (p := ⟨g, 3, none⟩) hg _
  exact ⟨(k.cell (p := ⟨B, 0, none⟩) (Nat.lt_succ_self _)).trans h.1, (k.cell (p := ⟨B, 1, none⟩) (Nat.lt_succ_self _)).trans h.2.1, (k.cell (p := ⟨b, off, none⟩) (Nat.lt_succ_of_lt hb)).trans h.2.2.1, h.2.2.2.1.trans (k.mono (Nat.le_succ _)), by simpa using h.2.2.2.2⟩
/-- A new room, behind a call. -/
theorem new4 {W w : World} {v0 v1 v2 v3 : Value} {T : TypeId} (h : Below (W.alloc (.cells #[v0, v1, v2, v3] T)).heap.size (W.alloc (.cells #[v0, v1, v2, v3] T)) w) :
    w.cell? ⟨W.heap.size, 0, none⟩ = some v0 ∧ w.cell? ⟨W.heap.size, 1, none⟩ = some v1 ∧ w.cell? ⟨W.heap.size, 2, none⟩ = some v2 ∧ w.cell? ⟨W.heap.size, 3, none⟩ = some v3 ∧
      w.frozen? ⟨W.heap.size, 0, none⟩ = false ∧ w.frozen? ⟨W.heap.size, 1, none⟩ = false ∧ w.frozen? ⟨W.heap.size, 2, none⟩ = false ∧ w.frozen? ⟨W.heap.size, 3, none⟩ = false := by
  have k : W.heap.size < (W.alloc (.cells #[v0, v1, v2, v3] T)).heap.size := by simp
  refine ⟨(h.cell (p := ⟨_, 0, none⟩) k).trans ?_, (h.cell (p := ⟨_, 1, none⟩) k).trans ?_, (h.cell (p := ⟨_, 2, none⟩) k).trans ?_, (h.cell (p := ⟨_, 3, none⟩) k).trans ?_, (h.frozen (p := ⟨_, 0, none⟩) k).trans ?_, (h.frozen (p := ⟨_, 1, none⟩) k).trans ?_, (h.frozen (p := ⟨_, 2, none⟩) k).trans ?_, (h.frozen (p := ⟨_, 3, none⟩) k).trans ?_⟩ <;> go_cell
theorem new4d {W w : World} {v0 v1 v2 v3 : Value} {T : TypeId} (h : Below (W.drew.alloc (.cells #[v0, v1, v2, v3] T)).heap.size (W.drew.alloc (.cells #[v0, v1, v2, v3] T)) w) :
    w.cell? ⟨W.heap.size, 0, none⟩ = some v0 ∧ w.cell? ⟨W.heap.size, 1, none⟩ = some v1 ∧ w.cell? ⟨W.heap.size, 2, none⟩ = some v2 ∧ w.cell? ⟨W.heap.size, 3, none⟩ = some v3 ∧
      w.frozen? ⟨W.heap.size, 0, none⟩ = false ∧ w.frozen? ⟨W.heap.size, 1, none⟩ = false ∧ w.frozen? ⟨W.heap.size, 2, none⟩ = false ∧ w.frozen? ⟨W.heap.size, 3, none⟩ = false := new4 (W := W.drew) h
end Go.Proofs.YtcoicgkpikoibaaGreatDoor
