/- Package code: fields, checks, bits, reads. -/
import Derived.Test.YtekhgidbnpfmnaaGreatDoorLayers
import Derived.Test.YtekhgidbnpfmnaaGreatDoorCodD
import Derived.Test.YtekhgidbnpfmnaaGreatDoorMem
import Derived.Handy
import Derived.Lib.Hide
import Derived.Deep.QuietTactic
import Derived.Deep.RegionHeld3
import Derived.BigQuiet
import Derived.Outline
import Derived.Laws.EntriesVeiled
namespace Go.Proofs.YtekhgidbnpfmnaaGreatDoor
open Go.RowKit

/-- The table of shapes lies in w as the program's text has it. -/
def ShapesLaid (w : World) : Prop := ∃ ty, w.heap[1]? = some (.cells shapesC ty (0, 0))
theorem ShapesLaid.lt {w : World} (h : ShapesLaid w) : 1 < w.heap.size := by
  obtain ⟨t2, h2⟩ := h
  exact (Array.getElem?_eq_some_iff.1 h2).1
theorem ShapesLaid.below {w0 w : World} {B : Nat} (h : ShapesLaid w0) (hb : Below B w0 w) (hB : 1 < B) : ShapesLaid w := by
  obtain ⟨t2, h2⟩ := h
  exact ⟨t2, by rw [hb.block _ hB]; exact h2⟩

theorem letter_no {l : Int} (h : l ≠ 100 ∧ l ≠ 97 ∧ l ≠ 98 ∧ l ≠ 115 ∧ l ≠ 117) : rAt l = 0 ∧ rSz l = 0 ∧ rLow l = 0 ∧ rHigh l = 0 := by
  obtain ⟨h1, h2, h3, h4, h5⟩ := h
  simp [rAt, rSz, rLow, rHigh, h1, h2, h3, h4, h5]
theorem codeRoom_is (l : Int) (fv : Value) (w : World) :
    Calls Tryz.prog 126 #[.agg #[.int .u8 l, fv]] w fun e w' => e = .returned (.agg #[.int .u64 (rAt l), .int .u64 (rSz l), .int .i64 (rLow l), .int .i64 (rHigh l)]) ∧ Below w.heap.size w w' := by
  rcases (show l = 100 ∨ l = 97 ∨ l = 98 ∨ l = 115 ∨ l = 117 ∨ (l ≠ 100 ∧ l ≠ 97 ∧ l ≠ 98 ∧ l ≠ 115 ∧ l ≠ 117) by omega) with rfl | rfl | rfl | rfl | rfl | h
  · go_enter Tryz.func126, Tryz.ntmps126
    go_wp2
    exact bodyPost_ret (v := .agg #[.int .u64 21, .int .u64 5, .int .i64 0, .int .i64 31]) (by simp [results, Tryz.results126, go_sem]) rfl ⟨rfl, ((Below.refl _ _).alloc (Nat.le_refl _) _).alloc (by simp) _⟩
  · go_enter Tryz.func126, Tryz.ntmps126
    go_wp2
    exact bodyPost_ret (v := .agg #[.int .u64 16, .int .u64 5, .int .i64 0, .int .i64 31]) (by simp [results, Tryz.results126, go_sem]) rfl ⟨rfl, ((Below.refl _ _).alloc (Nat.le_refl _) _).alloc (by simp) _⟩
  · go_enter Tryz.func126, Tryz.ntmps126
    go_wp2
    exact bodyPost_ret (v := .agg #[.int .u64 11, .int .u64 5, .int .i64 0, .int .i64 31]) (by simp [results, Tryz.results126, go_sem]) rfl ⟨rfl, ((Below.refl _ _).alloc (Nat.le_refl _) _).alloc (by simp) _⟩
  · go_enter Tryz.func126, Tryz.ntmps126
    go_wp2
    exact bodyPost_ret (v := .agg #[.int .u64 0, .int .u64 16, .int .i64 (-32768), .int .i64 32767]) (by simp [results, Tryz.results126, go_sem]) rfl ⟨rfl, ((Below.refl _ _).alloc (Nat.le_refl _) _).alloc (by simp) _⟩
  · go_enter Tryz.func126, Tryz.ntmps126
    go_wp2
    exact bodyPost_ret (v := .agg #[.int .u64 0, .int .u64 16, .int .i64 0, .int .i64 65535]) (by simp [results, Tryz.results126, go_sem]) rfl ⟨rfl, ((Below.refl _ _).alloc (Nat.le_refl _) _).alloc (by simp) _⟩
  · obtain ⟨e1, e2, e3, e4⟩ := letter_no h
    obtain ⟨h1, h2, h3, h4, h5⟩ := h
    rw [e1, e2, e3, e4]
    have k1 : (l == 100) = false := by simpa using h1
    have k2 : (l == 97) = false := by simpa using h2
    have k3 : (l == 98) = false := by simpa using h3
    have k4 : (l == 115) = false := by simpa using h4
    have k5 : (l == 117) = false := by simpa using h5
    clear e1 e2 e3 e4
    go_enter Tryz.func126, Tryz.ntmps126
    go_wp2
    exact bodyPost_ret (v := .agg #[.int .u64 0, .int .u64 0, .int .i64 0, .int .i64 0]) (by simp [results, Tryz.results126, go_sem]) rfl ⟨rfl, ((Below.refl _ _).alloc (Nat.le_refl _) _).alloc (by simp) _⟩

/-- A room's value. -/
def roomV (l : Int) : Value := .agg #[.int .u64 (rAt l), .int .u64 (rSz l), .int .i64 (rLow l), .int .i64 (rHigh l)]
theorem codeOnes_is (x s y z : Value) (u : Int) (n : Nat) (w : World) (hs : s = .int .u64 n) (hn : n ≤ 16) (hu : (2 : Int) ^ n - 1 = u) :
    Calls Tryz.prog 127 #[.agg #[x, s, y, z]] w fun e w' => e = .returned (.int .u32 u) ∧ Below w.heap.size w w' := by
  subst hs hu
  have hb := fun o => ((Below.refl w.heap.size w).alloc (Nat.le_refl _) o)
  have p1 : (2 : Int) ^ n ≤ 65536 := by
    have : (2 : Int) ^ n ≤ 2 ^ 16 := by exact_mod_cast Nat.pow_le_pow_right (by decide : 0 < 2) hn
    simpa using this
  have p0 : (0 : Int) < 2 ^ n := Int.pow_pos (by decide)
  go_enter Tryz.func127, Tryz.ntmps127
  go_wp2
  go_ret
  exact ⟨rfl, hb _⟩
theorem codeField1_is (b : Nat) (w : World) :
    Calls Tryz.prog 122 #[.pointer (some ⟨b, 0, none⟩)] w fun e w' => e = .returned (.pointer (some ⟨b, 1, none⟩)) ∧ w = w' := by
  go_enter Tryz.func122, Tryz.ntmps122
  go_wp2
  go_ret
  exact ⟨rfl, rfl⟩
theorem codeField2_is (b : Nat) (w : World) :
    Calls Tryz.prog 123 #[.pointer (some ⟨b, 0, none⟩)] w fun e w' => e = .returned (.pointer (some ⟨b, 2, none⟩)) ∧ w = w' := by
  go_enter Tryz.func123, Tryz.ntmps123
  go_wp2
  go_ret
  exact ⟨rfl, rfl⟩
theorem codeField3_is (b : Nat) (w : World) :
    Calls Tryz.prog 124 #[.pointer (some ⟨b, 0, none⟩)] w fun e w' => e = .returned (.pointer (some ⟨b, 3, none⟩)) ∧ w = w' := by
  go_enter Tryz.func124, Tryz.ntmps124
  go_wp2
  go_ret
  exact ⟨rfl, rfl⟩
theorem codeField4_is (b : Nat) (w : World) :
    Calls Tryz.prog 125 #[.pointer (some ⟨b, 0, none⟩)] w fun e w' => e = .returned (.pointer (some ⟨b, 4, none⟩)) ∧ w = w' := by
  go_enter Tryz.func125, Tryz.ntmps125
  go_wp2
  go_ret
  exact ⟨rfl, rfl⟩
/-- The fields of an instruction with four letters. -/
def fieldsV (l0 l1 l2 l3 : Int) : Value := .agg #[.int .u8 l0, .func (.func 122) #[] #[], .int .u8 l1, .func (.func 123) #[] #[], .int .u8 l2, .func (.func 124) #[] #[], .int .u8 l3, .func (.func 125) #[] #[]]
set_option maxHeartbeats 2000000 in
theorem codeFields_is (x0 x1 x2 x3 : UInt8) (s : ByteArray) (l0 l1 l2 l3 : Int) (w : World) (hs : s = ⟨#[x0, x1, x2, x3]⟩) (h0 : l0 = x0.toNat) (h1 : l1 = x1.toNat) (h2 : l2 = x2.toNat) (h3 : l3 = x3.toNat) :
    Calls Tryz.prog 92 #[.string s] w fun e w' => e = .returned (fieldsV l0 l1 l2 l3) ∧ Below w.heap.size w w' := by
  subst hs h0 h1 h2 h3
  go_enter Tryz.func92, Tryz.ntmps92
  go_wp2
  go_region
  go_wp2
  exact bodyPost_ret (v := fieldsV x0.toNat x1.toNat x2.toNat x3.toNat) (by simp [results, Tryz.results92, go_sem, fieldsV]; exact ⟨rfl, rfl, rfl, rfl⟩) rfl ⟨rfl, ((Below.refl _ _).alloc (Nat.le_refl _) _).drew⟩
theorem box_on {w0 w w' : World} {B b off : Nat} {l x f : Value} (h : w.cell? ⟨B, 0, none⟩ = some l ∧ w.cell? ⟨B, 1, none⟩ = some f ∧ w.cell? ⟨b, off, none⟩ = some x ∧ Below B w0 w ∧ B + 1 ≤ w.heap.size) (hb : b < B) (k : Below w.heap.size w w') :
    w'.cell? ⟨B, 0, none⟩ = some l ∧ w'.cell? ⟨B, 1, none⟩ = some f ∧ w'.cell? ⟨b, off, none⟩ = some x ∧ Below B w0 w' ∧ B + 1 ≤ w'.heap.size :=
  ⟨(k.cell (p := ⟨B, 0, none⟩) h.2.2.2.2).trans h.1, (k.cell (p := ⟨B, 1, none⟩) h.2.2.2.2).trans h.2.1, (k.cell (p := ⟨b, off, none⟩) (Nat.lt_trans hb h.2.2.2.2)).trans h.2.2.1, h.2.2.2.1.trans (k.mono (Nat.le_of_lt h.2.2.2.2)), Nat.le_trans h.2.2.2.2 k.size⟩
theorem box_set {w0 w : World} {B b off g : Nat} {l x f : Value} (h : w.cell? ⟨B, 0, none⟩ = some l ∧ w.cell? ⟨B, 1, none⟩ = some f ∧ w.cell? ⟨b, off, none⟩ = some x ∧ Below B w0 w ∧ B + 1 ≤ w.heap.size) (hb : b < B) (hg : B + 1 ≤ g) (v0 v1 v2 v3 : Value) :
    ((((w.setCell ⟨g, 0, none⟩ v0).setCell ⟨g, 1, none⟩ v1).setCell ⟨g, 2, none⟩ v2).setCell ⟨g, 3, none⟩ v3).cell? ⟨B, 0, none⟩ = some l ∧ ((((w.setCell ⟨g, 0, none⟩ v0).setCell ⟨g, 1, none⟩ v1).setCell ⟨g, 2, none⟩ v2).setCell ⟨g, 3, none⟩ v3).cell? ⟨B, 1, none⟩ = some f ∧
      ((((w.setCell ⟨g, 0, none⟩ v0).setCell ⟨g, 1, none⟩ v1).setCell ⟨g, 2, none⟩ v2).setCell ⟨g, 3, none⟩ v3).cell? ⟨b, off, none⟩ = some x ∧ Below B w0 ((((w.setCell ⟨g, 0, none⟩ v0).setCell ⟨g, 1, none⟩ v1).setCell ⟨g, 2, none⟩ v2).setCell ⟨g, 3, none⟩ v3) ∧
      B + 1 ≤ ((((w.setCell ⟨g, 0, none⟩ v0).setCell ⟨g, 1, none⟩ v1).setCell ⟨g, 2, none⟩ v2).setCell ⟨g, 3, none⟩ v3).heap.size := by
  have k : Below (B + 1) w ((((w.setCell ⟨g, 0, none⟩ v0).setCell ⟨g, 1, none⟩ v1).setCell ⟨g, 2, none⟩ v2).setCell ⟨g, 3, none⟩ v3) :=
    ((((Below.refl _ _).setCell (p := ⟨g, 0, none⟩) hg _).setCell (p := ⟨g, 1, none⟩) hg _).setCell (p := ⟨g, 2, none⟩) hg _).setCell (p := ⟨g, 3, none⟩) hg _
  exact ⟨(k.cell (p := ⟨B, 0, none⟩) (Nat.lt_succ_self _)).trans h.1, (k.cell (p := ⟨B, 1, none⟩) (Nat.lt_succ_self _)).trans h.2.1, (k.cell (p := ⟨b, off, none⟩) (Nat.lt_succ_of_lt hb)).trans h.2.2.1, h.2.2.2.1.trans (k.mono (Nat.le_succ _)), by simpa using h.2.2.2.2⟩
/-- A new room, behind a call. -/
theorem new4 {W w : World} {v0 v1 v2 v3 : Value} {T : TypeId} (h : Below (W.alloc (.cells #[v0, v1, v2, v3] T)).heap.size (W.alloc (.cells #[v0, v1, v2, v3] T)) w) :
    w.cell? ⟨W.heap.size, 0, none⟩ = some v0 ∧ w.cell? ⟨W.heap.size, 1, none⟩ = some v1 ∧ w.cell? ⟨W.heap.size, 2, none⟩ = some v2 ∧ w.cell? ⟨W.heap.size, 3, none⟩ = some v3 ∧
      w.frozen? ⟨W.heap.size, 0, none⟩ = false ∧ w.frozen? ⟨W.heap.size, 1, none⟩ = false ∧ w.frozen? ⟨W.heap.size, 2, none⟩ = false ∧ w.frozen? ⟨W.heap.size, 3, none⟩ = false := by
  have k : W.heap.size < (W.alloc (.cells #[v0, v1, v2, v3] T)).heap.size := by simp
  refine ⟨(h.cell (p := ⟨_, 0, none⟩) k).trans ?_, (h.cell (p := ⟨_, 1, none⟩) k).trans ?_, (h.cell (p := ⟨_, 2, none⟩) k).trans ?_, (h.cell (p := ⟨_, 3, none⟩) k).trans ?_, (h.frozen (p := ⟨_, 0, none⟩) k).trans ?_, (h.frozen (p := ⟨_, 1, none⟩) k).trans ?_, (h.frozen (p := ⟨_, 2, none⟩) k).trans ?_, (h.frozen (p := ⟨_, 3, none⟩) k).trans ?_⟩ <;> go_cell
theorem new4d {W w : World} {v0 v1 v2 v3 : Value} {T : TypeId} (h : Below (W.drew.alloc (.cells #[v0, v1, v2, v3] T)).heap.size (W.drew.alloc (.cells #[v0, v1, v2, v3] T)) w) :
    w.cell? ⟨W.heap.size, 0, none⟩ = some v0 ∧ w.cell? ⟨W.heap.size, 1, none⟩ = some v1 ∧ w.cell? ⟨W.heap.size, 2, none⟩ = some v2 ∧ w.cell? ⟨W.heap.size, 3, none⟩ = some v3 ∧
      w.frozen? ⟨W.heap.size, 0, none⟩ = false ∧ w.frozen? ⟨W.heap.size, 1, none⟩ = false ∧ w.frozen? ⟨W.heap.size, 2, none⟩ = false ∧ w.frozen? ⟨W.heap.size, 3, none⟩ = false := new4 (W := W.drew) h
set_option maxHeartbeats 1000000 in
theorem codeCheck_is (fn b off : Nat) (l x z : Int) (w : World) (hK : ∀ args w, Sem.run Tryz.prog (callFunc fn args) w = .ok (.enter fn args) w) (hF : ∀ w, Calls Tryz.prog fn #[.pointer (some ⟨b, 0, none⟩)] w fun e w' => e = .returned (.pointer (some ⟨b, off, none⟩)) ∧ w = w')
    (hc : w.cell? ⟨b, off, none⟩ = some (.int .i64 x)) (hb : b < w.heap.size) (hz : fErr l x = z) :
    Calls Tryz.prog 128 #[.agg #[.int .u8 l, .func (.func fn) #[] #[]], .pointer (some ⟨b, 0, none⟩)] w fun e w' => e = .returned (.int .i64 z) ∧ Below w.heap.size w w' := by
  have HF := Lib.hid hF
  have HZ := Lib.hid hz
  have HB := Lib.hid hb
  clear hF hz
  go_enter Tryz.func128, Tryz.ntmps128
  go_wp2
  obtain ⟨W, hW⟩ : ∃ W, w.alloc (.cells #[.int .u8 l, .func (.func fn) #[] #[]] 142) = W := ⟨_, rfl⟩
  rw [hW]
  have q0 : W.drew.cell? ⟨w.heap.size, 0, none⟩ = some (.int .u8 l) ∧ W.drew.cell? ⟨w.heap.size, 1, none⟩ = some (.func (.func fn) #[] #[]) ∧ W.drew.cell? ⟨b, off, none⟩ = some (.int .i64 x) ∧ Below w.heap.size w W.drew ∧ w.heap.size + 1 ≤ W.drew.heap.size := by
    subst hW
    exact ⟨by go_cell, by go_cell, (((Below.refl w.heap.size w).alloc (Nat.le_refl _) _).cell (p := ⟨b, off, none⟩) hb).trans hc, ((Below.refl _ _).alloc (Nat.le_refl _) _).drew, by simp⟩
  have hgW : w.heap.size + 1 ≤ W.heap.size := q0.2.2.2.2
  clear hW hc
  go_region_held3 (fun w' => w'.cell? ⟨w.heap.size, 0, none⟩ = some (.int .u8 l) ∧ w'.cell? ⟨w.heap.size, 1, none⟩ = some (.func (.func fn) #[] #[]) ∧ w'.cell? ⟨b, off, none⟩ = some (.int .i64 x) ∧ Below w.heap.size w w' ∧ w.heap.size + 1 ≤ w'.heap.size)
    (first | with_reducible assumption | with_reducible exact box_on (by assumption) HB.out ((Below.refl _ _).alloc (Nat.le_refl _) _) | with_reducible exact box_set (by assumption) HB.out hgW _ _ _ _)
    (first
      | (go_at_call 126; ((with_reducible refine (codeRoom_is l _ _).mono ?_); rintro e w1 ⟨rfl, hq⟩); have hS := box_on (by assumption) HB.out hq; (first | (have h3 := new4d hq; obtain ⟨c0, c1, c2, c3, f0, f1, f2, f3⟩ := h3) | skip))
      | ((with_reducible refine (HF.out _).mono ?_); rintro e w1 ⟨rfl, rfl⟩))
  all_goals
    have hB := (‹_ ∧ _ ∧ _ ∧ Below w.heap.size w _ ∧ _›).2.2.2.1
    have HB2 := Lib.hid hB
    have hz := HZ.out
    clear hS q0 hB HZ
    unfold fErr at hz
    generalize rLow l = lo at *
    generalize rHigh l = hi at *
    generalize rAt l = at0 at *
    generalize rSz l = sz at *
  all_goals by_cases h1 : lo ≤ x ∧ x ≤ hi
  any_goals
    rw [if_pos h1] at hz
    obtain ⟨h2, h3⟩ := h1
    subst hz
    go_wp2
    go_ret
    exact ⟨rfl, HB2.out⟩
  all_goals
    rw [if_neg h1] at hz
    by_cases hs : sz = 0
  any_goals
    rw [if_pos hs] at hz
    have h4 : ((sz : Int) == 0) = true := by simpa using hs
    subst hz
    clear hs
  any_goals
    rw [if_neg hs] at hz
    have h4 : ((sz : Int) == 0) = false := by simpa using hs
    subst hz
    clear hs
  all_goals
    have h1' : x < lo ∨ lo ≤ x ∧ hi < x := by omega
    clear h1
    rcases h1' with h1 | ⟨h1, h2⟩ <;> (go_wp2; go_ret; exact ⟨rfl, HB2.out⟩)

theorem pow_at (l : Int) : (0 : Int) < 2 ^ rAt l ∧ (2 : Int) ^ rAt l ≤ 2097152 := by
  unfold rAt
  repeat' split
  all_goals decide
theorem pow_sz (l : Int) : (0 : Int) < 2 ^ rSz l ∧ (2 : Int) ^ rSz l ≤ 65536 ∧ rSz l ≤ 16 := by
  unfold rSz
  repeat' split
  all_goals decide
theorem pow_both (l : Int) : (2 : Int) ^ rSz l * 2 ^ rAt l ≤ 4294967296 := by
  by_cases h1 : l = 100
  · subst h1; decide
  by_cases h2 : l = 97
  · subst h2; decide
  by_cases h3 : l = 98
  · subst h3; decide
  have e : rAt l = 0 := by unfold rAt; rw [if_neg h1, if_neg h2, if_neg h3]
  have := (pow_sz l).2.1
  rw [e]; omega
theorem u32_wrap (x : Int) : IntKind.u32.wrap x = x % 4294967296 := by simp [IntKind.wrap, IntKind.bits, IntKind.signed]
theorem sz_cases (l : Int) : rSz l = 5 ∨ rSz l = 16 ∨ rSz l = 0 := by
  unfold rSz
  repeat' split
  all_goals simp
theorem mask_walk (l x : Int) : bits .and .u32 (IntKind.u32.wrap x) (2 ^ rSz l - 1) = x % 2 ^ rSz l := by
  rw [bits_and_mask .u32 (rSz l) (Nat.le_trans (pow_sz l).2.2 (by decide)), u32_wrap, u32_wrap]
  rcases sz_cases l with h | h | h <;> rw [h] <;> omega
theorem bits_walk (l x : Int) : IntKind.u32.wrap (x % 2 ^ rSz l * 2 ^ min (rAt l) 32) = fBits l x := by
  have p := pow_at l
  have s := pow_sz l
  have q := pow_both l
  have e : min (rAt l) 32 = rAt l := by
    apply Nat.min_eq_left
    unfold rAt
    repeat' split
    all_goals decide
  have y0 : 0 ≤ x % 2 ^ rSz l := Int.emod_nonneg _ (by omega)
  have y1 : x % 2 ^ rSz l < 2 ^ rSz l := Int.emod_lt_of_pos _ s.1
  have h0 : 0 ≤ x % 2 ^ rSz l * 2 ^ rAt l := Int.mul_nonneg y0 (by omega)
  have h1 : x % 2 ^ rSz l * 2 ^ rAt l < 2 ^ rSz l * 2 ^ rAt l := Int.mul_lt_mul_of_pos_right y1 p.1
  rw [e, u32_wrap]
  unfold fBits
  exact Int.emod_eq_of_lt h0 (by omega)
/-- What a region upon a field's box and a room's box reads. -/
theorem boxes_on {w0 w w' : World} {B b off g : Nat} {l x f v0 v1 v2 v3 : Value} (h : (w.cell? ⟨B, 0, none⟩ = some l ∧ w.cell? ⟨B, 1, none⟩ = some f ∧ w.cell? ⟨b, off, none⟩ = some x ∧ w.cell? ⟨g, 0, none⟩ = some v0 ∧ w.cell? ⟨g, 1, none⟩ = some v1 ∧ w.cell? ⟨g, 2, none⟩ = some v2 ∧ w.cell? ⟨g, 3, none⟩ = some v3) ∧ Below B w0 w ∧ g + 1 ≤ w.heap.size)
    (hb : b < B) (hg : B < g) (k : Below w.heap.size w w') :
    (w'.cell? ⟨B, 0, none⟩ = some l ∧ w'.cell? ⟨B, 1, none⟩ = some f ∧ w'.cell? ⟨b, off, none⟩ = some x ∧ w'.cell? ⟨g, 0, none⟩ = some v0 ∧ w'.cell? ⟨g, 1, none⟩ = some v1 ∧ w'.cell? ⟨g, 2, none⟩ = some v2 ∧ w'.cell? ⟨g, 3, none⟩ = some v3) ∧ Below B w0 w' ∧ g + 1 ≤ w'.heap.size := by
  obtain ⟨⟨c0, c1, c2, c3, c4, c5, c6⟩, hb2, hl⟩ := h
  exact ⟨⟨(k.cell (p := ⟨B, 0, none⟩) (by show B < _; omega)).trans c0, (k.cell (p := ⟨B, 1, none⟩) (by show B < _; omega)).trans c1, (k.cell (p := ⟨b, off, none⟩) (by show b < _; omega)).trans c2, (k.cell (p := ⟨g, 0, none⟩) hl).trans c3, (k.cell (p := ⟨g, 1, none⟩) hl).trans c4, (k.cell (p := ⟨g, 2, none⟩) hl).trans c5, (k.cell (p := ⟨g, 3, none⟩) hl).trans c6⟩, hb2.trans (k.mono (by omega)), Nat.le_trans hl k.size⟩

theorem box_new {w : World} {b off : Nat} {x : Value} (l f : Value) (T : TypeId) (hb : b < w.heap.size) (hc : w.cell? ⟨b, off, none⟩ = some x) :
    (w.alloc (.cells #[l, f] T)).cell? ⟨w.heap.size, 0, none⟩ = some l ∧ (w.alloc (.cells #[l, f] T)).cell? ⟨w.heap.size, 1, none⟩ = some f ∧ (w.alloc (.cells #[l, f] T)).cell? ⟨b, off, none⟩ = some x ∧ Below w.heap.size w (w.alloc (.cells #[l, f] T)) ∧ w.heap.size + 1 ≤ (w.alloc (.cells #[l, f] T)).heap.size :=
  ⟨by go_cell, by go_cell, (((Below.refl w.heap.size w).alloc (Nat.le_refl _) _).cell (p := ⟨b, off, none⟩) hb).trans hc, (Below.refl _ _).alloc (Nat.le_refl _) _, by simp⟩
set_option maxHeartbeats 1000000 in
theorem codeBits_is (fn b off : Nat) (l x z : Int) (w : World) (hK : ∀ args w, Sem.run Tryz.prog (callFunc fn args) w = .ok (.enter fn args) w) (hF : ∀ w, Calls Tryz.prog fn #[.pointer (some ⟨b, 0, none⟩)] w fun e w' => e = .returned (.pointer (some ⟨b, off, none⟩)) ∧ w = w')
    (hc : w.cell? ⟨b, off, none⟩ = some (.int .i64 x)) (hb : b < w.heap.size) (hz : fBits l x = z) :
    Calls Tryz.prog 94 #[.agg #[.int .u8 l, .func (.func fn) #[] #[]], .pointer (some ⟨b, 0, none⟩)] w fun e w' => e = .returned (.int .u32 z) ∧ Below w.heap.size w w' := by
  have HF := Lib.hid hF
  have HZ := Lib.hid hz
  have HB := Lib.hid hb
  have HC := Lib.hid hc
  have P := pow_at l
  have S := pow_sz l
  have y0 : 0 ≤ x % 2 ^ rSz l := Int.emod_nonneg _ (by omega)
  have y1 : x % 2 ^ rSz l < 2 ^ rSz l := Int.emod_lt_of_pos _ S.1
  clear hF hz hb hc
  go_enter Tryz.func94, Tryz.ntmps94
  go_wp2_with (go_at_call 126; ((with_reducible refine (codeRoom_is l _ _).mono ?_); rintro e w1 ⟨rfl, hq⟩); have hq1 := box_on (box_new (.int .u8 l) (.func (.func fn) #[] #[]) 142 HB.out HC.out) HB.out hq)
  obtain ⟨W, hW⟩ : ∃ W, w1.alloc (.cells #[.int .u64 (rAt l), .int .u64 (rSz l), .int .i64 (rLow l), .int .i64 (rHigh l)] 176) = W := ⟨_, rfl⟩
  rw [hW]
  have q0 := box_on hq1 HB.out ((Below.refl _ _).alloc (Nat.le_refl _) (.cells #[.int .u64 (rAt l), .int .u64 (rSz l), .int .i64 (rLow l), .int .i64 (rHigh l)] 176))
  rw [hW] at q0
  have r0 : W.cell? ⟨w1.heap.size, 0, none⟩ = some (.int .u64 (rAt l)) ∧ W.cell? ⟨w1.heap.size, 1, none⟩ = some (.int .u64 (rSz l)) ∧ W.cell? ⟨w1.heap.size, 2, none⟩ = some (.int .i64 (rLow l)) ∧ W.cell? ⟨w1.heap.size, 3, none⟩ = some (.int .i64 (rHigh l)) ∧ w1.heap.size + 1 ≤ W.heap.size := by
    subst hW; exact ⟨by go_cell, by go_cell, by go_cell, by go_cell, by simp⟩
  have HG := Lib.hid (show w.heap.size < w1.heap.size from hq1.2.2.2.2)
  obtain ⟨q1, q2, q3, q4, q5⟩ := q0
  obtain ⟨r1, r2, r3, r4, r5⟩ := r0
  have u0 := Lib.hid S.2.2
  obtain ⟨P0, P1⟩ := P
  obtain ⟨S0, S1, _⟩ := S
  have E1 : bits .and .u32 (IntKind.u32.wrap x) (2 ^ rSz l - 1) = x % 2 ^ rSz l := mask_walk l x
  have E2 := Lib.hid ((bits_walk l x).trans HZ.out)
  have hS0 : (W.drew.cell? ⟨w.heap.size, 0, none⟩ = some (.int .u8 l) ∧ W.drew.cell? ⟨w.heap.size, 1, none⟩ = some (.func (.func fn) #[] #[]) ∧ W.drew.cell? ⟨b, off, none⟩ = some (.int .i64 x) ∧ W.drew.cell? ⟨w1.heap.size, 0, none⟩ = some (.int .u64 (rAt l)) ∧ W.drew.cell? ⟨w1.heap.size, 1, none⟩ = some (.int .u64 (rSz l)) ∧ W.drew.cell? ⟨w1.heap.size, 2, none⟩ = some (.int .i64 (rLow l)) ∧ W.drew.cell? ⟨w1.heap.size, 3, none⟩ = some (.int .i64 (rHigh l))) ∧ Below w.heap.size w W.drew ∧ w1.heap.size + 1 ≤ W.drew.heap.size := ⟨⟨q1, q2, q3, r1, r2, r3, r4⟩, q4.drew, r5⟩
  clear hW hq1 hq q1 q2 q3 q4 q5 r1 r2 r3 r4 r5
  generalize rLow l = lo at *
  generalize rHigh l = hi at *
  generalize rAt l = at0 at *
  generalize rSz l = sz at *
  go_region_held3 (fun w' => (w'.cell? ⟨w.heap.size, 0, none⟩ = some (.int .u8 l) ∧ w'.cell? ⟨w.heap.size, 1, none⟩ = some (.func (.func fn) #[] #[]) ∧ w'.cell? ⟨b, off, none⟩ = some (.int .i64 x) ∧ w'.cell? ⟨w1.heap.size, 0, none⟩ = some (.int .u64 at0) ∧ w'.cell? ⟨w1.heap.size, 1, none⟩ = some (.int .u64 sz) ∧ w'.cell? ⟨w1.heap.size, 2, none⟩ = some (.int .i64 lo) ∧ w'.cell? ⟨w1.heap.size, 3, none⟩ = some (.int .i64 hi)) ∧ Below w.heap.size w w' ∧ w1.heap.size + 1 ≤ w'.heap.size)
    (with_reducible assumption)
    (first
      | (go_at_call 127; ((with_reducible refine (codeOnes_is _ _ _ _ _ sz _ rfl u0.out rfl).mono ?_); rintro e w2 ⟨rfl, hq⟩); have hS := boxes_on (by assumption) HB.out HG.out hq)
      | ((with_reducible refine (HF.out _).mono ?_); rintro e w3 ⟨rfl, rfl⟩))
  have hB := Lib.hid hS.2.1
  clear hS hS0
  go_wp2
  go_ret
  exact ⟨ret_int E2.out, hB.out⟩
theorem raw_bd {l : Int} (v : Int) : 0 ≤ fRaw l v ∧ fRaw l v ≤ 65535 := by
  have s := pow_sz l
  have h0 : 0 ≤ v / 2 ^ rAt l % 2 ^ rSz l := Int.emod_nonneg _ (by omega)
  have h1 : v / 2 ^ rAt l % 2 ^ rSz l < 2 ^ rSz l := Int.emod_lt_of_pos _ s.1
  unfold fRaw
  omega
theorem raw_walk (l v : Int) : bits .and .u32 (v / 2 ^ min (rAt l) 32) (2 ^ rSz l - 1) = fRaw l v := by
  have p := pow_at l
  have s := pow_sz l
  have b := raw_bd (l := l) v
  have e : min (rAt l) 32 = rAt l := by
    apply Nat.min_eq_left
    unfold rAt
    repeat' split
    all_goals decide
  rw [e, bits_and_mask .u32 (rSz l) (Nat.le_trans s.2.2 (by decide)), u32_wrap]
  exact Int.emod_eq_of_lt b.1 (show fRaw l v < _ by omega)
/-- A call that writes one cell, and makes memory else. -/
def Wrote (w : World) (p : Addr) (v : Value) (w' : World) : Prop := ∃ w2, Below w.heap.size w w2 ∧ w2.setCell p v = w'
set_option maxHeartbeats 1000000 in
theorem codeRead_is (fn b off : Nat) (l x v z : Int) (w : World) (hK : ∀ args w, Sem.run Tryz.prog (callFunc fn args) w = .ok (.enter fn args) w) (hF : ∀ w, Calls Tryz.prog fn #[.pointer (some ⟨b, 0, none⟩)] w fun e w' => e = .returned (.pointer (some ⟨b, off, none⟩)) ∧ w = w')
    (hc : w.cell? ⟨b, off, none⟩ = some (.int .i64 x)) (hf : w.frozen? ⟨b, off, none⟩ = false) (hb : b < w.heap.size) (hz : fRead l v = z) :
    Calls Tryz.prog 93 #[.agg #[.int .u8 l, .func (.func fn) #[] #[]], .int .u32 v, .pointer (some ⟨b, 0, none⟩)] w fun e w' => e = .returned (.tuple #[]) ∧ Wrote w ⟨b, off, none⟩ (.int .i64 z) w' := by
  have HF := Lib.hid hF
  have HZ := Lib.hid hz
  have HB := Lib.hid hb
  have HC := Lib.hid hc
  have P := pow_at l
  have S := pow_sz l
  have E1 := raw_walk l v
  have Y := raw_bd (l := l) v
  have HF2 := Lib.hid hf
  clear hF hz hb hc hf
  go_enter Tryz.func93, Tryz.ntmps93
  go_wp2_with (go_at_call 126; ((with_reducible refine (codeRoom_is l _ _).mono ?_); rintro e w1 ⟨rfl, hq⟩); have hq1 := box_on (box_new (.int .u8 l) (.func (.func fn) #[] #[]) 142 HB.out HC.out) HB.out hq)
  obtain ⟨W, hW⟩ : ∃ W, w1.alloc (.cells #[.int .u64 (rAt l), .int .u64 (rSz l), .int .i64 (rLow l), .int .i64 (rHigh l)] 176) = W := ⟨_, rfl⟩
  rw [hW]
  have q0 := box_on hq1 HB.out ((Below.refl _ _).alloc (Nat.le_refl _) (.cells #[.int .u64 (rAt l), .int .u64 (rSz l), .int .i64 (rLow l), .int .i64 (rHigh l)] 176))
  rw [hW] at q0
  have r0 : W.cell? ⟨w1.heap.size, 0, none⟩ = some (.int .u64 (rAt l)) ∧ W.cell? ⟨w1.heap.size, 1, none⟩ = some (.int .u64 (rSz l)) ∧ W.cell? ⟨w1.heap.size, 2, none⟩ = some (.int .i64 (rLow l)) ∧ W.cell? ⟨w1.heap.size, 3, none⟩ = some (.int .i64 (rHigh l)) ∧ w1.heap.size + 1 ≤ W.heap.size := by
    subst hW; exact ⟨by go_cell, by go_cell, by go_cell, by go_cell, by simp⟩
  have HG := Lib.hid (show w.heap.size < w1.heap.size from hq1.2.2.2.2)
  obtain ⟨q1, q2, q3, q4, q5⟩ := q0
  obtain ⟨r1, r2, r3, r4, r5⟩ := r0
  have u0 := Lib.hid S.2.2
  obtain ⟨P0, P1⟩ := P
  obtain ⟨S0, S1, _⟩ := S
  unfold fRead at HZ
  have E3 : IntKind.i64.wrap (fRaw l v) = fRaw l v := IntWalk.i64_in _ (by omega)
  have hS0 : (W.drew.cell? ⟨w.heap.size, 0, none⟩ = some (.int .u8 l) ∧ W.drew.cell? ⟨w.heap.size, 1, none⟩ = some (.func (.func fn) #[] #[]) ∧ W.drew.cell? ⟨b, off, none⟩ = some (.int .i64 x) ∧ W.drew.cell? ⟨w1.heap.size, 0, none⟩ = some (.int .u64 (rAt l)) ∧ W.drew.cell? ⟨w1.heap.size, 1, none⟩ = some (.int .u64 (rSz l)) ∧ W.drew.cell? ⟨w1.heap.size, 2, none⟩ = some (.int .i64 (rLow l)) ∧ W.drew.cell? ⟨w1.heap.size, 3, none⟩ = some (.int .i64 (rHigh l))) ∧ Below w.heap.size w W.drew ∧ w1.heap.size + 1 ≤ W.drew.heap.size := ⟨⟨q1, q2, q3, r1, r2, r3, r4⟩, q4.drew, r5⟩
  clear hW hq1 hq q1 q2 q3 q4 q5 r1 r2 r3 r4 r5
  generalize fRaw l v = y at *
  generalize rLow l = lo at *
  generalize rHigh l = hi at *
  generalize rAt l = at0 at *
  generalize rSz l = sz at *
  go_region_held3 (fun w' => (w'.cell? ⟨w.heap.size, 0, none⟩ = some (.int .u8 l) ∧ w'.cell? ⟨w.heap.size, 1, none⟩ = some (.func (.func fn) #[] #[]) ∧ w'.cell? ⟨b, off, none⟩ = some (.int .i64 x) ∧ w'.cell? ⟨w1.heap.size, 0, none⟩ = some (.int .u64 at0) ∧ w'.cell? ⟨w1.heap.size, 1, none⟩ = some (.int .u64 sz) ∧ w'.cell? ⟨w1.heap.size, 2, none⟩ = some (.int .i64 lo) ∧ w'.cell? ⟨w1.heap.size, 3, none⟩ = some (.int .i64 hi)) ∧ Below w.heap.size w w' ∧ w1.heap.size + 1 ≤ w'.heap.size)
    (with_reducible assumption)
    (first
      | (go_at_call 127; ((with_reducible refine (codeOnes_is _ _ _ _ _ sz _ rfl u0.out rfl).mono ?_); rintro e w2 ⟨rfl, hq⟩); have hS := boxes_on (by assumption) HB.out HG.out hq)
      | ((with_reducible refine (HF.out _).mono ?_); rintro e w3 ⟨rfl, rfl⟩))
  have hB := Lib.hid hS.2.1
  have r3 := hS.1.2.2.2.2.2.2
  have r1 := hS.1.2.2.2.2.1
  have q1 := hS.1.2.1
  have q2 := hS.1.2.2.1
  have HX : w2.frozen? ⟨b, off, none⟩ = false := (hS.2.1.frozen (p := ⟨b, off, none⟩) HB.out).trans HF2.out
  have hz := HZ.out
  clear hS hS0
  by_cases h1 : hi < y
  · rw [if_pos h1] at hz
    subst hz
    go_wp2_with ((with_reducible refine (HF.out _).mono ?_); rintro e w3 ⟨rfl, rfl⟩)
    refine bodyPost_end (results_none rfl _ _ _) rfl ?_
    exact ⟨rfl, _, hB.out, rfl⟩
  · rw [if_neg h1] at hz
    subst hz
    go_wp2_with ((with_reducible refine (HF.out _).mono ?_); rintro e w3 ⟨rfl, rfl⟩)
    refine bodyPost_end (results_none rfl _ _ _) rfl ?_
    exact ⟨rfl, _, hB.out, rfl⟩

end Go.Proofs.YtekhgidbnpfmnaaGreatDoor
