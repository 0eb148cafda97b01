/- What package code's functions answer. Condition: the package ops' table of shapes lies as the program's text has it. -/
import Derived.Test.YtheflkhbmbfajaaDoorLayers
import Derived.Test.YtheflkhbmbfajaaDoorCodD
import Derived.Test.YtheflkhbmbfajaaDoorStr
import Derived.Handy
import Derived.Lib.Hide
import Derived.Deep.QuietTactic
import Derived.Deep.RegionHeld3
import Derived.BigQuiet
import Derived.Outline
import Derived.Laws.EntriesVeiled
namespace Go.Proofs.YtheflkhbmbfajaaDoor
open Go.RowKit

/-- The table of shapes lies in w as the program's text has it. -/
def ShapesLaid (w : World) : Prop := ∃ ty, w.heap[0]? = some (.cells shapesC ty (0, 0))
theorem ShapesLaid.lt {w : World} (h : ShapesLaid w) : 0 < w.heap.size := by
  obtain ⟨t2, h2⟩ := h
  exact (Array.getElem?_eq_some_iff.1 h2).1
theorem ShapesLaid.below {w0 w : World} {B : Nat} (h : ShapesLaid w0) (hb : Below B w0 w) (hB : 0 < B) : ShapesLaid w := by
  obtain ⟨t2, h2⟩ := h
  exact ⟨t2, by rw [hb.block _ hB]; exact h2⟩

theorem letter_no {l : Int} (h : l ≠ 100 ∧ l ≠ 97 ∧ l ≠ 98 ∧ l ≠ 115 ∧ l ≠ 117) : rAt l = 0 ∧ rSz l = 0 ∧ rLow l = 0 ∧ rHigh l = 0 := by
  obtain ⟨h1, h2, h3, h4, h5⟩ := h
  simp [rAt, rSz, rLow, rHigh, h1, h2, h3, h4, h5]
theorem codeRoom_is (l : Int) (fv : Value) (w : World) :
    Calls Tryd.prog 53 #[.agg #[.int .u8 l, fv]] w fun e w' => e = .returned (.agg #[.int .u64 (rAt l), .int .u64 (rSz l), .int .i64 (rLow l), .int .i64 (rHigh l)]) ∧ Below w.heap.size w w' := by
  rcases (show l = 100 ∨ l = 97 ∨ l = 98 ∨ l = 115 ∨ l = 117 ∨ (l ≠ 100 ∧ l ≠ 97 ∧ l ≠ 98 ∧ l ≠ 115 ∧ l ≠ 117) by omega) with rfl | rfl | rfl | rfl | rfl | h
  · go_enter Tryd.func53, Tryd.ntmps53
    go_wp2
    exact bodyPost_ret (v := .agg #[.int .u64 21, .int .u64 5, .int .i64 0, .int .i64 31]) (by simp [results, Tryd.results53, go_sem]) rfl ⟨rfl, ((Below.refl _ _).alloc (Nat.le_refl _) _).alloc (by simp) _⟩
  · go_enter Tryd.func53, Tryd.ntmps53
    go_wp2
    exact bodyPost_ret (v := .agg #[.int .u64 16, .int .u64 5, .int .i64 0, .int .i64 31]) (by simp [results, Tryd.results53, go_sem]) rfl ⟨rfl, ((Below.refl _ _).alloc (Nat.le_refl _) _).alloc (by simp) _⟩
  · go_enter Tryd.func53, Tryd.ntmps53
    go_wp2
    exact bodyPost_ret (v := .agg #[.int .u64 11, .int .u64 5, .int .i64 0, .int .i64 31]) (by simp [results, Tryd.results53, go_sem]) rfl ⟨rfl, ((Below.refl _ _).alloc (Nat.le_refl _) _).alloc (by simp) _⟩
  · go_enter Tryd.func53, Tryd.ntmps53
    go_wp2
    exact bodyPost_ret (v := .agg #[.int .u64 0, .int .u64 16, .int .i64 (-32768), .int .i64 32767]) (by simp [results, Tryd.results53, go_sem]) rfl ⟨rfl, ((Below.refl _ _).alloc (Nat.le_refl _) _).alloc (by simp) _⟩
  · go_enter Tryd.func53, Tryd.ntmps53
    go_wp2
    exact bodyPost_ret (v := .agg #[.int .u64 0, .int .u64 16, .int .i64 0, .int .i64 65535]) (by simp [results, Tryd.results53, go_sem]) rfl ⟨rfl, ((Below.refl _ _).alloc (Nat.le_refl _) _).alloc (by simp) _⟩
  · obtain ⟨e1, e2, e3, e4⟩ := letter_no h
    obtain ⟨h1, h2, h3, h4, h5⟩ := h
    rw [e1, e2, e3, e4]
    have k1 : (l == 100) = false := by simpa using h1
    have k2 : (l == 97) = false := by simpa using h2
    have k3 : (l == 98) = false := by simpa using h3
    have k4 : (l == 115) = false := by simpa using h4
    have k5 : (l == 117) = false := by simpa using h5
    clear e1 e2 e3 e4
    go_enter Tryd.func53, Tryd.ntmps53
    go_wp2
    exact bodyPost_ret (v := .agg #[.int .u64 0, .int .u64 0, .int .i64 0, .int .i64 0]) (by simp [results, Tryd.results53, go_sem]) rfl ⟨rfl, ((Below.refl _ _).alloc (Nat.le_refl _) _).alloc (by simp) _⟩

/-- A room's value. -/
def roomV (l : Int) : Value := .agg #[.int .u64 (rAt l), .int .u64 (rSz l), .int .i64 (rLow l), .int .i64 (rHigh l)]
theorem codeField1_is (b : Nat) (w : World) :
    Calls Tryd.prog 49 #[.pointer (some ⟨b, 0, none⟩)] w fun e w' => e = .returned (.pointer (some ⟨b, 1, none⟩)) ∧ w = w' := by
  go_enter Tryd.func49, Tryd.ntmps49
  go_wp2
  go_ret
  exact ⟨rfl, rfl⟩
theorem codeField2_is (b : Nat) (w : World) :
    Calls Tryd.prog 50 #[.pointer (some ⟨b, 0, none⟩)] w fun e w' => e = .returned (.pointer (some ⟨b, 2, none⟩)) ∧ w = w' := by
  go_enter Tryd.func50, Tryd.ntmps50
  go_wp2
  go_ret
  exact ⟨rfl, rfl⟩
theorem codeField3_is (b : Nat) (w : World) :
    Calls Tryd.prog 51 #[.pointer (some ⟨b, 0, none⟩)] w fun e w' => e = .returned (.pointer (some ⟨b, 3, none⟩)) ∧ w = w' := by
  go_enter Tryd.func51, Tryd.ntmps51
  go_wp2
  go_ret
  exact ⟨rfl, rfl⟩
theorem codeField4_is (b : Nat) (w : World) :
    Calls Tryd.prog 52 #[.pointer (some ⟨b, 0, none⟩)] w fun e w' => e = .returned (.pointer (some ⟨b, 4, none⟩)) ∧ w = w' := by
  go_enter Tryd.func52, Tryd.ntmps52
  go_wp2
  go_ret
  exact ⟨rfl, rfl⟩
/-- The fields of an instruction with four letters. -/
def fieldsV (l0 l1 l2 l3 : Int) : Value := .agg #[.int .u8 l0, .func (.func 49) #[] #[], .int .u8 l1, .func (.func 50) #[] #[], .int .u8 l2, .func (.func 51) #[] #[], .int .u8 l3, .func (.func 52) #[] #[]]
set_option maxHeartbeats 2000000 in
theorem codeFields_is (x0 x1 x2 x3 : UInt8) (s : ByteArray) (l0 l1 l2 l3 : Int) (w : World) (hs : s = ⟨#[x0, x1, x2, x3]⟩) (h0 : l0 = x0.toNat) (h1 : l1 = x1.toNat) (h2 : l2 = x2.toNat) (h3 : l3 = x3.toNat) :
    Calls Tryd.prog 36 #[.string s] w fun e w' => e = .returned (fieldsV l0 l1 l2 l3) ∧ Below w.heap.size w w' := by
  subst hs h0 h1 h2 h3
  go_enter Tryd.func36, Tryd.ntmps36
  go_wp2
  go_region
  go_wp2
  exact bodyPost_ret (v := fieldsV x0.toNat x1.toNat x2.toNat x3.toNat) (by simp [results, Tryd.results36, go_sem, fieldsV]; exact ⟨rfl, rfl, rfl, rfl⟩) rfl ⟨rfl, ((Below.refl _ _).alloc (Nat.le_refl _) _).drew⟩
theorem box_on {w0 w w' : World} {B b off : Nat} {l x f : Value} (h : w.cell? ⟨B, 0, none⟩ = some l ∧ w.cell? ⟨B, 1, none⟩ = some f ∧ w.cell? ⟨b, off, none⟩ = some x ∧ Below B w0 w ∧ B + 1 ≤ w.heap.size) (hb : b < B) (k : Below w.heap.size w w') :
    w'.cell? ⟨B, 0, none⟩ = some l ∧ w'.cell? ⟨B, 1, none⟩ = some f ∧ w'.cell? ⟨b, off, none⟩ = some x ∧ Below B w0 w' ∧ B + 1 ≤ w'.heap.size :=
  ⟨(k.cell (p := ⟨B, 0, none⟩) h.2.2.2.2).trans h.1, (k.cell (p := ⟨B, 1, none⟩) h.2.2.2.2).trans h.2.1, (k.cell (p := ⟨b, off, none⟩) (Nat.lt_trans hb h.2.2.2.2)).trans h.2.2.1, h.2.2.2.1.trans (k.mono (Nat.le_of_lt h.2.2.2.2)), Nat.le_trans h.2.2.2.2 k.size⟩
theorem box_set {w0 w : World} {B b off g : Nat} {l x f : Value} (h : w.cell? ⟨B, 0, none⟩ = some l ∧ w.cell? ⟨B, 1, none⟩ = some f ∧ w.cell? ⟨b, off, none⟩ = some x ∧ Below B w0 w ∧ B + 1 ≤ w.heap.size) (hb : b < B) (hg : B + 1 ≤ g) (v0 v1 v2 v3 : Value) :
    ((((w.setCell ⟨g, 0, none⟩ v0).setCell ⟨g, 1, none⟩ v1).setCell ⟨g, 2, none⟩ v2).setCell ⟨g, 3, none⟩ v3).cell? ⟨B, 0, none⟩ = some l ∧ ((((w.setCell ⟨g, 0, none⟩ v0).setCell ⟨g, 1, none⟩ v1).setCell ⟨g, 2, none⟩ v2).setCell ⟨g, 3, none⟩ v3).cell? ⟨B, 1, none⟩ = some f ∧
      ((((w.setCell ⟨g, 0, none⟩ v0).setCell ⟨g, 1, none⟩ v1).setCell ⟨g, 2, none⟩ v2).setCell ⟨g, 3, none⟩ v3).cell? ⟨b, off, none⟩ = some x ∧ Below B w0 ((((w.setCell ⟨g, 0, none⟩ v0).setCell ⟨g, 1, none⟩ v1).setCell ⟨g, 2, none⟩ v2).setCell ⟨g, 3, none⟩ v3) ∧
      B + 1 ≤ ((((w.setCell ⟨g, 0, none⟩ v0).setCell ⟨g, 1, none⟩ v1).setCell ⟨g, 2, none⟩ v2).setCell ⟨g, 3, none⟩ v3).heap.size := by
  have k : Below (B + 1) w ((((w.setCell ⟨g, 0, none⟩ v0).setCell ⟨g, 1, none⟩ v1).setCell ⟨g, 2, none⟩ v2).setCell ⟨g, 3, none⟩ v3) :=
    ((((Below.refl _ _).setCell (p := ⟨g, 0, none⟩) hg _).setCell (p := ⟨g, 1, none⟩) hg _).setCell (p := ⟨g, 2, none⟩) hg _).setCell (p := ⟨g, 3, none⟩) hg _
  exact ⟨(k.cell (p := ⟨B, 0, none⟩) (Nat.lt_succ_self _)).trans h.1, (k.cell (p := ⟨B, 1, none⟩) (Nat.lt_succ_self _)).trans h.2.1, (k.cell (p := ⟨b, off, none⟩) (Nat.lt_succ_of_lt hb)).trans h.2.2.1, h.2.2.2.1.trans (k.mono (Nat.le_succ _)), by simpa using h.2.2.2.2⟩
/-- A new room, behind a call. -/
theorem new4 {W w : World} {v0 v1 v2 v3 : Value} {T : TypeId} (h : Below (W.alloc (.cells #[v0, v1, v2, v3] T)).heap.size (W.alloc (.cells #[v0, v1, v2, v3] T)) w) :
    w.cell? ⟨W.heap.size, 0, none⟩ = some v0 ∧ w.cell? ⟨W.heap.size, 1, none⟩ = some v1 ∧ w.cell? ⟨W.heap.size, 2, none⟩ = some v2 ∧ w.cell? ⟨W.heap.size, 3, none⟩ = some v3 ∧
      w.frozen? ⟨W.heap.size, 0, none⟩ = false ∧ w.frozen? ⟨W.heap.size, 1, none⟩ = false ∧ w.frozen? ⟨W.heap.size, 2, none⟩ = false ∧ w.frozen? ⟨W.heap.size, 3, none⟩ = false := by
  have k : W.heap.size < (W.alloc (.cells #[v0, v1, v2, v3] T)).heap.size := by simp
  refine ⟨(h.cell (p := ⟨_, 0, none⟩) k).trans ?_, (h.cell (p := ⟨_, 1, none⟩) k).trans ?_, (h.cell (p := ⟨_, 2, none⟩) k).trans ?_, (h.cell (p := ⟨_, 3, none⟩) k).trans ?_, (h.frozen (p := ⟨_, 0, none⟩) k).trans ?_, (h.frozen (p := ⟨_, 1, none⟩) k).trans ?_, (h.frozen (p := ⟨_, 2, none⟩) k).trans ?_, (h.frozen (p := ⟨_, 3, none⟩) k).trans ?_⟩ <;> go_cell
theorem new4d {W w : World} {v0 v1 v2 v3 : Value} {T : TypeId} (h : Below (W.drew.alloc (.cells #[v0, v1, v2, v3] T)).heap.size (W.drew.alloc (.cells #[v0, v1, v2, v3] T)) w) :
    w.cell? ⟨W.heap.size, 0, none⟩ = some v0 ∧ w.cell? ⟨W.heap.size, 1, none⟩ = some v1 ∧ w.cell? ⟨W.heap.size, 2, none⟩ = some v2 ∧ w.cell? ⟨W.heap.size, 3, none⟩ = some v3 ∧
      w.frozen? ⟨W.heap.size, 0, none⟩ = false ∧ w.frozen? ⟨W.heap.size, 1, none⟩ = false ∧ w.frozen? ⟨W.heap.size, 2, none⟩ = false ∧ w.frozen? ⟨W.heap.size, 3, none⟩ = false := new4 (W := W.drew) h
set_option maxHeartbeats 1000000 in
theorem codeCheck_is (fn b off : Nat) (l x z : Int) (w : World) (hK : ∀ args w, Sem.run Tryd.prog (callFunc fn args) w = .ok (.enter fn args) w) (hF : ∀ w, Calls Tryd.prog fn #[.pointer (some ⟨b, 0, none⟩)] w fun e w' => e = .returned (.pointer (some ⟨b, off, none⟩)) ∧ w = w')
    (hc : w.cell? ⟨b, off, none⟩ = some (.int .i64 x)) (hb : b < w.heap.size) (hz : fErr l x = z) :
    Calls Tryd.prog 37 #[.agg #[.int .u8 l, .func (.func fn) #[] #[]], .pointer (some ⟨b, 0, none⟩)] w fun e w' => e = .returned (.int .i64 z) ∧ Below w.heap.size w w' := by
  have HF := Lib.hid hF
  have HZ := Lib.hid hz
  have HB := Lib.hid hb
  clear hF hz
  go_enter Tryd.func37, Tryd.ntmps37
  go_wp2
  obtain ⟨W, hW⟩ : ∃ W, w.alloc (.cells #[.int .u8 l, .func (.func fn) #[] #[]] 58) = W := ⟨_, rfl⟩
  rw [hW]
  have q0 : W.drew.cell? ⟨w.heap.size, 0, none⟩ = some (.int .u8 l) ∧ W.drew.cell? ⟨w.heap.size, 1, none⟩ = some (.func (.func fn) #[] #[]) ∧ W.drew.cell? ⟨b, off, none⟩ = some (.int .i64 x) ∧ Below w.heap.size w W.drew ∧ w.heap.size + 1 ≤ W.drew.heap.size := by
    subst hW
    exact ⟨by go_cell, by go_cell, (((Below.refl w.heap.size w).alloc (Nat.le_refl _) _).cell (p := ⟨b, off, none⟩) hb).trans hc, ((Below.refl _ _).alloc (Nat.le_refl _) _).drew, by simp⟩
  have hgW : w.heap.size + 1 ≤ W.heap.size := q0.2.2.2.2
  clear hW hc
  go_region_held3 (fun w' => w'.cell? ⟨w.heap.size, 0, none⟩ = some (.int .u8 l) ∧ w'.cell? ⟨w.heap.size, 1, none⟩ = some (.func (.func fn) #[] #[]) ∧ w'.cell? ⟨b, off, none⟩ = some (.int .i64 x) ∧ Below w.heap.size w w' ∧ w.heap.size + 1 ≤ w'.heap.size)
    (first | with_reducible assumption | with_reducible exact box_on (by assumption) HB.out ((Below.refl _ _).alloc (Nat.le_refl _) _) | with_reducible exact box_set (by assumption) HB.out hgW _ _ _ _)
    (first
      | (go_at_call 53; ((with_reducible refine (codeRoom_is l _ _).mono ?_); rintro e w1 ⟨rfl, hq⟩); have hS := box_on (by assumption) HB.out hq; (first | (have h3 := new4d hq; obtain ⟨c0, c1, c2, c3, f0, f1, f2, f3⟩ := h3) | skip))
      | ((with_reducible refine (HF.out _).mono ?_); rintro e w1 ⟨rfl, rfl⟩))
  all_goals
    have hB := (‹_ ∧ _ ∧ _ ∧ Below w.heap.size w _ ∧ _›).2.2.2.1
    have HB2 := Lib.hid hB
    have hz := HZ.out
    clear hS q0 hB HZ
    unfold fErr at hz
    generalize rLow l = lo at *
    generalize rHigh l = hi at *
    generalize rAt l = at0 at *
    generalize rSz l = sz at *
  all_goals by_cases h1 : lo ≤ x ∧ x ≤ hi
  any_goals
    rw [if_pos h1] at hz
    obtain ⟨h2, h3⟩ := h1
    subst hz
    go_wp2
    go_ret
    exact ⟨rfl, HB2.out⟩
  all_goals
    rw [if_neg h1] at hz
    by_cases hs : sz = 0
  any_goals
    rw [if_pos hs] at hz
    have h4 : ((sz : Int) == 0) = true := by simpa using hs
    subst hz
    clear hs
  any_goals
    rw [if_neg hs] at hz
    have h4 : ((sz : Int) == 0) = false := by simpa using hs
    subst hz
    clear hs
  all_goals
    have h1' : x < lo ∨ lo ≤ x ∧ hi < x := by omega
    clear h1
    rcases h1' with h1 | ⟨h1, h2⟩ <;> (go_wp2; go_ret; exact ⟨rfl, HB2.out⟩)
end Go.Proofs.YtheflkhbmbfajaaDoor
