/- What the document's own plain answers for quaternions (package astrolaberef10) give: units, and what tells them. Conditions: the numbers are of the kind int32. -/
import Derived.Test.YtdphiobmjdiefaaQuatS
import Derived.RegionTactic
namespace Go.Proofs.Ytdphiobmjdiefaa
open Go.RowKit

/-- Four words lie in the block B, and may be written. -/
structure FourAt (w : World) (B : Nat) (f : Nat → Int) : Prop where
  c : ∀ k : Nat, k < 4 → w.cell? ⟨B, k, none⟩ = some (.int .i32 (f k))
  z : ∀ k : Nat, k < 4 → w.frozen? ⟨B, k, none⟩ = false
theorem FourAt.keep {w w' : World} {B n : Nat} {f : Nat → Int} (h : FourAt w B f) (hb : Below n w w') (hB : B < n) : FourAt w' B f :=
  ⟨fun k hk => (hb.cell (p := ⟨B, k, none⟩) hB).trans (h.c k hk), fun k hk => (hb.frozen (p := ⟨B, k, none⟩) hB).trans (h.z k hk)⟩
theorem FourAt.set {w : World} {B i : Nat} {f : Nat → Int} (h : FourAt w B f) (hi : i < 4) (v : Int) : FourAt (w.setCell ⟨B, i, none⟩ (.int .i32 v)) B (fun k => if k = i then v else f k) := by
  refine ⟨fun k hk => ?_, fun k hk => by simpa using h.z k hk⟩
  by_cases e : k = i
  · subst e
    rw [World.cell?_setCell_same _ _ _ (h.c k hk)]
    simp
  · rw [World.cell?_setCell_other _ _ _ _ (by intro e'; exact e (by first | exact (Addr.mk.inj e').2.1 | exact (Addr.mk.inj e').2.1.symm))]
    simpa [e] using h.c k hk
theorem FourAt.other {w : World} {B B' i : Nat} {f : Nat → Int} (h : FourAt w B f) (hB : B ≠ B') (v : Value) : FourAt (w.setCell ⟨B', i, none⟩ v) B f :=
  ⟨fun k hk => (World.cell?_of_block (Below.heap_setCell _ _ _ _ hB)).trans (h.c k hk), fun k hk => by simpa using h.z k hk⟩
theorem FourAt.new (w : World) (a b c d : Int) (t : TypeId) : FourAt (w.alloc (.cells #[.int .i32 a, .int .i32 b, .int .i32 c, .int .i32 d] t)) w.heap.size (pt a b c d) := by
  refine ⟨fun k hk => ?_, fun k hk => ?_⟩
  · match k, hk with
    | 0, _ => show _ = some (Value.int .i32 a); go_cell
    | 1, _ => show _ = some (Value.int .i32 b); go_cell
    | 2, _ => show _ = some (Value.int .i32 c); go_cell
    | 3, _ => show _ = some (Value.int .i32 d); go_cell
  · match k, hk with
    | 0, _ => go_cell
    | 1, _ => go_cell
    | 2, _ => go_cell
    | 3, _ => go_cell
/-- The parts behind k of them are scaled. -/
def scaled (f : Nat → Int) (z h : Int) (k j : Nat) : Int := if j < k then wScale (f j) z h else f j
theorem scaled_next (f : Nat → Int) (z h : Int) (k : Nat) : (fun j => if j = k then wScale (f k) z h else scaled f z h k j) = scaled f z h (k + 1) := by
  funext j
  unfold scaled
  by_cases e : j = k
  · subst e; rw [if_pos rfl, if_pos (by omega)]
  · rw [if_neg e]
    by_cases l : j < k
    · rw [if_pos l, if_pos (by omega)]
    · rw [if_neg l, if_neg (by omega)]
theorem scaled_at (f : Nat → Int) (z h : Int) (k : Nat) : scaled f z h k k = f k := by unfold scaled; rw [if_neg (by omega)]
theorem scaled_0 (f : Nat → Int) (z h : Int) : scaled f z h 0 = f := by funext j; unfold scaled; rw [if_neg (by omega)]
/-- A part of a unit. -/
def wU (p0 p1 p2 p3 v : Int) : Int := wScale v (wRs (wLvU (wNrm p0 p1 p2 p3))) (wLvH (wNrm p0 p1 p2 p3))
theorem wNrm_bd (p0 p1 p2 p3 : Int) : -2147483648 ≤ wNrm p0 p1 p2 p3 ∧ wNrm p0 p1 p2 p3 ≤ 2147483647 := wCut_bd _

/-- The squares of the parts ahead of k. -/
def sq2 (f : Nat → Int) : Nat → Int
  | 0 => 0
  | k + 1 => sq2 f k + f k * f k
theorem sq2_bd {f : Nat → Int} (h : ∀ k, -1342177280 ≤ f k ∧ f k ≤ 1342177280) : ∀ k, k ≤ 4 → 0 ≤ sq2 f k ∧ sq2 f k ≤ 1801439850948198400 * k
  | 0, _ => by unfold sq2; omega
  | k + 1, hk => by
    have ih := sq2_bd h k (by omega)
    have b := h k
    have p := abs_mul (a := f k) (b := f k) (A := 1342177280) (B := 1342177280) b.1 b.2 b.1 b.2
    have q := sqq (f k)
    show 0 ≤ sq2 f k + f k * f k ∧ sq2 f k + f k * f k ≤ 1801439850948198400 * ((k + 1 : Nat) : Int)
    omega

set_option maxHeartbeats 1000000 in
theorem refIs_true (p0 p1 p2 p3 : Int) (w : World) (hp : ∀ k, -1342177280 ≤ pt p0 p1 p2 p3 k ∧ pt p0 p1 p2 p3 k ≤ 1342177280)
    (h1 : -68719476736 < p0 * p0 + p1 * p1 + p2 * p2 + p3 * p3 - 1152921504606846976) (h2 : p0 * p0 + p1 * p1 + p2 * p2 + p3 * p3 - 1152921504606846976 < 68719476736) :
    Calls Try.prog 9 #[.agg #[.int .i32 p0, .int .i32 p1, .int .i32 p2, .int .i32 p3]] w fun e w' => e = .returned (.bool true) ∧ Below w.heap.size w w' := by
  obtain ⟨W, hW⟩ : ∃ W, w.alloc (.cells #[.int .i32 p0, .int .i32 p1, .int .i32 p2, .int .i32 p3] 23) = W := ⟨_, rfl⟩
  have hbW : Below w.heap.size w W := by rw [← hW]; exact (Below.refl _ _).alloc (Nat.le_refl _) _
  have hc : FourAt W w.heap.size (pt p0 p1 p2 p3) := by rw [← hW]; exact FourAt.new w p0 p1 p2 p3 _
  have e : sq2 (pt p0 p1 p2 p3) 4 = p0 * p0 + p1 * p1 + p2 * p2 + p3 * p3 := by
    show 0 + p0 * p0 + p1 * p1 + p2 * p2 + p3 * p3 = _
    omega
  rw [← e] at h1 h2
  have HB := Lib.hid hp
  have HS := Lib.hid (sq2_bd hp)
  have HW := Lib.hid hW
  have HC := Lib.hid hc
  clear hc hW e hp
  generalize pt p0 p1 p2 p3 = f at *
  go_enter Try.func9, Try.ntmps9
  go_wp2
  rw [HW.out]
  go_loopw [3, 4] (fun n i wr => ∃ k d : Nat, k ≤ 4 ∧ i = .int .i64 k ∧ n = .int .i64 (sq2 f k) ∧ wr = W.drewN d) (fun _ i _ => 4 - (intOf i).toNat)
  case atStart => exact ⟨0, 0, by omega, rfl, rfl, rfl⟩
  case round =>
    obtain ⟨k, d, hk, rfl, rfl, rfl⟩ := hrel
    by_cases hlt : k < 4
    · have hlt' : (k : Int) < 4 := by omega
      have bk := HB.out k
      have sk := HS.out k hk
      have sn := HS.out (k + 1) (by omega)
      have HN := Lib.hid (show sq2 f (k + 1) = sq2 f k + f k * f k from rfl)
      rw [HN.out] at sn
      have hck : (W.drewN d).cell? ⟨w.heap.size, k, none⟩ = some (.int .i32 (f k)) := HC.out.c k hlt
      have py := abs_mul (a := f k) (b := f k) (A := 1342177280) (B := 1342177280) bk.1 bk.2 bk.1 bk.2
      have pz := sqq (f k)
      generalize hV : W.drewN d = V at hck ⊢
      generalize f k = y at *
      generalize sq2 f k = x at *
      have HV := Lib.hid hV
      clear hV
      go_wp2
      go_region
      go_wp2
      go_roundw
      case rel => exact ⟨k + 1, d + 1, by omega, by go_num, by rw [HN.out], by rw [← HV.out]; rfl⟩
      case measure => simp [intOf]; omega
    · obtain rfl : k = 4 := by omega
      have s4 := HS.out 4 (by omega)
      generalize sq2 f 4 = x at *
      go_wp2
      go_ret
      exact ⟨by first | rfl | (simp; omega), below_drewN hbW d⟩
end Go.Proofs.Ytdphiobmjdiefaa
