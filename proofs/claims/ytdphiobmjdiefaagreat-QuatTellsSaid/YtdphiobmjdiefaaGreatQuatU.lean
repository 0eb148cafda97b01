/- What the document's own plain answers for quaternions (package astrolaberef10) give: units, and what tells them. Conditions: the numbers are of the kind int32. -/
import Derived.Test.YtdphiobmjdiefaaGreatQuatS
import Derived.RegionTactic
namespace Go.Proofs.YtdphiobmjdiefaaGreat
open Go.RowKit

/-- Four words lie in the block B, and may be written. -/
structure FourAt (w : World) (B : Nat) (f : Nat → Int) : Prop where
  c : ∀ k : Nat, k < 4 → w.cell? ⟨B, k, none⟩ = some (.int .i32 (f k))
  z : ∀ k : Nat, k < 4 → w.frozen? ⟨B, k, none⟩ = false
theorem FourAt.keep {w w' : World} {B n : Nat} {f : Nat → Int} (h : FourAt w B f) (hb : Below n w w') (hB : B < n) : FourAt w' B f :=
  ⟨fun k hk => (hb.cell (p := ⟨B, k, none⟩) hB).trans (h.c k hk), fun k hk => (hb.frozen (p := ⟨B, k, none⟩) hB).trans (h.z k hk)⟩
theorem FourAt.set {w : World} {B i : Nat} {f : Nat → Int} (h : FourAt w B f) (hi : i < 4) (v : Int) : FourAt (w.setCell ⟨B, i, none⟩ (.int .i32 v)) B (fun k => if k = i then v else f k) := by
  refine ⟨fun k hk => ?_, fun k hk => by simpa using h.z k hk⟩
  by_cases e : k = i
  · subst e
    rw [World.cell?_setCell_same _ _ _ (h.c k hk)]
    simp
  · rw [World.cell?_setCell_other _ _ _ _ (by intro e'; exact e (by first | exact (Addr.mk.inj e').2.1 | exact (Addr.mk.inj e').2.1.symm))]
    simpa [e] using h.c k hk
theorem FourAt.other {w : World} {B B' i : Nat} {f : Nat → Int} (h : FourAt w B f) (hB : B ≠ B') (v : Value) : FourAt (w.setCell ⟨B', i, none⟩ v) B f :=
  ⟨fun k hk => (World.cell?_of_block (Below.heap_setCell _ _ _ _ hB)).trans (h.c k hk), fun k hk => by simpa using h.z k hk⟩
theorem FourAt.new (w : World) (a b c d : Int) (t : TypeId) : FourAt (w.alloc (.cells #[.int .i32 a, .int .i32 b, .int .i32 c, .int .i32 d] t)) w.heap.size (pt a b c d) := by
  refine ⟨fun k hk => ?_, fun k hk => ?_⟩
  · match k, hk with
    | 0, _ => show _ = some (Value.int .i32 a); go_cell
    | 1, _ => show _ = some (Value.int .i32 b); go_cell
    | 2, _ => show _ = some (Value.int .i32 c); go_cell
    | 3, _ => show _ = some (Value.int .i32 d); go_cell
  · match k, hk with
    | 0, _ => go_cell
    | 1, _ => go_cell
    | 2, _ => go_cell
    | 3, _ => go_cell
/-- The parts behind k of them are scaled. -/
def scaled (f : Nat → Int) (z h : Int) (k j : Nat) : Int := if j < k then wScale (f j) z h else f j
theorem scaled_next (f : Nat → Int) (z h : Int) (k : Nat) : (fun j => if j = k then wScale (f k) z h else scaled f z h k j) = scaled f z h (k + 1) := by
  funext j
  unfold scaled
  by_cases e : j = k
  · subst e; rw [if_pos rfl, if_pos (by omega)]
  · rw [if_neg e]
    by_cases l : j < k
    · rw [if_pos l, if_pos (by omega)]
    · rw [if_neg l, if_neg (by omega)]
theorem scaled_at (f : Nat → Int) (z h : Int) (k : Nat) : scaled f z h k k = f k := by unfold scaled; rw [if_neg (by omega)]
theorem scaled_0 (f : Nat → Int) (z h : Int) : scaled f z h 0 = f := by funext j; unfold scaled; rw [if_neg (by omega)]
/-- A part of a unit. -/
def wU (p0 p1 p2 p3 v : Int) : Int := wScale v (wRs (wLvU (wNrm p0 p1 p2 p3))) (wLvH (wNrm p0 p1 p2 p3))
theorem wNrm_bd (p0 p1 p2 p3 : Int) : -2147483648 ≤ wNrm p0 p1 p2 p3 ∧ wNrm p0 p1 p2 p3 ≤ 2147483647 := wCut_bd _

set_option maxHeartbeats 1000000 in
theorem refUnit_is (p0 p1 p2 p3 : Int) (w : World) (hp : Wd4 p0 p1 p2 p3) :
    Calls Tryz.prog 11 #[.agg #[.int .i32 p0, .int .i32 p1, .int .i32 p2, .int .i32 p3]] w
      fun e w' => e = .returned (.agg #[.int .i32 (wU p0 p1 p2 p3 p0), .int .i32 (wU p0 p1 p2 p3 p1), .int .i32 (wU p0 p1 p2 p3 p2), .int .i32 (wU p0 p1 p2 p3 p3)]) ∧ Below w.heap.size w w' := by
  obtain ⟨W, hW⟩ : ∃ W, (w.alloc (.cells #[.int .i32 p0, .int .i32 p1, .int .i32 p2, .int .i32 p3] 23)).alloc (.cells #[.int .i32 0, .int .i32 0, .int .i32 0, .int .i32 0] 23) = W := ⟨_, rfl⟩
  have hbW : Below w.heap.size w W := by rw [← hW]; exact below2 (Below.refl _ _) (Nat.le_refl _) _ _
  have hzW : w.heap.size + 1 < W.heap.size := by rw [← hW]; simp
  have hc : FourAt W w.heap.size (pt p0 p1 p2 p3) := by rw [← hW]; exact (FourAt.new w p0 p1 p2 p3 _).keep ((Below.refl _ _).alloc (Nat.le_refl _) _) (by simp)
  have hr : FourAt W (w.heap.size + 1) (pt 0 0 0 0) := by rw [← hW]; simpa using FourAt.new (w.alloc (.cells #[.int .i32 p0, .int .i32 p1, .int .i32 p2, .int .i32 p3] 23)) 0 0 0 0 23
  have zb := wRs_bd (wLvU (wNrm p0 p1 p2 p3))
  have hb5 := wLvH_bd (wNrm p0 p1 p2 p3)
  have nb := wNrm_bd p0 p1 p2 p3
  have e0 : wU p0 p1 p2 p3 p0 = scaled (pt p0 p1 p2 p3) (wRs (wLvU (wNrm p0 p1 p2 p3))) (wLvH (wNrm p0 p1 p2 p3)) 4 0 := rfl
  have e1 : wU p0 p1 p2 p3 p1 = scaled (pt p0 p1 p2 p3) (wRs (wLvU (wNrm p0 p1 p2 p3))) (wLvH (wNrm p0 p1 p2 p3)) 4 1 := rfl
  have e2 : wU p0 p1 p2 p3 p2 = scaled (pt p0 p1 p2 p3) (wRs (wLvU (wNrm p0 p1 p2 p3))) (wLvH (wNrm p0 p1 p2 p3)) 4 2 := rfl
  have e3 : wU p0 p1 p2 p3 p3 = scaled (pt p0 p1 p2 p3) (wRs (wLvU (wNrm p0 p1 p2 p3))) (wLvH (wNrm p0 p1 p2 p3)) 4 3 := rfl
  rw [e0, e1, e2, e3]
  clear e0 e1 e2 e3
  obtain ⟨n, hn⟩ : ∃ n, wNrm p0 p1 p2 p3 = n := ⟨_, rfl⟩
  rw [hn] at zb hb5 nb ⊢
  obtain ⟨z, hz⟩ : ∃ z, wRs (wLvU n) = z := ⟨_, rfl⟩
  rw [hz] at zb ⊢
  obtain ⟨h, hh⟩ : ∃ h, wLvH n = h := ⟨_, rfl⟩
  rw [hh] at hb5 ⊢
  have HN := Lib.hid hn
  have HZ := Lib.hid hz
  have HH := Lib.hid hh
  have HP := Lib.hid hp
  have HW := Lib.hid hW
  have HC := Lib.hid hc
  have HR := Lib.hid hr
  have HB := Lib.hid (pt_bd hp)
  have d0 := hc.c 0 (by decide)
  have d1 := hc.c 1 (by decide)
  have d2 := hc.c 2 (by decide)
  have d3 := hc.c 3 (by decide)
  have q0 : W.cell? ⟨w.heap.size, 0, none⟩ = some (.int .i32 p0) := d0
  have q1 : W.cell? ⟨w.heap.size, 1, none⟩ = some (.int .i32 p1) := d1
  have q2 : W.cell? ⟨w.heap.size, 2, none⟩ = some (.int .i32 p2) := d2
  have q3 : W.cell? ⟨w.heap.size, 3, none⟩ = some (.int .i32 p3) := d3
  clear hn hz hh hp hW hc hr d0 d1 d2 d3
  generalize pt p0 p1 p2 p3 = f at HB HC ⊢
  go_enter Tryz.func11, Tryz.ntmps11
  go_wp2_with fail
  rw [HW.out]
  refine (refNorm_is p0 p1 p2 p3 _ HP.out).mono ?_
  rw [HN.out]
  rintro e w1 ⟨rfl, hb1⟩
  go_wp2_with (go_at_call 26; refine (refRsqrt_v n z h _ nb.1 nb.2 HZ.out HH.out).mono ?_; rintro e w2 ⟨rfl, hb2⟩)
  have hb3 : Below W.heap.size W w2 := hb1.trans (hb2.mono hb1.size)
  have hc2 := HC.out.keep hb3 (by omega)
  have hr2 := HR.out.keep hb3 (by omega)
  have hbw := hbW.trans (hb3.mono (Nat.le_trans (Nat.le_of_lt (Nat.lt_of_succ_lt hzW)) (Nat.le_refl _)))
  have hz2 : w.heap.size + 1 < w2.heap.size := Nat.lt_of_lt_of_le hzW hb3.size
  clear q0 q1 q2 q3 hb1 hb2 hb3
  go_loopw [5] (fun i wr => ∃ k : Nat, k ≤ 4 ∧ i = .int .i64 k ∧ FourAt wr w.heap.size (scaled f z h k) ∧ FourAt wr (w.heap.size + 1) (pt 0 0 0 0) ∧ Below w.heap.size w wr ∧ w.heap.size + 1 < wr.heap.size) (fun i _ => 4 - (intOf i).toNat)
  case atStart => exact ⟨0, by omega, rfl, by rw [scaled_0]; exact hc2, hr2, hbw, hz2⟩
  case round =>
    obtain ⟨k, hk, rfl, hf, hr, hb, hs⟩ := hrel
    by_cases hlt : k < 4
    · have hlt' : (k : Int) < 4 := by omega
      have ck := hf.c k hlt
      rw [scaled_at] at ck
      have bk := HB.out k
      have HS := Lib.hid (scaled_next f z h k)
      have HF := Lib.hid hf
      have HR2 := Lib.hid hr
      clear hf hr
      generalize f k = y at *
      go_wp2_with (go_at_call 27; refine (refScale_is y z h _ bk.1 bk.2 zb.1 zb.2 (by omega) (by omega)).mono ?_; rintro e w3 ⟨rfl, hb3⟩; have hf3 := HF.out.keep hb3 (by omega); have c3 := hf3.c k hlt; have z3 := hf3.z k hlt)
      have hf4 := hf3.set hlt (wScale y z h)
      rw [HS.out] at hf4
      have hr4 := (HR2.out.keep hb3 hs).other (B' := w.heap.size) (i := k) (by omega) (.int .i32 (wScale y z h))
      have hb4 := (hb.trans (hb3.mono hb.size)).setCell (p := ⟨w.heap.size, k, none⟩) (Nat.le_refl _) (.int .i32 (wScale y z h))
      have hs4 := Nat.lt_of_lt_of_le hs hb3.size
      go_roundw
      case rel => exact ⟨k + 1, by omega, by go_num, hf4, hr4, hb4, by simpa using hs4⟩
      case measure => simp [intOf]; omega
    · obtain rfl : k = 4 := by omega
      obtain ⟨u, hu⟩ : ∃ u, scaled f z h 4 = u := ⟨_, rfl⟩
      rw [hu] at hf
      have HU := Lib.hid hu
      clear hu
      have c0 := hf.c 0 (by decide)
      have c1 := hf.c 1 (by decide)
      have c2 := hf.c 2 (by decide)
      have c3 := hf.c 3 (by decide)
      have d0 := hr.c 0 (by decide)
      have d1 := hr.c 1 (by decide)
      have d2 := hr.c 2 (by decide)
      have d3 := hr.c 3 (by decide)
      have f0 := hr.z 0 (by decide)
      have f1 := hr.z 1 (by decide)
      have f2 := hr.z 2 (by decide)
      have f3 := hr.z 3 (by decide)
      have hn4 := (((hr.set (i := 0) (by decide) (u 0)).set (i := 1) (by decide) (u 1)).set (i := 2) (by decide) (u 2)).set (i := 3) (by decide) (u 3)
      have hB4 := (((hb.setCell (p := ⟨w.heap.size + 1, 0, none⟩) (Nat.le_succ _) (.int .i32 (u 0))).setCell (p := ⟨w.heap.size + 1, 1, none⟩) (Nat.le_succ _) (.int .i32 (u 1))).setCell (p := ⟨w.heap.size + 1, 2, none⟩) (Nat.le_succ _) (.int .i32 (u 2))).setCell (p := ⟨w.heap.size + 1, 3, none⟩) (Nat.le_succ _) (.int .i32 (u 3))
      have HN4 := Lib.hid hn4
      clear hn4 hf hr
      go_wp2
      have hn4 := HN4.out
      generalize (((wr.setCell ⟨w.heap.size + 1, 0, none⟩ (.int .i32 (u 0))).setCell ⟨w.heap.size + 1, 1, none⟩ (.int .i32 (u 1))).setCell ⟨w.heap.size + 1, 2, none⟩ (.int .i32 (u 2))).setCell ⟨w.heap.size + 1, 3, none⟩ (.int .i32 (u 3)) = W3 at hn4 hB4 ⊢
      have p0 := hn4.c 0 (by decide)
      have p1 := hn4.c 1 (by decide)
      have p2 := hn4.c 2 (by decide)
      have p3 := hn4.c 3 (by decide)
      (try simp only [Exit.inBlock, Exit.then])
      exact bodyPost_ret (v := .agg #[.int .i32 (u 0), .int .i32 (u 1), .int .i32 (u 2), .int .i32 (u 3)]) (by simp [results, Tryz.results11, go_sem, p0, p1, p2, p3]) rfl ⟨by rw [HU.out], hB4⟩
/-- The squares of the parts ahead of k. -/
def sq2 (f : Nat → Int) : Nat → Int
  | 0 => 0
  | k + 1 => sq2 f k + f k * f k
theorem sq2_bd {f : Nat → Int} (h : ∀ k, -1342177280 ≤ f k ∧ f k ≤ 1342177280) : ∀ k, k ≤ 4 → 0 ≤ sq2 f k ∧ sq2 f k ≤ 1801439850948198400 * k
  | 0, _ => by unfold sq2; omega
  | k + 1, hk => by
    have ih := sq2_bd h k (by omega)
    have b := h k
    have p := abs_mul (a := f k) (b := f k) (A := 1342177280) (B := 1342177280) b.1 b.2 b.1 b.2
    have q := sqq (f k)
    show 0 ≤ sq2 f k + f k * f k ∧ sq2 f k + f k * f k ≤ 1801439850948198400 * ((k + 1 : Nat) : Int)
    omega

set_option maxHeartbeats 1000000 in
theorem refIs_true (p0 p1 p2 p3 : Int) (w : World) (hp : ∀ k, -1342177280 ≤ pt p0 p1 p2 p3 k ∧ pt p0 p1 p2 p3 k ≤ 1342177280)
    (h1 : -68719476736 < p0 * p0 + p1 * p1 + p2 * p2 + p3 * p3 - 1152921504606846976) (h2 : p0 * p0 + p1 * p1 + p2 * p2 + p3 * p3 - 1152921504606846976 < 68719476736) :
    Calls Tryz.prog 29 #[.agg #[.int .i32 p0, .int .i32 p1, .int .i32 p2, .int .i32 p3]] w fun e w' => e = .returned (.bool true) ∧ Below w.heap.size w w' := by
  obtain ⟨W, hW⟩ : ∃ W, w.alloc (.cells #[.int .i32 p0, .int .i32 p1, .int .i32 p2, .int .i32 p3] 23) = W := ⟨_, rfl⟩
  have hbW : Below w.heap.size w W := by rw [← hW]; exact (Below.refl _ _).alloc (Nat.le_refl _) _
  have hc : FourAt W w.heap.size (pt p0 p1 p2 p3) := by rw [← hW]; exact FourAt.new w p0 p1 p2 p3 _
  have e : sq2 (pt p0 p1 p2 p3) 4 = p0 * p0 + p1 * p1 + p2 * p2 + p3 * p3 := by
    show 0 + p0 * p0 + p1 * p1 + p2 * p2 + p3 * p3 = _
    omega
  rw [← e] at h1 h2
  have HB := Lib.hid hp
  have HS := Lib.hid (sq2_bd hp)
  have HW := Lib.hid hW
  have HC := Lib.hid hc
  clear hc hW e hp
  generalize pt p0 p1 p2 p3 = f at *
  go_enter Tryz.func29, Tryz.ntmps29
  go_wp2
  rw [HW.out]
  go_loopw [3, 4] (fun n i wr => ∃ k d : Nat, k ≤ 4 ∧ i = .int .i64 k ∧ n = .int .i64 (sq2 f k) ∧ wr = W.drewN d) (fun _ i _ => 4 - (intOf i).toNat)
  case atStart => exact ⟨0, 0, by omega, rfl, rfl, rfl⟩
  case round =>
    obtain ⟨k, d, hk, rfl, rfl, rfl⟩ := hrel
    by_cases hlt : k < 4
    · have hlt' : (k : Int) < 4 := by omega
      have bk := HB.out k
      have sk := HS.out k hk
      have sn := HS.out (k + 1) (by omega)
      have HN := Lib.hid (show sq2 f (k + 1) = sq2 f k + f k * f k from rfl)
      rw [HN.out] at sn
      have hck : (W.drewN d).cell? ⟨w.heap.size, k, none⟩ = some (.int .i32 (f k)) := HC.out.c k hlt
      have py := abs_mul (a := f k) (b := f k) (A := 1342177280) (B := 1342177280) bk.1 bk.2 bk.1 bk.2
      have pz := sqq (f k)
      generalize hV : W.drewN d = V at hck ⊢
      generalize f k = y at *
      generalize sq2 f k = x at *
      have HV := Lib.hid hV
      clear hV
      go_wp2
      go_region
      go_wp2
      go_roundw
      case rel => exact ⟨k + 1, d + 1, by omega, by go_num, by rw [HN.out], by rw [← HV.out]; rfl⟩
      case measure => simp [intOf]; omega
    · obtain rfl : k = 4 := by omega
      have s4 := HS.out 4 (by omega)
      generalize sq2 f 4 = x at *
      go_wp2
      go_ret
      exact ⟨by first | rfl | (simp; omega), below_drewN hbW d⟩
end Go.Proofs.YtdphiobmjdiefaaGreat
