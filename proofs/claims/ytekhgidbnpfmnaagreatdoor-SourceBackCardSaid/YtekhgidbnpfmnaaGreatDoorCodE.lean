/- Package code: Decode; and in a caller's words. -/
import Derived.Test.YtekhgidbnpfmnaaGreatDoorCodC
namespace Go.Proofs.YtekhgidbnpfmnaaGreatDoor
open Go.RowKit

theorem left_bd {v : Int} (h : isOp (v / 67108864)) : (0 ≤ cB v 0 ∧ cB v 0 ≤ v % 67108864) ∧ (0 ≤ cB v 1 ∧ cB v 1 ≤ v % 67108864 - cB v 0) ∧ (0 ≤ cB v 2 ∧ cB v 2 ≤ v % 67108864 - cB v 0 - cB v 1) ∧ (0 ≤ cB v 3 ∧ cB v 3 ≤ v % 67108864 - cB v 0 - cB v 1 - cB v 2) := by
  obtain ⟨_, _, _, _, _, _, _, _, _, hs⟩ := shaped h
  unfold cB cF
  clear h
  generalize shL (v / 67108864) 0 = l0 at *
  generalize shL (v / 67108864) 1 = l1 at *
  generalize shL (v / 67108864) 2 = l2 at *
  generalize shL (v / 67108864) 3 = l3 at *
  rcases hs with ⟨_, _, rfl, rfl, rfl, rfl⟩ | ⟨_, _, rfl, rfl, rfl, rfl⟩ | ⟨_, rfl, rfl, rfl, rfl⟩ | ⟨_, rfl, rfl, rfl, rfl⟩ | ⟨_, rfl, rfl, rfl, rfl⟩ | ⟨_, rfl, rfl, rfl, rfl⟩ | ⟨_, rfl, rfl, rfl, rfl⟩ | ⟨_, rfl, rfl, rfl, rfl⟩ <;>
    simp only [fB_d, fB_a, fB_b, fB_s, fB_u, fB_n, fR_d, fR_a, fR_b, fR_s, fR_u, fR_n] at * <;> omega
theorem InsW.set1 {w0 w : World} {B : Nat} {o d a b n : Int} (h : InsW w0 B o d a b n w) (x : Int) : InsW w0 B o x a b n (w.setCell ⟨B, 1, none⟩ (.int .i64 x)) := by
  obtain ⟨c0, c1, c2, c3, c4, f0, f1, f2, f3, f4, lt, ge, be⟩ := h
  exact ⟨by go_cell, by go_cell, by go_cell, by go_cell, by go_cell, by go_cell, by go_cell, by go_cell, by go_cell, by go_cell, by simpa using lt, ge, be.setCell (p := ⟨B, 1, none⟩) ge _⟩
theorem InsW.set2 {w0 w : World} {B : Nat} {o d a b n : Int} (h : InsW w0 B o d a b n w) (x : Int) : InsW w0 B o d x b n (w.setCell ⟨B, 2, none⟩ (.int .i64 x)) := by
  obtain ⟨c0, c1, c2, c3, c4, f0, f1, f2, f3, f4, lt, ge, be⟩ := h
  exact ⟨by go_cell, by go_cell, by go_cell, by go_cell, by go_cell, by go_cell, by go_cell, by go_cell, by go_cell, by go_cell, by simpa using lt, ge, be.setCell (p := ⟨B, 2, none⟩) ge _⟩
theorem InsW.set3 {w0 w : World} {B : Nat} {o d a b n : Int} (h : InsW w0 B o d a b n w) (x : Int) : InsW w0 B o d a x n (w.setCell ⟨B, 3, none⟩ (.int .i64 x)) := by
  obtain ⟨c0, c1, c2, c3, c4, f0, f1, f2, f3, f4, lt, ge, be⟩ := h
  exact ⟨by go_cell, by go_cell, by go_cell, by go_cell, by go_cell, by go_cell, by go_cell, by go_cell, by go_cell, by go_cell, by simpa using lt, ge, be.setCell (p := ⟨B, 3, none⟩) ge _⟩
theorem InsW.set4 {w0 w : World} {B : Nat} {o d a b n : Int} (h : InsW w0 B o d a b n w) (x : Int) : InsW w0 B o d a b x (w.setCell ⟨B, 4, none⟩ (.int .i64 x)) := by
  obtain ⟨c0, c1, c2, c3, c4, f0, f1, f2, f3, f4, lt, ge, be⟩ := h
  exact ⟨by go_cell, by go_cell, by go_cell, by go_cell, by go_cell, by go_cell, by go_cell, by go_cell, by go_cell, by go_cell, by simpa using lt, ge, be.setCell (p := ⟨B, 4, none⟩) ge _⟩
theorem InsW.other {w0 w : World} {B B' k : Nat} {o d a b n : Int} (h : InsW w0 B o d a b n w) (hne : B < B') (x : Value) : InsW w0 B o d a b n (w.setCell ⟨B', k, none⟩ x) := by
  have q : Below (B + 1) w (w.setCell ⟨B', k, none⟩ x) := (Below.refl _ _).setCell (p := ⟨B', k, none⟩) hne _
  exact ⟨(q.cell (p := ⟨B, 0, none⟩) (Nat.lt_succ_self _)).trans h.c0, (q.cell (p := ⟨B, 1, none⟩) (Nat.lt_succ_self _)).trans h.c1, (q.cell (p := ⟨B, 2, none⟩) (Nat.lt_succ_self _)).trans h.c2, (q.cell (p := ⟨B, 3, none⟩) (Nat.lt_succ_self _)).trans h.c3, (q.cell (p := ⟨B, 4, none⟩) (Nat.lt_succ_self _)).trans h.c4,
    (q.frozen (p := ⟨B, 0, none⟩) (Nat.lt_succ_self _)).trans h.f0, (q.frozen (p := ⟨B, 1, none⟩) (Nat.lt_succ_self _)).trans h.f1, (q.frozen (p := ⟨B, 2, none⟩) (Nat.lt_succ_self _)).trans h.f2, (q.frozen (p := ⟨B, 3, none⟩) (Nat.lt_succ_self _)).trans h.f3, (q.frozen (p := ⟨B, 4, none⟩) (Nat.lt_succ_self _)).trans h.f4, by simpa using h.lt, h.ge, h.below.setCell (p := ⟨B', k, none⟩) (Nat.le_trans h.ge (Nat.le_of_lt hne)) _⟩
theorem InsW.wrote1 {w0 w w' : World} {B : Nat} {o d a b n x : Int} (h : InsW w0 B o d a b n w) (hw : Wrote w ⟨B, 1, none⟩ (.int .i64 x) w') : InsW w0 B o x a b n w' := by
  obtain ⟨w2, hq, rfl⟩ := hw
  exact (h.keep hq).set1 x
theorem InsW.wrote2 {w0 w w' : World} {B : Nat} {o d a b n x : Int} (h : InsW w0 B o d a b n w) (hw : Wrote w ⟨B, 2, none⟩ (.int .i64 x) w') : InsW w0 B o d x b n w' := by
  obtain ⟨w2, hq, rfl⟩ := hw
  exact (h.keep hq).set2 x
theorem InsW.wrote3 {w0 w w' : World} {B : Nat} {o d a b n x : Int} (h : InsW w0 B o d a b n w) (hw : Wrote w ⟨B, 3, none⟩ (.int .i64 x) w') : InsW w0 B o d a x n w' := by
  obtain ⟨w2, hq, rfl⟩ := hw
  exact (h.keep hq).set3 x
theorem InsW.wrote4 {w0 w w' : World} {B : Nat} {o d a b n x : Int} (h : InsW w0 B o d a b n w) (hw : Wrote w ⟨B, 4, none⟩ (.int .i64 x) w') : InsW w0 B o d a b x w' := by
  obtain ⟨w2, hq, rfl⟩ := hw
  exact (h.keep hq).set4 x
theorem InsW.wroteO {w0 w w' : World} {B B' k : Nat} {o d a b n : Int} {x : Value} (h : InsW w0 B o d a b n w) (hne : B < B') (hw : Wrote w ⟨B', k, none⟩ x w') : InsW w0 B o d a b n w' := by
  obtain ⟨w2, hq, rfl⟩ := hw
  exact (h.keep hq).other hne x
theorem box_wrote {W w' : World} {B k : Nat} {l f x : Value} {T : TypeId} (hw : Wrote (W.alloc (.cells #[l, f] T)) ⟨B, k, none⟩ x w') (hlt : B < W.heap.size) : w'.cell? ⟨W.heap.size, 0, none⟩ = some l ∧ w'.cell? ⟨W.heap.size, 1, none⟩ = some f := by
  obtain ⟨w2, hq, rfl⟩ := hw
  have e : W.heap.size < (W.alloc (.cells #[l, f] T)).heap.size := by simp
  have q0 : w2.cell? ⟨W.heap.size, 0, none⟩ = some l := (hq.cell (p := ⟨W.heap.size, 0, none⟩) e).trans (by go_cell)
  have q1 : w2.cell? ⟨W.heap.size, 1, none⟩ = some f := (hq.cell (p := ⟨W.heap.size, 1, none⟩) e).trans (by go_cell)
  exact ⟨by go_cell, by go_cell⟩
theorem InsW.two (w : World) (o : Int) (T : TypeId) : InsW w (w.heap.size + 1) o 0 0 0 0 ((w.alloc (.cells #[.int .i64 0, .int .i64 0, .int .i64 0, .int .i64 0, .int .i64 0] T)).alloc (.cells #[.int .i64 o, .int .i64 0, .int .i64 0, .int .i64 0, .int .i64 0] T)) := by
  have h := InsW.new w (w.alloc (.cells #[.int .i64 0, .int .i64 0, .int .i64 0, .int .i64 0, .int .i64 0] T)) o 0 0 0 0 T ((Below.refl _ _).alloc (Nat.le_refl _) _) (by simp)
  rw [show (w.alloc (.cells #[.int .i64 0, .int .i64 0, .int .i64 0, .int .i64 0, .int .i64 0] T)).heap.size = w.heap.size + 1 by simp] at h
  exact h
theorem InsW.one (w : World) (T : TypeId) (x : Obj) : InsW w w.heap.size 0 0 0 0 0 ((w.alloc (.cells #[.int .i64 0, .int .i64 0, .int .i64 0, .int .i64 0, .int .i64 0] T)).alloc x) := (InsW.new w w 0 0 0 0 0 T (Below.refl _ _) (Nat.le_refl _)).alloc x
theorem InsW.end5 {w0 w : World} {B : Nat} {o d a b n : Int} (h : InsW w0 B o d a b n w) (v0 v1 v2 v3 v4 : Value) : Below w0.heap.size w0 (((((w.setCell ⟨B, 0, none⟩ v0).setCell ⟨B, 1, none⟩ v1).setCell ⟨B, 2, none⟩ v2).setCell ⟨B, 3, none⟩ v3).setCell ⟨B, 4, none⟩ v4) :=
  ((((h.below.setCell (p := ⟨B, 0, none⟩) h.ge _).setCell (p := ⟨B, 1, none⟩) h.ge _).setCell (p := ⟨B, 2, none⟩) h.ge _).setCell (p := ⟨B, 3, none⟩) h.ge _).setCell (p := ⟨B, 4, none⟩) h.ge _

set_option maxHeartbeats 4000000 in
theorem codeDecode_no (v : Int) (w : World) (hL : ShapesLaid w) (v0 : 0 ≤ v) (v1 : v < 4294967296) (ho : ¬ isOp (v / 67108864)) :
    Calls Tryz.prog 61 #[.int .u32 v] w fun e w' => e = .returned (.tuple #[.agg #[.int .i64 0, .int .i64 0, .int .i64 0, .int .i64 0, .int .i64 0], .int .i64 2]) ∧ Below w.heap.size w w' := by
  have HL := Lib.hid hL
  have hs := Lib.hid (wShape_no ho)
  clear hL ho
  obtain ⟨op, hop⟩ : ∃ op, v / 67108864 = op := ⟨_, rfl⟩
  rw [hop] at hs
  have p0 : 0 ≤ op := by omega
  have p1 : op < 64 := by omega
  have HI := Lib.hid (fun T => InsW.two w op T)
  have HR := Lib.hid (fun T x => InsW.one w T x)
  go_enter Tryz.func61, Tryz.ntmps61
  go_wp2_with (go_at_call 91; ((with_reducible refine (shape_S op _ _ (HL.out.below (HI.out _).below HL.out.lt) hs.out).mono ?_); rintro e w1 ⟨rfl, hq⟩); have hR := (HR.out _ _).keep hq; have c0 := hR.c0; have c1 := hR.c1; have c2 := hR.c2; have c3 := hR.c3; have c4 := hR.c4; have f0 := hR.f0; have f1 := hR.f1; have f2 := hR.f2; have f3 := hR.f3; have f4 := hR.f4)
  exact bodyPost_ret (v := .tuple #[.agg #[.int .i64 0, .int .i64 0, .int .i64 0, .int .i64 0, .int .i64 0], .int .i64 2]) (by simp [results, Tryz.results61, go_sem, c0, c1, c2, c3, c4]) rfl ⟨rfl, hR.end5 _ _ _ _ _⟩
/-- What Decode answers where the operation is one. -/
def decV (w0 : World) (v : Int) (e : Ending) (w' : World) : Prop :=
  e = .returned (.tuple #[.agg #[.int .i64 (cO v), .int .i64 (cG v 0), .int .i64 (cG v 1), .int .i64 (cG v 2), .int .i64 (cG v 3)], .int .i64 (cErr v)]) ∧ Below w0.heap.size w0 w'
set_option maxHeartbeats 4000000 in
theorem codeDecode_is (v : Int) (w : World) (hL : ShapesLaid w) (v0 : 0 ≤ v) (v1 : v < 4294967296) : Calls Tryz.prog 61 #[.int .u32 v] w (decV w v) := by
  by_cases ho : isOp (v / 67108864)
  case neg =>
    have e : cErr v = 2 := by unfold cErr; rw [if_pos ho]
    refine (codeDecode_no v w hL v0 v1 ho).mono ?_
    rintro e' w' ⟨rfl, hb⟩
    refine ⟨?_, hb⟩
    unfold cO cG
    rw [e]; rfl
  have HL := Lib.hid hL
  obtain ⟨⟨b0, b1⟩, ⟨b2, b3⟩, ⟨b4, b5⟩, b6, b7⟩ := left_bd ho
  obtain ⟨x0, x1, x2, x3, hs, e0, e1, e2, e3, -⟩ := shaped ho
  have hE : cErr v = if cLeft v ≠ 0 then 3 else 0 := by unfold cErr; rw [if_neg (fun f => f ho)]
  have hR0 : fRead (shL (v / 67108864) 0) v = cF v 0 := rfl
  have hR1 : fRead (shL (v / 67108864) 1) v = cF v 1 := rfl
  have hR2 : fRead (shL (v / 67108864) 2) v = cF v 2 := rfl
  have hR3 : fRead (shL (v / 67108864) 3) v = cF v 3 := rfl
  have hZ0 : fBits (shL (v / 67108864) 0) (cF v 0) = cB v 0 := rfl
  have hZ1 : fBits (shL (v / 67108864) 1) (cF v 1) = cB v 1 := rfl
  have hZ2 : fBits (shL (v / 67108864) 2) (cF v 2) = cB v 2 := rfl
  have hZ3 : fBits (shL (v / 67108864) 3) (cF v 3) = cB v 3 := rfl
  have hLe : cLeft v = v % 67108864 - cB v 0 - cB v 1 - cB v 2 - cB v 3 := rfl
  unfold decV cO cG
  obtain ⟨op, hop⟩ : ∃ op, v / 67108864 = op := ⟨_, rfl⟩
  have m0 : v - op * 67108864 = v % 67108864 := by omega
  have m1 : v % 67108864 < 67108864 := by omega
  rw [hop] at hs e0 e1 e2 e3 ho hR0 hR1 hR2 hR3 hZ0 hZ1 hZ2 hZ3
  rw [hop]
  unfold isOp at ho
  obtain ⟨o1, o2⟩ := ho
  generalize cErr v = er at *
  generalize cLeft v = L4 at *
  generalize cB v 0 = z0 at *
  generalize cB v 1 = z1 at *
  generalize cB v 2 = z2 at *
  generalize cB v 3 = z3 at *
  generalize cF v 0 = d0 at *
  generalize cF v 1 = d1 at *
  generalize cF v 2 = d2 at *
  generalize cF v 3 = d3 at *
  generalize v % 67108864 = L0 at *
  obtain ⟨L1, hL1⟩ : ∃ L1, L0 - z0 = L1 := ⟨_, rfl⟩
  rw [hL1] at b3 b5 b7 hLe
  obtain ⟨L2, hL2⟩ : ∃ L2, L1 - z1 = L2 := ⟨_, rfl⟩
  rw [hL2] at b5 b7 hLe
  obtain ⟨L3, hL3⟩ : ∃ L3, L2 - z2 = L3 := ⟨_, rfl⟩
  rw [hL3] at b7 hLe
  have k1 : 0 ≤ L1 ∧ L1 < 67108864 := by omega
  have k2 : 0 ≤ L2 ∧ L2 < 67108864 := by omega
  have k3 : 0 ≤ L3 ∧ L3 < 67108864 := by omega
  have k4 : 0 ≤ L4 ∧ L4 < 67108864 := by omega
  have k0 : 0 ≤ L0 := by omega
  obtain ⟨k11, k12⟩ := k1
  obtain ⟨k21, k22⟩ := k2
  obtain ⟨k31, k32⟩ := k3
  obtain ⟨k41, k42⟩ := k4
  have R0 := Lib.hid hR0
  have R1 := Lib.hid hR1
  have R2 := Lib.hid hR2
  have R3 := Lib.hid hR3
  have Z0 := Lib.hid hZ0
  have Z1 := Lib.hid hZ1
  have Z2 := Lib.hid hZ2
  have Z3 := Lib.hid hZ3
  have E0 := Lib.hid e0
  have E1 := Lib.hid e1
  have E2 := Lib.hid e2
  have E3 := Lib.hid e3
  have hL4 := hLe.symm
  clear hR0 hR1 hR2 hR3 hZ0 hZ1 hZ2 hZ3 e0 e1 e2 e3 hL b0 b1 b2 b3 b4 b5 b6 b7 hLe
  generalize shL op 0 = l0 at *
  generalize shL op 1 = l1 at *
  generalize shL op 2 = l2 at *
  generalize shL op 3 = l3 at *
  have hne := str_some (a := wShape op) (by rw [hs]; exact fun h => by cases h)
  obtain ⟨s, hs2⟩ : ∃ s, wShape op = s := ⟨_, rfl⟩
  rw [hs2] at hs hne
  have HS := Lib.hid hs2
  have HS1 := Lib.hid hs
  have i0 := fieldsAt0 l0 l1 l2 l3
  have i1 := fieldsAt1 l0 l1 l2 l3
  have i2 := fieldsAt2 l0 l1 l2 l3
  have i3 := fieldsAt3 l0 l1 l2 l3
  clear hs hs2
  generalize hfv : fieldsV l0 l1 l2 l3 = fv at *
  have HI := Lib.hid (fun T => InsW.two w op T)
  have HR := Lib.hid (fun T x => InsW.one w T x)
  by_cases h4 : L4 = 0
  · subst h4
    rw [if_neg (fun f => f rfl)] at hE
    subst hE
    go_enter Tryz.func61, Tryz.ntmps61
    go_wp2_with (first
    | (go_at_call 91; ((with_reducible refine (shape_S op s _ (HL.out.below (HI.out _).below HL.out.lt) HS.out).mono ?_); rintro e w1 ⟨rfl, hq⟩); have hI := (HI.out _).keep hq; have hR := (HR.out _ _).keep hq)
    | (go_at_call 92; ((with_reducible refine (codeFields_is x0 x1 x2 x3 s l0 l1 l2 l3 _ HS1.out E0.out E1.out E2.out E3.out).mono ?_); rintro e w2 ⟨rfl, hq⟩); have hI := hI.keep hq; have hR := hR.keep hq)
    | (go_at_call 93; ((with_reducible refine (codeRead_is 122 (w.heap.size + 1) 1 l0 _ v d0 _ callF1 (codeField1_is _) (hI.alloc _).c1 (hI.alloc _).f1 (hI.alloc _).lt R0.out).mono ?_); rintro e w3 ⟨rfl, hw⟩); have hxb := box_wrote hw hI.lt; obtain ⟨y0, y1⟩ := hxb; have hR := (hR.alloc _).wroteO (Nat.lt_succ_self _) hw; have hI := (hI.alloc _).wrote1 hw; clear hw)
    | (go_at_call 94; ((with_reducible refine (codeBits_is 122 (w.heap.size + 1) 1 l0 _ _ _ callF1 (codeField1_is _) hI.c1 hI.lt Z0.out).mono ?_); rintro e w4 ⟨rfl, hq⟩); have hI := hI.keep hq; have hR := hR.keep hq)
    | (go_at_call 93; ((with_reducible refine (codeRead_is 123 (w.heap.size + 1) 2 l1 _ v d1 _ callF2 (codeField2_is _) (hI.alloc _).c2 (hI.alloc _).f2 (hI.alloc _).lt R1.out).mono ?_); rintro e w3 ⟨rfl, hw⟩); have hxb := box_wrote hw hI.lt; obtain ⟨y0, y1⟩ := hxb; have hR := (hR.alloc _).wroteO (Nat.lt_succ_self _) hw; have hI := (hI.alloc _).wrote2 hw; clear hw)
    | (go_at_call 94; ((with_reducible refine (codeBits_is 123 (w.heap.size + 1) 2 l1 _ _ _ callF2 (codeField2_is _) hI.c2 hI.lt Z1.out).mono ?_); rintro e w4 ⟨rfl, hq⟩); have hI := hI.keep hq; have hR := hR.keep hq)
    | (go_at_call 93; ((with_reducible refine (codeRead_is 124 (w.heap.size + 1) 3 l2 _ v d2 _ callF3 (codeField3_is _) (hI.alloc _).c3 (hI.alloc _).f3 (hI.alloc _).lt R2.out).mono ?_); rintro e w3 ⟨rfl, hw⟩); have hxb := box_wrote hw hI.lt; obtain ⟨y0, y1⟩ := hxb; have hR := (hR.alloc _).wroteO (Nat.lt_succ_self _) hw; have hI := (hI.alloc _).wrote3 hw; clear hw)
    | (go_at_call 94; ((with_reducible refine (codeBits_is 124 (w.heap.size + 1) 3 l2 _ _ _ callF3 (codeField3_is _) hI.c3 hI.lt Z2.out).mono ?_); rintro e w4 ⟨rfl, hq⟩); have hI := hI.keep hq; have hR := hR.keep hq)
    | (go_at_call 93; ((with_reducible refine (codeRead_is 125 (w.heap.size + 1) 4 l3 _ v d3 _ callF4 (codeField4_is _) (hI.alloc _).c4 (hI.alloc _).f4 (hI.alloc _).lt R3.out).mono ?_); rintro e w3 ⟨rfl, hw⟩); have hxb := box_wrote hw hI.lt; obtain ⟨y0, y1⟩ := hxb; have hR := (hR.alloc _).wroteO (Nat.lt_succ_self _) hw; have hI := (hI.alloc _).wrote4 hw; clear hw)
    | (go_at_call 94; ((with_reducible refine (codeBits_is 125 (w.heap.size + 1) 4 l3 _ _ _ callF4 (codeField4_is _) hI.c4 hI.lt Z3.out).mono ?_); rintro e w4 ⟨rfl, hq⟩); have hI := hI.keep hq; have hR := hR.keep hq; have c0 := hR.c0; have c1 := hR.c1; have c2 := hR.c2; have c3 := hR.c3; have c4 := hR.c4; have f0 := hR.f0; have f1 := hR.f1; have f2 := hR.f2; have f3 := hR.f3; have f4 := hR.f4; have q0 := hI.c0; have q1 := hI.c1; have q2 := hI.c2; have q3 := hI.c3; have q4 := hI.c4))
    refine wp_loop_rounds 5 ?_
    rw [rounds_succ]
    go_wp2_with (first
    | (go_at_call 91; ((with_reducible refine (shape_S op s _ (HL.out.below (HI.out _).below HL.out.lt) HS.out).mono ?_); rintro e w1 ⟨rfl, hq⟩); have hI := (HI.out _).keep hq; have hR := (HR.out _ _).keep hq)
    | (go_at_call 92; ((with_reducible refine (codeFields_is x0 x1 x2 x3 s l0 l1 l2 l3 _ HS1.out E0.out E1.out E2.out E3.out).mono ?_); rintro e w2 ⟨rfl, hq⟩); have hI := hI.keep hq; have hR := hR.keep hq)
    | (go_at_call 93; ((with_reducible refine (codeRead_is 122 (w.heap.size + 1) 1 l0 _ v d0 _ callF1 (codeField1_is _) (hI.alloc _).c1 (hI.alloc _).f1 (hI.alloc _).lt R0.out).mono ?_); rintro e w3 ⟨rfl, hw⟩); have hxb := box_wrote hw hI.lt; obtain ⟨y0, y1⟩ := hxb; have hR := (hR.alloc _).wroteO (Nat.lt_succ_self _) hw; have hI := (hI.alloc _).wrote1 hw; clear hw)
    | (go_at_call 94; ((with_reducible refine (codeBits_is 122 (w.heap.size + 1) 1 l0 _ _ _ callF1 (codeField1_is _) hI.c1 hI.lt Z0.out).mono ?_); rintro e w4 ⟨rfl, hq⟩); have hI := hI.keep hq; have hR := hR.keep hq)
    | (go_at_call 93; ((with_reducible refine (codeRead_is 123 (w.heap.size + 1) 2 l1 _ v d1 _ callF2 (codeField2_is _) (hI.alloc _).c2 (hI.alloc _).f2 (hI.alloc _).lt R1.out).mono ?_); rintro e w3 ⟨rfl, hw⟩); have hxb := box_wrote hw hI.lt; obtain ⟨y0, y1⟩ := hxb; have hR := (hR.alloc _).wroteO (Nat.lt_succ_self _) hw; have hI := (hI.alloc _).wrote2 hw; clear hw)
    | (go_at_call 94; ((with_reducible refine (codeBits_is 123 (w.heap.size + 1) 2 l1 _ _ _ callF2 (codeField2_is _) hI.c2 hI.lt Z1.out).mono ?_); rintro e w4 ⟨rfl, hq⟩); have hI := hI.keep hq; have hR := hR.keep hq)
    | (go_at_call 93; ((with_reducible refine (codeRead_is 124 (w.heap.size + 1) 3 l2 _ v d2 _ callF3 (codeField3_is _) (hI.alloc _).c3 (hI.alloc _).f3 (hI.alloc _).lt R2.out).mono ?_); rintro e w3 ⟨rfl, hw⟩); have hxb := box_wrote hw hI.lt; obtain ⟨y0, y1⟩ := hxb; have hR := (hR.alloc _).wroteO (Nat.lt_succ_self _) hw; have hI := (hI.alloc _).wrote3 hw; clear hw)
    | (go_at_call 94; ((with_reducible refine (codeBits_is 124 (w.heap.size + 1) 3 l2 _ _ _ callF3 (codeField3_is _) hI.c3 hI.lt Z2.out).mono ?_); rintro e w4 ⟨rfl, hq⟩); have hI := hI.keep hq; have hR := hR.keep hq)
    | (go_at_call 93; ((with_reducible refine (codeRead_is 125 (w.heap.size + 1) 4 l3 _ v d3 _ callF4 (codeField4_is _) (hI.alloc _).c4 (hI.alloc _).f4 (hI.alloc _).lt R3.out).mono ?_); rintro e w3 ⟨rfl, hw⟩); have hxb := box_wrote hw hI.lt; obtain ⟨y0, y1⟩ := hxb; have hR := (hR.alloc _).wroteO (Nat.lt_succ_self _) hw; have hI := (hI.alloc _).wrote4 hw; clear hw)
    | (go_at_call 94; ((with_reducible refine (codeBits_is 125 (w.heap.size + 1) 4 l3 _ _ _ callF4 (codeField4_is _) hI.c4 hI.lt Z3.out).mono ?_); rintro e w4 ⟨rfl, hq⟩); have hI := hI.keep hq; have hR := hR.keep hq; have c0 := hR.c0; have c1 := hR.c1; have c2 := hR.c2; have c3 := hR.c3; have c4 := hR.c4; have f0 := hR.f0; have f1 := hR.f1; have f2 := hR.f2; have f3 := hR.f3; have f4 := hR.f4; have q0 := hI.c0; have q1 := hI.c1; have q2 := hI.c2; have q3 := hI.c3; have q4 := hI.c4))
    rw [rounds_succ]
    go_wp2_with (first
    | (go_at_call 91; ((with_reducible refine (shape_S op s _ (HL.out.below (HI.out _).below HL.out.lt) HS.out).mono ?_); rintro e w1 ⟨rfl, hq⟩); have hI := (HI.out _).keep hq; have hR := (HR.out _ _).keep hq)
    | (go_at_call 92; ((with_reducible refine (codeFields_is x0 x1 x2 x3 s l0 l1 l2 l3 _ HS1.out E0.out E1.out E2.out E3.out).mono ?_); rintro e w2 ⟨rfl, hq⟩); have hI := hI.keep hq; have hR := hR.keep hq)
    | (go_at_call 93; ((with_reducible refine (codeRead_is 122 (w.heap.size + 1) 1 l0 _ v d0 _ callF1 (codeField1_is _) (hI.alloc _).c1 (hI.alloc _).f1 (hI.alloc _).lt R0.out).mono ?_); rintro e w3 ⟨rfl, hw⟩); have hxb := box_wrote hw hI.lt; obtain ⟨y0, y1⟩ := hxb; have hR := (hR.alloc _).wroteO (Nat.lt_succ_self _) hw; have hI := (hI.alloc _).wrote1 hw; clear hw)
    | (go_at_call 94; ((with_reducible refine (codeBits_is 122 (w.heap.size + 1) 1 l0 _ _ _ callF1 (codeField1_is _) hI.c1 hI.lt Z0.out).mono ?_); rintro e w4 ⟨rfl, hq⟩); have hI := hI.keep hq; have hR := hR.keep hq)
    | (go_at_call 93; ((with_reducible refine (codeRead_is 123 (w.heap.size + 1) 2 l1 _ v d1 _ callF2 (codeField2_is _) (hI.alloc _).c2 (hI.alloc _).f2 (hI.alloc _).lt R1.out).mono ?_); rintro e w3 ⟨rfl, hw⟩); have hxb := box_wrote hw hI.lt; obtain ⟨y0, y1⟩ := hxb; have hR := (hR.alloc _).wroteO (Nat.lt_succ_self _) hw; have hI := (hI.alloc _).wrote2 hw; clear hw)
    | (go_at_call 94; ((with_reducible refine (codeBits_is 123 (w.heap.size + 1) 2 l1 _ _ _ callF2 (codeField2_is _) hI.c2 hI.lt Z1.out).mono ?_); rintro e w4 ⟨rfl, hq⟩); have hI := hI.keep hq; have hR := hR.keep hq)
    | (go_at_call 93; ((with_reducible refine (codeRead_is 124 (w.heap.size + 1) 3 l2 _ v d2 _ callF3 (codeField3_is _) (hI.alloc _).c3 (hI.alloc _).f3 (hI.alloc _).lt R2.out).mono ?_); rintro e w3 ⟨rfl, hw⟩); have hxb := box_wrote hw hI.lt; obtain ⟨y0, y1⟩ := hxb; have hR := (hR.alloc _).wroteO (Nat.lt_succ_self _) hw; have hI := (hI.alloc _).wrote3 hw; clear hw)
    | (go_at_call 94; ((with_reducible refine (codeBits_is 124 (w.heap.size + 1) 3 l2 _ _ _ callF3 (codeField3_is _) hI.c3 hI.lt Z2.out).mono ?_); rintro e w4 ⟨rfl, hq⟩); have hI := hI.keep hq; have hR := hR.keep hq)
    | (go_at_call 93; ((with_reducible refine (codeRead_is 125 (w.heap.size + 1) 4 l3 _ v d3 _ callF4 (codeField4_is _) (hI.alloc _).c4 (hI.alloc _).f4 (hI.alloc _).lt R3.out).mono ?_); rintro e w3 ⟨rfl, hw⟩); have hxb := box_wrote hw hI.lt; obtain ⟨y0, y1⟩ := hxb; have hR := (hR.alloc _).wroteO (Nat.lt_succ_self _) hw; have hI := (hI.alloc _).wrote4 hw; clear hw)
    | (go_at_call 94; ((with_reducible refine (codeBits_is 125 (w.heap.size + 1) 4 l3 _ _ _ callF4 (codeField4_is _) hI.c4 hI.lt Z3.out).mono ?_); rintro e w4 ⟨rfl, hq⟩); have hI := hI.keep hq; have hR := hR.keep hq; have c0 := hR.c0; have c1 := hR.c1; have c2 := hR.c2; have c3 := hR.c3; have c4 := hR.c4; have f0 := hR.f0; have f1 := hR.f1; have f2 := hR.f2; have f3 := hR.f3; have f4 := hR.f4; have q0 := hI.c0; have q1 := hI.c1; have q2 := hI.c2; have q3 := hI.c3; have q4 := hI.c4))
    rw [rounds_succ]
    go_wp2_with (first
    | (go_at_call 91; ((with_reducible refine (shape_S op s _ (HL.out.below (HI.out _).below HL.out.lt) HS.out).mono ?_); rintro e w1 ⟨rfl, hq⟩); have hI := (HI.out _).keep hq; have hR := (HR.out _ _).keep hq)
    | (go_at_call 92; ((with_reducible refine (codeFields_is x0 x1 x2 x3 s l0 l1 l2 l3 _ HS1.out E0.out E1.out E2.out E3.out).mono ?_); rintro e w2 ⟨rfl, hq⟩); have hI := hI.keep hq; have hR := hR.keep hq)
    | (go_at_call 93; ((with_reducible refine (codeRead_is 122 (w.heap.size + 1) 1 l0 _ v d0 _ callF1 (codeField1_is _) (hI.alloc _).c1 (hI.alloc _).f1 (hI.alloc _).lt R0.out).mono ?_); rintro e w3 ⟨rfl, hw⟩); have hxb := box_wrote hw hI.lt; obtain ⟨y0, y1⟩ := hxb; have hR := (hR.alloc _).wroteO (Nat.lt_succ_self _) hw; have hI := (hI.alloc _).wrote1 hw; clear hw)
    | (go_at_call 94; ((with_reducible refine (codeBits_is 122 (w.heap.size + 1) 1 l0 _ _ _ callF1 (codeField1_is _) hI.c1 hI.lt Z0.out).mono ?_); rintro e w4 ⟨rfl, hq⟩); have hI := hI.keep hq; have hR := hR.keep hq)
    | (go_at_call 93; ((with_reducible refine (codeRead_is 123 (w.heap.size + 1) 2 l1 _ v d1 _ callF2 (codeField2_is _) (hI.alloc _).c2 (hI.alloc _).f2 (hI.alloc _).lt R1.out).mono ?_); rintro e w3 ⟨rfl, hw⟩); have hxb := box_wrote hw hI.lt; obtain ⟨y0, y1⟩ := hxb; have hR := (hR.alloc _).wroteO (Nat.lt_succ_self _) hw; have hI := (hI.alloc _).wrote2 hw; clear hw)
    | (go_at_call 94; ((with_reducible refine (codeBits_is 123 (w.heap.size + 1) 2 l1 _ _ _ callF2 (codeField2_is _) hI.c2 hI.lt Z1.out).mono ?_); rintro e w4 ⟨rfl, hq⟩); have hI := hI.keep hq; have hR := hR.keep hq)
    | (go_at_call 93; ((with_reducible refine (codeRead_is 124 (w.heap.size + 1) 3 l2 _ v d2 _ callF3 (codeField3_is _) (hI.alloc _).c3 (hI.alloc _).f3 (hI.alloc _).lt R2.out).mono ?_); rintro e w3 ⟨rfl, hw⟩); have hxb := box_wrote hw hI.lt; obtain ⟨y0, y1⟩ := hxb; have hR := (hR.alloc _).wroteO (Nat.lt_succ_self _) hw; have hI := (hI.alloc _).wrote3 hw; clear hw)
    | (go_at_call 94; ((with_reducible refine (codeBits_is 124 (w.heap.size + 1) 3 l2 _ _ _ callF3 (codeField3_is _) hI.c3 hI.lt Z2.out).mono ?_); rintro e w4 ⟨rfl, hq⟩); have hI := hI.keep hq; have hR := hR.keep hq)
    | (go_at_call 93; ((with_reducible refine (codeRead_is 125 (w.heap.size + 1) 4 l3 _ v d3 _ callF4 (codeField4_is _) (hI.alloc _).c4 (hI.alloc _).f4 (hI.alloc _).lt R3.out).mono ?_); rintro e w3 ⟨rfl, hw⟩); have hxb := box_wrote hw hI.lt; obtain ⟨y0, y1⟩ := hxb; have hR := (hR.alloc _).wroteO (Nat.lt_succ_self _) hw; have hI := (hI.alloc _).wrote4 hw; clear hw)
    | (go_at_call 94; ((with_reducible refine (codeBits_is 125 (w.heap.size + 1) 4 l3 _ _ _ callF4 (codeField4_is _) hI.c4 hI.lt Z3.out).mono ?_); rintro e w4 ⟨rfl, hq⟩); have hI := hI.keep hq; have hR := hR.keep hq; have c0 := hR.c0; have c1 := hR.c1; have c2 := hR.c2; have c3 := hR.c3; have c4 := hR.c4; have f0 := hR.f0; have f1 := hR.f1; have f2 := hR.f2; have f3 := hR.f3; have f4 := hR.f4; have q0 := hI.c0; have q1 := hI.c1; have q2 := hI.c2; have q3 := hI.c3; have q4 := hI.c4))
    rw [rounds_succ]
    go_wp2_with (first
    | (go_at_call 91; ((with_reducible refine (shape_S op s _ (HL.out.below (HI.out _).below HL.out.lt) HS.out).mono ?_); rintro e w1 ⟨rfl, hq⟩); have hI := (HI.out _).keep hq; have hR := (HR.out _ _).keep hq)
    | (go_at_call 92; ((with_reducible refine (codeFields_is x0 x1 x2 x3 s l0 l1 l2 l3 _ HS1.out E0.out E1.out E2.out E3.out).mono ?_); rintro e w2 ⟨rfl, hq⟩); have hI := hI.keep hq; have hR := hR.keep hq)
    | (go_at_call 93; ((with_reducible refine (codeRead_is 122 (w.heap.size + 1) 1 l0 _ v d0 _ callF1 (codeField1_is _) (hI.alloc _).c1 (hI.alloc _).f1 (hI.alloc _).lt R0.out).mono ?_); rintro e w3 ⟨rfl, hw⟩); have hxb := box_wrote hw hI.lt; obtain ⟨y0, y1⟩ := hxb; have hR := (hR.alloc _).wroteO (Nat.lt_succ_self _) hw; have hI := (hI.alloc _).wrote1 hw; clear hw)
    | (go_at_call 94; ((with_reducible refine (codeBits_is 122 (w.heap.size + 1) 1 l0 _ _ _ callF1 (codeField1_is _) hI.c1 hI.lt Z0.out).mono ?_); rintro e w4 ⟨rfl, hq⟩); have hI := hI.keep hq; have hR := hR.keep hq)
    | (go_at_call 93; ((with_reducible refine (codeRead_is 123 (w.heap.size + 1) 2 l1 _ v d1 _ callF2 (codeField2_is _) (hI.alloc _).c2 (hI.alloc _).f2 (hI.alloc _).lt R1.out).mono ?_); rintro e w3 ⟨rfl, hw⟩); have hxb := box_wrote hw hI.lt; obtain ⟨y0, y1⟩ := hxb; have hR := (hR.alloc _).wroteO (Nat.lt_succ_self _) hw; have hI := (hI.alloc _).wrote2 hw; clear hw)
    | (go_at_call 94; ((with_reducible refine (codeBits_is 123 (w.heap.size + 1) 2 l1 _ _ _ callF2 (codeField2_is _) hI.c2 hI.lt Z1.out).mono ?_); rintro e w4 ⟨rfl, hq⟩); have hI := hI.keep hq; have hR := hR.keep hq)
    | (go_at_call 93; ((with_reducible refine (codeRead_is 124 (w.heap.size + 1) 3 l2 _ v d2 _ callF3 (codeField3_is _) (hI.alloc _).c3 (hI.alloc _).f3 (hI.alloc _).lt R2.out).mono ?_); rintro e w3 ⟨rfl, hw⟩); have hxb := box_wrote hw hI.lt; obtain ⟨y0, y1⟩ := hxb; have hR := (hR.alloc _).wroteO (Nat.lt_succ_self _) hw; have hI := (hI.alloc _).wrote3 hw; clear hw)
    | (go_at_call 94; ((with_reducible refine (codeBits_is 124 (w.heap.size + 1) 3 l2 _ _ _ callF3 (codeField3_is _) hI.c3 hI.lt Z2.out).mono ?_); rintro e w4 ⟨rfl, hq⟩); have hI := hI.keep hq; have hR := hR.keep hq)
    | (go_at_call 93; ((with_reducible refine (codeRead_is 125 (w.heap.size + 1) 4 l3 _ v d3 _ callF4 (codeField4_is _) (hI.alloc _).c4 (hI.alloc _).f4 (hI.alloc _).lt R3.out).mono ?_); rintro e w3 ⟨rfl, hw⟩); have hxb := box_wrote hw hI.lt; obtain ⟨y0, y1⟩ := hxb; have hR := (hR.alloc _).wroteO (Nat.lt_succ_self _) hw; have hI := (hI.alloc _).wrote4 hw; clear hw)
    | (go_at_call 94; ((with_reducible refine (codeBits_is 125 (w.heap.size + 1) 4 l3 _ _ _ callF4 (codeField4_is _) hI.c4 hI.lt Z3.out).mono ?_); rintro e w4 ⟨rfl, hq⟩); have hI := hI.keep hq; have hR := hR.keep hq; have c0 := hR.c0; have c1 := hR.c1; have c2 := hR.c2; have c3 := hR.c3; have c4 := hR.c4; have f0 := hR.f0; have f1 := hR.f1; have f2 := hR.f2; have f3 := hR.f3; have f4 := hR.f4; have q0 := hI.c0; have q1 := hI.c1; have q2 := hI.c2; have q3 := hI.c3; have q4 := hI.c4))
    rw [rounds_succ]
    go_wp2_with (first
    | (go_at_call 91; ((with_reducible refine (shape_S op s _ (HL.out.below (HI.out _).below HL.out.lt) HS.out).mono ?_); rintro e w1 ⟨rfl, hq⟩); have hI := (HI.out _).keep hq; have hR := (HR.out _ _).keep hq)
    | (go_at_call 92; ((with_reducible refine (codeFields_is x0 x1 x2 x3 s l0 l1 l2 l3 _ HS1.out E0.out E1.out E2.out E3.out).mono ?_); rintro e w2 ⟨rfl, hq⟩); have hI := hI.keep hq; have hR := hR.keep hq)
    | (go_at_call 93; ((with_reducible refine (codeRead_is 122 (w.heap.size + 1) 1 l0 _ v d0 _ callF1 (codeField1_is _) (hI.alloc _).c1 (hI.alloc _).f1 (hI.alloc _).lt R0.out).mono ?_); rintro e w3 ⟨rfl, hw⟩); have hxb := box_wrote hw hI.lt; obtain ⟨y0, y1⟩ := hxb; have hR := (hR.alloc _).wroteO (Nat.lt_succ_self _) hw; have hI := (hI.alloc _).wrote1 hw; clear hw)
    | (go_at_call 94; ((with_reducible refine (codeBits_is 122 (w.heap.size + 1) 1 l0 _ _ _ callF1 (codeField1_is _) hI.c1 hI.lt Z0.out).mono ?_); rintro e w4 ⟨rfl, hq⟩); have hI := hI.keep hq; have hR := hR.keep hq)
    | (go_at_call 93; ((with_reducible refine (codeRead_is 123 (w.heap.size + 1) 2 l1 _ v d1 _ callF2 (codeField2_is _) (hI.alloc _).c2 (hI.alloc _).f2 (hI.alloc _).lt R1.out).mono ?_); rintro e w3 ⟨rfl, hw⟩); have hxb := box_wrote hw hI.lt; obtain ⟨y0, y1⟩ := hxb; have hR := (hR.alloc _).wroteO (Nat.lt_succ_self _) hw; have hI := (hI.alloc _).wrote2 hw; clear hw)
    | (go_at_call 94; ((with_reducible refine (codeBits_is 123 (w.heap.size + 1) 2 l1 _ _ _ callF2 (codeField2_is _) hI.c2 hI.lt Z1.out).mono ?_); rintro e w4 ⟨rfl, hq⟩); have hI := hI.keep hq; have hR := hR.keep hq)
    | (go_at_call 93; ((with_reducible refine (codeRead_is 124 (w.heap.size + 1) 3 l2 _ v d2 _ callF3 (codeField3_is _) (hI.alloc _).c3 (hI.alloc _).f3 (hI.alloc _).lt R2.out).mono ?_); rintro e w3 ⟨rfl, hw⟩); have hxb := box_wrote hw hI.lt; obtain ⟨y0, y1⟩ := hxb; have hR := (hR.alloc _).wroteO (Nat.lt_succ_self _) hw; have hI := (hI.alloc _).wrote3 hw; clear hw)
    | (go_at_call 94; ((with_reducible refine (codeBits_is 124 (w.heap.size + 1) 3 l2 _ _ _ callF3 (codeField3_is _) hI.c3 hI.lt Z2.out).mono ?_); rintro e w4 ⟨rfl, hq⟩); have hI := hI.keep hq; have hR := hR.keep hq)
    | (go_at_call 93; ((with_reducible refine (codeRead_is 125 (w.heap.size + 1) 4 l3 _ v d3 _ callF4 (codeField4_is _) (hI.alloc _).c4 (hI.alloc _).f4 (hI.alloc _).lt R3.out).mono ?_); rintro e w3 ⟨rfl, hw⟩); have hxb := box_wrote hw hI.lt; obtain ⟨y0, y1⟩ := hxb; have hR := (hR.alloc _).wroteO (Nat.lt_succ_self _) hw; have hI := (hI.alloc _).wrote4 hw; clear hw)
    | (go_at_call 94; ((with_reducible refine (codeBits_is 125 (w.heap.size + 1) 4 l3 _ _ _ callF4 (codeField4_is _) hI.c4 hI.lt Z3.out).mono ?_); rintro e w4 ⟨rfl, hq⟩); have hI := hI.keep hq; have hR := hR.keep hq; have c0 := hR.c0; have c1 := hR.c1; have c2 := hR.c2; have c3 := hR.c3; have c4 := hR.c4; have f0 := hR.f0; have f1 := hR.f1; have f2 := hR.f2; have f3 := hR.f3; have f4 := hR.f4; have q0 := hI.c0; have q1 := hI.c1; have q2 := hI.c2; have q3 := hI.c3; have q4 := hI.c4))
    exact bodyPost_ret (v := .tuple #[.agg #[.int .i64 op, .int .i64 d0, .int .i64 d1, .int .i64 d2, .int .i64 d3], .int .i64 0]) (by simp [results, Tryz.results61, go_sem, c0, c1, c2, c3, c4]) rfl ⟨rfl, hR.end5 _ _ _ _ _⟩
  · rw [if_pos h4] at hE
    subst hE
    have h4' : (L4 != 0) = true := by simpa using h4
    clear h4
    go_enter Tryz.func61, Tryz.ntmps61
    go_wp2_with (first
    | (go_at_call 91; ((with_reducible refine (shape_S op s _ (HL.out.below (HI.out _).below HL.out.lt) HS.out).mono ?_); rintro e w1 ⟨rfl, hq⟩); have hI := (HI.out _).keep hq; have hR := (HR.out _ _).keep hq)
    | (go_at_call 92; ((with_reducible refine (codeFields_is x0 x1 x2 x3 s l0 l1 l2 l3 _ HS1.out E0.out E1.out E2.out E3.out).mono ?_); rintro e w2 ⟨rfl, hq⟩); have hI := hI.keep hq; have hR := hR.keep hq)
    | (go_at_call 93; ((with_reducible refine (codeRead_is 122 (w.heap.size + 1) 1 l0 _ v d0 _ callF1 (codeField1_is _) (hI.alloc _).c1 (hI.alloc _).f1 (hI.alloc _).lt R0.out).mono ?_); rintro e w3 ⟨rfl, hw⟩); have hxb := box_wrote hw hI.lt; obtain ⟨y0, y1⟩ := hxb; have hR := (hR.alloc _).wroteO (Nat.lt_succ_self _) hw; have hI := (hI.alloc _).wrote1 hw; clear hw)
    | (go_at_call 94; ((with_reducible refine (codeBits_is 122 (w.heap.size + 1) 1 l0 _ _ _ callF1 (codeField1_is _) hI.c1 hI.lt Z0.out).mono ?_); rintro e w4 ⟨rfl, hq⟩); have hI := hI.keep hq; have hR := hR.keep hq)
    | (go_at_call 93; ((with_reducible refine (codeRead_is 123 (w.heap.size + 1) 2 l1 _ v d1 _ callF2 (codeField2_is _) (hI.alloc _).c2 (hI.alloc _).f2 (hI.alloc _).lt R1.out).mono ?_); rintro e w3 ⟨rfl, hw⟩); have hxb := box_wrote hw hI.lt; obtain ⟨y0, y1⟩ := hxb; have hR := (hR.alloc _).wroteO (Nat.lt_succ_self _) hw; have hI := (hI.alloc _).wrote2 hw; clear hw)
    | (go_at_call 94; ((with_reducible refine (codeBits_is 123 (w.heap.size + 1) 2 l1 _ _ _ callF2 (codeField2_is _) hI.c2 hI.lt Z1.out).mono ?_); rintro e w4 ⟨rfl, hq⟩); have hI := hI.keep hq; have hR := hR.keep hq)
    | (go_at_call 93; ((with_reducible refine (codeRead_is 124 (w.heap.size + 1) 3 l2 _ v d2 _ callF3 (codeField3_is _) (hI.alloc _).c3 (hI.alloc _).f3 (hI.alloc _).lt R2.out).mono ?_); rintro e w3 ⟨rfl, hw⟩); have hxb := box_wrote hw hI.lt; obtain ⟨y0, y1⟩ := hxb; have hR := (hR.alloc _).wroteO (Nat.lt_succ_self _) hw; have hI := (hI.alloc _).wrote3 hw; clear hw)
    | (go_at_call 94; ((with_reducible refine (codeBits_is 124 (w.heap.size + 1) 3 l2 _ _ _ callF3 (codeField3_is _) hI.c3 hI.lt Z2.out).mono ?_); rintro e w4 ⟨rfl, hq⟩); have hI := hI.keep hq; have hR := hR.keep hq)
    | (go_at_call 93; ((with_reducible refine (codeRead_is 125 (w.heap.size + 1) 4 l3 _ v d3 _ callF4 (codeField4_is _) (hI.alloc _).c4 (hI.alloc _).f4 (hI.alloc _).lt R3.out).mono ?_); rintro e w3 ⟨rfl, hw⟩); have hxb := box_wrote hw hI.lt; obtain ⟨y0, y1⟩ := hxb; have hR := (hR.alloc _).wroteO (Nat.lt_succ_self _) hw; have hI := (hI.alloc _).wrote4 hw; clear hw)
    | (go_at_call 94; ((with_reducible refine (codeBits_is 125 (w.heap.size + 1) 4 l3 _ _ _ callF4 (codeField4_is _) hI.c4 hI.lt Z3.out).mono ?_); rintro e w4 ⟨rfl, hq⟩); have hI := hI.keep hq; have hR := hR.keep hq; have c0 := hR.c0; have c1 := hR.c1; have c2 := hR.c2; have c3 := hR.c3; have c4 := hR.c4; have f0 := hR.f0; have f1 := hR.f1; have f2 := hR.f2; have f3 := hR.f3; have f4 := hR.f4; have q0 := hI.c0; have q1 := hI.c1; have q2 := hI.c2; have q3 := hI.c3; have q4 := hI.c4))
    refine wp_loop_rounds 5 ?_
    rw [rounds_succ]
    go_wp2_with (first
    | (go_at_call 91; ((with_reducible refine (shape_S op s _ (HL.out.below (HI.out _).below HL.out.lt) HS.out).mono ?_); rintro e w1 ⟨rfl, hq⟩); have hI := (HI.out _).keep hq; have hR := (HR.out _ _).keep hq)
    | (go_at_call 92; ((with_reducible refine (codeFields_is x0 x1 x2 x3 s l0 l1 l2 l3 _ HS1.out E0.out E1.out E2.out E3.out).mono ?_); rintro e w2 ⟨rfl, hq⟩); have hI := hI.keep hq; have hR := hR.keep hq)
    | (go_at_call 93; ((with_reducible refine (codeRead_is 122 (w.heap.size + 1) 1 l0 _ v d0 _ callF1 (codeField1_is _) (hI.alloc _).c1 (hI.alloc _).f1 (hI.alloc _).lt R0.out).mono ?_); rintro e w3 ⟨rfl, hw⟩); have hxb := box_wrote hw hI.lt; obtain ⟨y0, y1⟩ := hxb; have hR := (hR.alloc _).wroteO (Nat.lt_succ_self _) hw; have hI := (hI.alloc _).wrote1 hw; clear hw)
    | (go_at_call 94; ((with_reducible refine (codeBits_is 122 (w.heap.size + 1) 1 l0 _ _ _ callF1 (codeField1_is _) hI.c1 hI.lt Z0.out).mono ?_); rintro e w4 ⟨rfl, hq⟩); have hI := hI.keep hq; have hR := hR.keep hq)
    | (go_at_call 93; ((with_reducible refine (codeRead_is 123 (w.heap.size + 1) 2 l1 _ v d1 _ callF2 (codeField2_is _) (hI.alloc _).c2 (hI.alloc _).f2 (hI.alloc _).lt R1.out).mono ?_); rintro e w3 ⟨rfl, hw⟩); have hxb := box_wrote hw hI.lt; obtain ⟨y0, y1⟩ := hxb; have hR := (hR.alloc _).wroteO (Nat.lt_succ_self _) hw; have hI := (hI.alloc _).wrote2 hw; clear hw)
    | (go_at_call 94; ((with_reducible refine (codeBits_is 123 (w.heap.size + 1) 2 l1 _ _ _ callF2 (codeField2_is _) hI.c2 hI.lt Z1.out).mono ?_); rintro e w4 ⟨rfl, hq⟩); have hI := hI.keep hq; have hR := hR.keep hq)
    | (go_at_call 93; ((with_reducible refine (codeRead_is 124 (w.heap.size + 1) 3 l2 _ v d2 _ callF3 (codeField3_is _) (hI.alloc _).c3 (hI.alloc _).f3 (hI.alloc _).lt R2.out).mono ?_); rintro e w3 ⟨rfl, hw⟩); have hxb := box_wrote hw hI.lt; obtain ⟨y0, y1⟩ := hxb; have hR := (hR.alloc _).wroteO (Nat.lt_succ_self _) hw; have hI := (hI.alloc _).wrote3 hw; clear hw)
    | (go_at_call 94; ((with_reducible refine (codeBits_is 124 (w.heap.size + 1) 3 l2 _ _ _ callF3 (codeField3_is _) hI.c3 hI.lt Z2.out).mono ?_); rintro e w4 ⟨rfl, hq⟩); have hI := hI.keep hq; have hR := hR.keep hq)
    | (go_at_call 93; ((with_reducible refine (codeRead_is 125 (w.heap.size + 1) 4 l3 _ v d3 _ callF4 (codeField4_is _) (hI.alloc _).c4 (hI.alloc _).f4 (hI.alloc _).lt R3.out).mono ?_); rintro e w3 ⟨rfl, hw⟩); have hxb := box_wrote hw hI.lt; obtain ⟨y0, y1⟩ := hxb; have hR := (hR.alloc _).wroteO (Nat.lt_succ_self _) hw; have hI := (hI.alloc _).wrote4 hw; clear hw)
    | (go_at_call 94; ((with_reducible refine (codeBits_is 125 (w.heap.size + 1) 4 l3 _ _ _ callF4 (codeField4_is _) hI.c4 hI.lt Z3.out).mono ?_); rintro e w4 ⟨rfl, hq⟩); have hI := hI.keep hq; have hR := hR.keep hq; have c0 := hR.c0; have c1 := hR.c1; have c2 := hR.c2; have c3 := hR.c3; have c4 := hR.c4; have f0 := hR.f0; have f1 := hR.f1; have f2 := hR.f2; have f3 := hR.f3; have f4 := hR.f4; have q0 := hI.c0; have q1 := hI.c1; have q2 := hI.c2; have q3 := hI.c3; have q4 := hI.c4))
    rw [rounds_succ]
    go_wp2_with (first
    | (go_at_call 91; ((with_reducible refine (shape_S op s _ (HL.out.below (HI.out _).below HL.out.lt) HS.out).mono ?_); rintro e w1 ⟨rfl, hq⟩); have hI := (HI.out _).keep hq; have hR := (HR.out _ _).keep hq)
    | (go_at_call 92; ((with_reducible refine (codeFields_is x0 x1 x2 x3 s l0 l1 l2 l3 _ HS1.out E0.out E1.out E2.out E3.out).mono ?_); rintro e w2 ⟨rfl, hq⟩); have hI := hI.keep hq; have hR := hR.keep hq)
    | (go_at_call 93; ((with_reducible refine (codeRead_is 122 (w.heap.size + 1) 1 l0 _ v d0 _ callF1 (codeField1_is _) (hI.alloc _).c1 (hI.alloc _).f1 (hI.alloc _).lt R0.out).mono ?_); rintro e w3 ⟨rfl, hw⟩); have hxb := box_wrote hw hI.lt; obtain ⟨y0, y1⟩ := hxb; have hR := (hR.alloc _).wroteO (Nat.lt_succ_self _) hw; have hI := (hI.alloc _).wrote1 hw; clear hw)
    | (go_at_call 94; ((with_reducible refine (codeBits_is 122 (w.heap.size + 1) 1 l0 _ _ _ callF1 (codeField1_is _) hI.c1 hI.lt Z0.out).mono ?_); rintro e w4 ⟨rfl, hq⟩); have hI := hI.keep hq; have hR := hR.keep hq)
    | (go_at_call 93; ((with_reducible refine (codeRead_is 123 (w.heap.size + 1) 2 l1 _ v d1 _ callF2 (codeField2_is _) (hI.alloc _).c2 (hI.alloc _).f2 (hI.alloc _).lt R1.out).mono ?_); rintro e w3 ⟨rfl, hw⟩); have hxb := box_wrote hw hI.lt; obtain ⟨y0, y1⟩ := hxb; have hR := (hR.alloc _).wroteO (Nat.lt_succ_self _) hw; have hI := (hI.alloc _).wrote2 hw; clear hw)
    | (go_at_call 94; ((with_reducible refine (codeBits_is 123 (w.heap.size + 1) 2 l1 _ _ _ callF2 (codeField2_is _) hI.c2 hI.lt Z1.out).mono ?_); rintro e w4 ⟨rfl, hq⟩); have hI := hI.keep hq; have hR := hR.keep hq)
    | (go_at_call 93; ((with_reducible refine (codeRead_is 124 (w.heap.size + 1) 3 l2 _ v d2 _ callF3 (codeField3_is _) (hI.alloc _).c3 (hI.alloc _).f3 (hI.alloc _).lt R2.out).mono ?_); rintro e w3 ⟨rfl, hw⟩); have hxb := box_wrote hw hI.lt; obtain ⟨y0, y1⟩ := hxb; have hR := (hR.alloc _).wroteO (Nat.lt_succ_self _) hw; have hI := (hI.alloc _).wrote3 hw; clear hw)
    | (go_at_call 94; ((with_reducible refine (codeBits_is 124 (w.heap.size + 1) 3 l2 _ _ _ callF3 (codeField3_is _) hI.c3 hI.lt Z2.out).mono ?_); rintro e w4 ⟨rfl, hq⟩); have hI := hI.keep hq; have hR := hR.keep hq)
    | (go_at_call 93; ((with_reducible refine (codeRead_is 125 (w.heap.size + 1) 4 l3 _ v d3 _ callF4 (codeField4_is _) (hI.alloc _).c4 (hI.alloc _).f4 (hI.alloc _).lt R3.out).mono ?_); rintro e w3 ⟨rfl, hw⟩); have hxb := box_wrote hw hI.lt; obtain ⟨y0, y1⟩ := hxb; have hR := (hR.alloc _).wroteO (Nat.lt_succ_self _) hw; have hI := (hI.alloc _).wrote4 hw; clear hw)
    | (go_at_call 94; ((with_reducible refine (codeBits_is 125 (w.heap.size + 1) 4 l3 _ _ _ callF4 (codeField4_is _) hI.c4 hI.lt Z3.out).mono ?_); rintro e w4 ⟨rfl, hq⟩); have hI := hI.keep hq; have hR := hR.keep hq; have c0 := hR.c0; have c1 := hR.c1; have c2 := hR.c2; have c3 := hR.c3; have c4 := hR.c4; have f0 := hR.f0; have f1 := hR.f1; have f2 := hR.f2; have f3 := hR.f3; have f4 := hR.f4; have q0 := hI.c0; have q1 := hI.c1; have q2 := hI.c2; have q3 := hI.c3; have q4 := hI.c4))
    rw [rounds_succ]
    go_wp2_with (first
    | (go_at_call 91; ((with_reducible refine (shape_S op s _ (HL.out.below (HI.out _).below HL.out.lt) HS.out).mono ?_); rintro e w1 ⟨rfl, hq⟩); have hI := (HI.out _).keep hq; have hR := (HR.out _ _).keep hq)
    | (go_at_call 92; ((with_reducible refine (codeFields_is x0 x1 x2 x3 s l0 l1 l2 l3 _ HS1.out E0.out E1.out E2.out E3.out).mono ?_); rintro e w2 ⟨rfl, hq⟩); have hI := hI.keep hq; have hR := hR.keep hq)
    | (go_at_call 93; ((with_reducible refine (codeRead_is 122 (w.heap.size + 1) 1 l0 _ v d0 _ callF1 (codeField1_is _) (hI.alloc _).c1 (hI.alloc _).f1 (hI.alloc _).lt R0.out).mono ?_); rintro e w3 ⟨rfl, hw⟩); have hxb := box_wrote hw hI.lt; obtain ⟨y0, y1⟩ := hxb; have hR := (hR.alloc _).wroteO (Nat.lt_succ_self _) hw; have hI := (hI.alloc _).wrote1 hw; clear hw)
    | (go_at_call 94; ((with_reducible refine (codeBits_is 122 (w.heap.size + 1) 1 l0 _ _ _ callF1 (codeField1_is _) hI.c1 hI.lt Z0.out).mono ?_); rintro e w4 ⟨rfl, hq⟩); have hI := hI.keep hq; have hR := hR.keep hq)
    | (go_at_call 93; ((with_reducible refine (codeRead_is 123 (w.heap.size + 1) 2 l1 _ v d1 _ callF2 (codeField2_is _) (hI.alloc _).c2 (hI.alloc _).f2 (hI.alloc _).lt R1.out).mono ?_); rintro e w3 ⟨rfl, hw⟩); have hxb := box_wrote hw hI.lt; obtain ⟨y0, y1⟩ := hxb; have hR := (hR.alloc _).wroteO (Nat.lt_succ_self _) hw; have hI := (hI.alloc _).wrote2 hw; clear hw)
    | (go_at_call 94; ((with_reducible refine (codeBits_is 123 (w.heap.size + 1) 2 l1 _ _ _ callF2 (codeField2_is _) hI.c2 hI.lt Z1.out).mono ?_); rintro e w4 ⟨rfl, hq⟩); have hI := hI.keep hq; have hR := hR.keep hq)
    | (go_at_call 93; ((with_reducible refine (codeRead_is 124 (w.heap.size + 1) 3 l2 _ v d2 _ callF3 (codeField3_is _) (hI.alloc _).c3 (hI.alloc _).f3 (hI.alloc _).lt R2.out).mono ?_); rintro e w3 ⟨rfl, hw⟩); have hxb := box_wrote hw hI.lt; obtain ⟨y0, y1⟩ := hxb; have hR := (hR.alloc _).wroteO (Nat.lt_succ_self _) hw; have hI := (hI.alloc _).wrote3 hw; clear hw)
    | (go_at_call 94; ((with_reducible refine (codeBits_is 124 (w.heap.size + 1) 3 l2 _ _ _ callF3 (codeField3_is _) hI.c3 hI.lt Z2.out).mono ?_); rintro e w4 ⟨rfl, hq⟩); have hI := hI.keep hq; have hR := hR.keep hq)
    | (go_at_call 93; ((with_reducible refine (codeRead_is 125 (w.heap.size + 1) 4 l3 _ v d3 _ callF4 (codeField4_is _) (hI.alloc _).c4 (hI.alloc _).f4 (hI.alloc _).lt R3.out).mono ?_); rintro e w3 ⟨rfl, hw⟩); have hxb := box_wrote hw hI.lt; obtain ⟨y0, y1⟩ := hxb; have hR := (hR.alloc _).wroteO (Nat.lt_succ_self _) hw; have hI := (hI.alloc _).wrote4 hw; clear hw)
    | (go_at_call 94; ((with_reducible refine (codeBits_is 125 (w.heap.size + 1) 4 l3 _ _ _ callF4 (codeField4_is _) hI.c4 hI.lt Z3.out).mono ?_); rintro e w4 ⟨rfl, hq⟩); have hI := hI.keep hq; have hR := hR.keep hq; have c0 := hR.c0; have c1 := hR.c1; have c2 := hR.c2; have c3 := hR.c3; have c4 := hR.c4; have f0 := hR.f0; have f1 := hR.f1; have f2 := hR.f2; have f3 := hR.f3; have f4 := hR.f4; have q0 := hI.c0; have q1 := hI.c1; have q2 := hI.c2; have q3 := hI.c3; have q4 := hI.c4))
    rw [rounds_succ]
    go_wp2_with (first
    | (go_at_call 91; ((with_reducible refine (shape_S op s _ (HL.out.below (HI.out _).below HL.out.lt) HS.out).mono ?_); rintro e w1 ⟨rfl, hq⟩); have hI := (HI.out _).keep hq; have hR := (HR.out _ _).keep hq)
    | (go_at_call 92; ((with_reducible refine (codeFields_is x0 x1 x2 x3 s l0 l1 l2 l3 _ HS1.out E0.out E1.out E2.out E3.out).mono ?_); rintro e w2 ⟨rfl, hq⟩); have hI := hI.keep hq; have hR := hR.keep hq)
    | (go_at_call 93; ((with_reducible refine (codeRead_is 122 (w.heap.size + 1) 1 l0 _ v d0 _ callF1 (codeField1_is _) (hI.alloc _).c1 (hI.alloc _).f1 (hI.alloc _).lt R0.out).mono ?_); rintro e w3 ⟨rfl, hw⟩); have hxb := box_wrote hw hI.lt; obtain ⟨y0, y1⟩ := hxb; have hR := (hR.alloc _).wroteO (Nat.lt_succ_self _) hw; have hI := (hI.alloc _).wrote1 hw; clear hw)
    | (go_at_call 94; ((with_reducible refine (codeBits_is 122 (w.heap.size + 1) 1 l0 _ _ _ callF1 (codeField1_is _) hI.c1 hI.lt Z0.out).mono ?_); rintro e w4 ⟨rfl, hq⟩); have hI := hI.keep hq; have hR := hR.keep hq)
    | (go_at_call 93; ((with_reducible refine (codeRead_is 123 (w.heap.size + 1) 2 l1 _ v d1 _ callF2 (codeField2_is _) (hI.alloc _).c2 (hI.alloc _).f2 (hI.alloc _).lt R1.out).mono ?_); rintro e w3 ⟨rfl, hw⟩); have hxb := box_wrote hw hI.lt; obtain ⟨y0, y1⟩ := hxb; have hR := (hR.alloc _).wroteO (Nat.lt_succ_self _) hw; have hI := (hI.alloc _).wrote2 hw; clear hw)
    | (go_at_call 94; ((with_reducible refine (codeBits_is 123 (w.heap.size + 1) 2 l1 _ _ _ callF2 (codeField2_is _) hI.c2 hI.lt Z1.out).mono ?_); rintro e w4 ⟨rfl, hq⟩); have hI := hI.keep hq; have hR := hR.keep hq)
    | (go_at_call 93; ((with_reducible refine (codeRead_is 124 (w.heap.size + 1) 3 l2 _ v d2 _ callF3 (codeField3_is _) (hI.alloc _).c3 (hI.alloc _).f3 (hI.alloc _).lt R2.out).mono ?_); rintro e w3 ⟨rfl, hw⟩); have hxb := box_wrote hw hI.lt; obtain ⟨y0, y1⟩ := hxb; have hR := (hR.alloc _).wroteO (Nat.lt_succ_self _) hw; have hI := (hI.alloc _).wrote3 hw; clear hw)
    | (go_at_call 94; ((with_reducible refine (codeBits_is 124 (w.heap.size + 1) 3 l2 _ _ _ callF3 (codeField3_is _) hI.c3 hI.lt Z2.out).mono ?_); rintro e w4 ⟨rfl, hq⟩); have hI := hI.keep hq; have hR := hR.keep hq)
    | (go_at_call 93; ((with_reducible refine (codeRead_is 125 (w.heap.size + 1) 4 l3 _ v d3 _ callF4 (codeField4_is _) (hI.alloc _).c4 (hI.alloc _).f4 (hI.alloc _).lt R3.out).mono ?_); rintro e w3 ⟨rfl, hw⟩); have hxb := box_wrote hw hI.lt; obtain ⟨y0, y1⟩ := hxb; have hR := (hR.alloc _).wroteO (Nat.lt_succ_self _) hw; have hI := (hI.alloc _).wrote4 hw; clear hw)
    | (go_at_call 94; ((with_reducible refine (codeBits_is 125 (w.heap.size + 1) 4 l3 _ _ _ callF4 (codeField4_is _) hI.c4 hI.lt Z3.out).mono ?_); rintro e w4 ⟨rfl, hq⟩); have hI := hI.keep hq; have hR := hR.keep hq; have c0 := hR.c0; have c1 := hR.c1; have c2 := hR.c2; have c3 := hR.c3; have c4 := hR.c4; have f0 := hR.f0; have f1 := hR.f1; have f2 := hR.f2; have f3 := hR.f3; have f4 := hR.f4; have q0 := hI.c0; have q1 := hI.c1; have q2 := hI.c2; have q3 := hI.c3; have q4 := hI.c4))
    rw [rounds_succ]
    go_wp2_with (first
    | (go_at_call 91; ((with_reducible refine (shape_S op s _ (HL.out.below (HI.out _).below HL.out.lt) HS.out).mono ?_); rintro e w1 ⟨rfl, hq⟩); have hI := (HI.out _).keep hq; have hR := (HR.out _ _).keep hq)
    | (go_at_call 92; ((with_reducible refine (codeFields_is x0 x1 x2 x3 s l0 l1 l2 l3 _ HS1.out E0.out E1.out E2.out E3.out).mono ?_); rintro e w2 ⟨rfl, hq⟩); have hI := hI.keep hq; have hR := hR.keep hq)
    | (go_at_call 93; ((with_reducible refine (codeRead_is 122 (w.heap.size + 1) 1 l0 _ v d0 _ callF1 (codeField1_is _) (hI.alloc _).c1 (hI.alloc _).f1 (hI.alloc _).lt R0.out).mono ?_); rintro e w3 ⟨rfl, hw⟩); have hxb := box_wrote hw hI.lt; obtain ⟨y0, y1⟩ := hxb; have hR := (hR.alloc _).wroteO (Nat.lt_succ_self _) hw; have hI := (hI.alloc _).wrote1 hw; clear hw)
    | (go_at_call 94; ((with_reducible refine (codeBits_is 122 (w.heap.size + 1) 1 l0 _ _ _ callF1 (codeField1_is _) hI.c1 hI.lt Z0.out).mono ?_); rintro e w4 ⟨rfl, hq⟩); have hI := hI.keep hq; have hR := hR.keep hq)
    | (go_at_call 93; ((with_reducible refine (codeRead_is 123 (w.heap.size + 1) 2 l1 _ v d1 _ callF2 (codeField2_is _) (hI.alloc _).c2 (hI.alloc _).f2 (hI.alloc _).lt R1.out).mono ?_); rintro e w3 ⟨rfl, hw⟩); have hxb := box_wrote hw hI.lt; obtain ⟨y0, y1⟩ := hxb; have hR := (hR.alloc _).wroteO (Nat.lt_succ_self _) hw; have hI := (hI.alloc _).wrote2 hw; clear hw)
    | (go_at_call 94; ((with_reducible refine (codeBits_is 123 (w.heap.size + 1) 2 l1 _ _ _ callF2 (codeField2_is _) hI.c2 hI.lt Z1.out).mono ?_); rintro e w4 ⟨rfl, hq⟩); have hI := hI.keep hq; have hR := hR.keep hq)
    | (go_at_call 93; ((with_reducible refine (codeRead_is 124 (w.heap.size + 1) 3 l2 _ v d2 _ callF3 (codeField3_is _) (hI.alloc _).c3 (hI.alloc _).f3 (hI.alloc _).lt R2.out).mono ?_); rintro e w3 ⟨rfl, hw⟩); have hxb := box_wrote hw hI.lt; obtain ⟨y0, y1⟩ := hxb; have hR := (hR.alloc _).wroteO (Nat.lt_succ_self _) hw; have hI := (hI.alloc _).wrote3 hw; clear hw)
    | (go_at_call 94; ((with_reducible refine (codeBits_is 124 (w.heap.size + 1) 3 l2 _ _ _ callF3 (codeField3_is _) hI.c3 hI.lt Z2.out).mono ?_); rintro e w4 ⟨rfl, hq⟩); have hI := hI.keep hq; have hR := hR.keep hq)
    | (go_at_call 93; ((with_reducible refine (codeRead_is 125 (w.heap.size + 1) 4 l3 _ v d3 _ callF4 (codeField4_is _) (hI.alloc _).c4 (hI.alloc _).f4 (hI.alloc _).lt R3.out).mono ?_); rintro e w3 ⟨rfl, hw⟩); have hxb := box_wrote hw hI.lt; obtain ⟨y0, y1⟩ := hxb; have hR := (hR.alloc _).wroteO (Nat.lt_succ_self _) hw; have hI := (hI.alloc _).wrote4 hw; clear hw)
    | (go_at_call 94; ((with_reducible refine (codeBits_is 125 (w.heap.size + 1) 4 l3 _ _ _ callF4 (codeField4_is _) hI.c4 hI.lt Z3.out).mono ?_); rintro e w4 ⟨rfl, hq⟩); have hI := hI.keep hq; have hR := hR.keep hq; have c0 := hR.c0; have c1 := hR.c1; have c2 := hR.c2; have c3 := hR.c3; have c4 := hR.c4; have f0 := hR.f0; have f1 := hR.f1; have f2 := hR.f2; have f3 := hR.f3; have f4 := hR.f4; have q0 := hI.c0; have q1 := hI.c1; have q2 := hI.c2; have q3 := hI.c3; have q4 := hI.c4))
    exact bodyPost_ret (v := .tuple #[.agg #[.int .i64 0, .int .i64 0, .int .i64 0, .int .i64 0, .int .i64 0], .int .i64 3]) (by simp [results, Tryz.results61, go_sem, c0, c1, c2, c3, c4]) rfl ⟨rfl, hR.end5 _ _ _ _ _⟩

theorem eq_ins (a b c d e a' b' c' d' e' : Int) (w : World) : Sem.run Tryz.prog (Op.equalIn 10000 68 (.agg #[.int .i64 a, .int .i64 b, .int .i64 c, .int .i64 d, .int .i64 e]) (.agg #[.int .i64 a', .int .i64 b', .int .i64 c', .int .i64 d', .int .i64 e'])) w =
    .ok (a == a' && (b == b' && (c == c' && (d == d' && e == e')))) w := by
  rw [run_equalIn_struct w 9999 68 _ _ (by kernel_rfl) (by kernel_rfl)]
  have hu := Tryz.underlying68
  simp only [Program.fieldsOf, hu]
  go_simp
  repeat' split
  all_goals simp_all
/-- What is decoded, in a caller's words. -/
theorem codeDecode_to {v o d a b n z : Int} {w : World} (ho : cO v = o) (hd : cG v 0 = d) (ha : cG v 1 = a) (hb : cG v 2 = b) (hn : cG v 3 = n) (hz : cErr v = z) (hL : ShapesLaid w) (v0 : 0 ≤ v) (v1 : v < 4294967296) :
    Calls Tryz.prog 61 #[.int .u32 v] w fun e w' => e = .returned (.tuple #[.agg #[.int .i64 o, .int .i64 d, .int .i64 a, .int .i64 b, .int .i64 n], .int .i64 z]) ∧ Below w.heap.size w w' := by
  subst ho hd ha hb hn hz
  exact (codeDecode_is v w hL v0 v1).mono fun _ _ h => h
theorem awake_facts : cChk 31 1 2 0 (-1) = 0 ∧ cEnc 31 1 2 0 (-1) = 2082668543 ∧ cO 2082668543 = 31 ∧ cG 2082668543 0 = 1 ∧ cG 2082668543 1 = 2 ∧ cG 2082668543 2 = 0 ∧ cG 2082668543 3 = -1 ∧ cErr 2082668543 = 0 ∧ cO 0 = 0 ∧ cG 0 0 = 0 ∧ cG 0 1 = 0 ∧ cG 0 2 = 0 ∧ cG 0 3 = 0 ∧ cErr 0 = 2 := by decide +kernel
end Go.Proofs.YtekhgidbnpfmnaaGreatDoor
