/- What package code's functions answer: Check, Encode, Decode. Condition: the package ops' table of shapes lies as the program's text has it. -/
import Derived.Test.YtekhgidbnpfmnaaGreatDoorCodA
namespace Go.Proofs.YtekhgidbnpfmnaaGreatDoor
open Go.RowKit

/-- An instruction lies in a block of its own, made since w0. -/
structure InsW (w0 : World) (B : Nat) (o d a b n : Int) (w : World) : Prop where
  c0 : w.cell? ⟨B, 0, none⟩ = some (.int .i64 o)
  c1 : w.cell? ⟨B, 1, none⟩ = some (.int .i64 d)
  c2 : w.cell? ⟨B, 2, none⟩ = some (.int .i64 a)
  c3 : w.cell? ⟨B, 3, none⟩ = some (.int .i64 b)
  c4 : w.cell? ⟨B, 4, none⟩ = some (.int .i64 n)
  f0 : w.frozen? ⟨B, 0, none⟩ = false
  f1 : w.frozen? ⟨B, 1, none⟩ = false
  f2 : w.frozen? ⟨B, 2, none⟩ = false
  f3 : w.frozen? ⟨B, 3, none⟩ = false
  f4 : w.frozen? ⟨B, 4, none⟩ = false
  lt : B < w.heap.size
  ge : w0.heap.size ≤ B
  below : Below w0.heap.size w0 w
theorem InsW.le {w0 w : World} {B : Nat} {o d a b n : Int} (h : InsW w0 B o d a b n w) : w0.heap.size ≤ w.heap.size := Nat.le_of_lt (Nat.lt_of_le_of_lt h.ge h.lt)
theorem InsW.keep {w0 w w' : World} {B : Nat} {o d a b n : Int} (h : InsW w0 B o d a b n w) (k : Below w.heap.size w w') : InsW w0 B o d a b n w' :=
  ⟨(k.cell (p := ⟨B, 0, none⟩) h.lt).trans h.c0, (k.cell (p := ⟨B, 1, none⟩) h.lt).trans h.c1, (k.cell (p := ⟨B, 2, none⟩) h.lt).trans h.c2, (k.cell (p := ⟨B, 3, none⟩) h.lt).trans h.c3, (k.cell (p := ⟨B, 4, none⟩) h.lt).trans h.c4,
    (k.frozen (p := ⟨B, 0, none⟩) h.lt).trans h.f0, (k.frozen (p := ⟨B, 1, none⟩) h.lt).trans h.f1, (k.frozen (p := ⟨B, 2, none⟩) h.lt).trans h.f2, (k.frozen (p := ⟨B, 3, none⟩) h.lt).trans h.f3, (k.frozen (p := ⟨B, 4, none⟩) h.lt).trans h.f4, Nat.lt_of_lt_of_le h.lt k.size, h.ge, h.below.trans (k.mono h.le)⟩
theorem InsW.alloc {w0 w : World} {B : Nat} {o d a b n : Int} (h : InsW w0 B o d a b n w) (x : Obj) : InsW w0 B o d a b n (w.alloc x) := h.keep ((Below.refl _ _).alloc (Nat.le_refl _) x)
theorem InsW.new (w0 w : World) (o d a b n : Int) (T : TypeId) (hb : Below w0.heap.size w0 w) (hs : w0.heap.size ≤ w.heap.size) : InsW w0 w.heap.size o d a b n (w.alloc (.cells #[.int .i64 o, .int .i64 d, .int .i64 a, .int .i64 b, .int .i64 n] T)) :=
  ⟨by go_cell, by go_cell, by go_cell, by go_cell, by go_cell, by go_cell, by go_cell, by go_cell, by go_cell, by go_cell, by simp, hs, hb.alloc hs _⟩
theorem callF1 (args : Array Value) (w : World) : Sem.run Tryz.prog (callFunc 122 args) w = .ok (.enter 122 args) w := by kernel_rfl
theorem callF2 (args : Array Value) (w : World) : Sem.run Tryz.prog (callFunc 123 args) w = .ok (.enter 123 args) w := by kernel_rfl
theorem callF3 (args : Array Value) (w : World) : Sem.run Tryz.prog (callFunc 124 args) w = .ok (.enter 124 args) w := by kernel_rfl
theorem callF4 (args : Array Value) (w : World) : Sem.run Tryz.prog (callFunc 125 args) w = .ok (.enter 125 args) w := by kernel_rfl
theorem fieldsAt0 (l0 l1 l2 l3 : Int) (w : World) : Sem.run Tryz.prog (Instr.index 143 (fieldsV l0 l1 l2 l3) (.int .i64 0)) w = .ok (.agg #[.int .u8 l0, .func (.func 122) #[] #[]]) w := by kernel_rfl
theorem fieldsAt1 (l0 l1 l2 l3 : Int) (w : World) : Sem.run Tryz.prog (Instr.index 143 (fieldsV l0 l1 l2 l3) (.int .i64 1)) w = .ok (.agg #[.int .u8 l1, .func (.func 123) #[] #[]]) w := by kernel_rfl
theorem fieldsAt2 (l0 l1 l2 l3 : Int) (w : World) : Sem.run Tryz.prog (Instr.index 143 (fieldsV l0 l1 l2 l3) (.int .i64 2)) w = .ok (.agg #[.int .u8 l2, .func (.func 124) #[] #[]]) w := by kernel_rfl
theorem fieldsAt3 (l0 l1 l2 l3 : Int) (w : World) : Sem.run Tryz.prog (Instr.index 143 (fieldsV l0 l1 l2 l3) (.int .i64 3)) w = .ok (.agg #[.int .u8 l3, .func (.func 125) #[] #[]]) w := by kernel_rfl
theorem shape_S (n : Int) (s : ByteArray) (w : World) (h : ShapesLaid w) (hs : wShape n = s) :
    Calls Tryz.prog 91 #[.int .i64 n] w fun e w' => e = .returned (.string s) ∧ Below w.heap.size w w' := by
  obtain ⟨t1, h1⟩ := h
  subst hs
  exact shape_is n w h1

set_option maxHeartbeats 4000000 in
theorem codeCheckI_is (o d a b n z : Int) (w : World) (hL : ShapesLaid w) (hz : cChk o d a b n = z) :
    Calls Tryz.prog 95 #[.agg #[.int .i64 o, .int .i64 d, .int .i64 a, .int .i64 b, .int .i64 n]] w fun e w' => e = .returned (.int .i64 z) ∧ Below w.heap.size w w' := by
  have HI := Lib.hid (fun T => InsW.new w w o d a b n T (Below.refl _ _) (Nat.le_refl _))
  have HL := Lib.hid hL
  by_cases ho : isOp o
  · obtain ⟨x0, x1, x2, x3, hs, e0, e1, e2, e3, -⟩ := shaped ho
    have hcase : (fErr (shL o 0) d ≠ 0 ∧ z = fErr (shL o 0) d) ∨ (fErr (shL o 0) d = 0 ∧ fErr (shL o 1) a ≠ 0 ∧ z = fErr (shL o 1) a) ∨ (fErr (shL o 0) d = 0 ∧ fErr (shL o 1) a = 0 ∧ fErr (shL o 2) b ≠ 0 ∧ z = fErr (shL o 2) b) ∨
        (fErr (shL o 0) d = 0 ∧ fErr (shL o 1) a = 0 ∧ fErr (shL o 2) b = 0 ∧ fErr (shL o 3) n ≠ 0 ∧ z = fErr (shL o 3) n) ∨ (fErr (shL o 0) d = 0 ∧ fErr (shL o 1) a = 0 ∧ fErr (shL o 2) b = 0 ∧ fErr (shL o 3) n = 0 ∧ z = 0) := by
      unfold cChk at hz
      rw [if_neg (fun f => f ho)] at hz
      by_cases k0 : fErr (shL o 0) d = 0
      · by_cases k1 : fErr (shL o 1) a = 0
        · by_cases k2 : fErr (shL o 2) b = 0
          · by_cases k3 : fErr (shL o 3) n = 0 <;> simp_all
          · simp_all
        · simp_all
      · simp_all
    have hne := str_some (a := wShape o) (by rw [hs]; exact fun h => by cases h)
    obtain ⟨z0, hz0⟩ : ∃ z0, fErr (shL o 0) d = z0 := ⟨_, rfl⟩
    obtain ⟨z1, hz1⟩ : ∃ z1, fErr (shL o 1) a = z1 := ⟨_, rfl⟩
    obtain ⟨z2, hz2⟩ : ∃ z2, fErr (shL o 2) b = z2 := ⟨_, rfl⟩
    obtain ⟨z3, hz3⟩ : ∃ z3, fErr (shL o 3) n = z3 := ⟨_, rfl⟩
    rw [hz0, hz1, hz2, hz3] at hcase
    have Z0 := Lib.hid hz0
    have Z1 := Lib.hid hz1
    have Z2 := Lib.hid hz2
    have Z3 := Lib.hid hz3
    have E0 := Lib.hid e0
    have E1 := Lib.hid e1
    have E2 := Lib.hid e2
    have E3 := Lib.hid e3
    clear hz0 hz1 hz2 hz3 e0 e1 e2 e3 hz hL ho
    generalize shL o 0 = l0 at *
    generalize shL o 1 = l1 at *
    generalize shL o 2 = l2 at *
    generalize shL o 3 = l3 at *
    obtain ⟨s, hs2⟩ : ∃ s, wShape o = s := ⟨_, rfl⟩
    rw [hs2] at hs hne
    have HS := Lib.hid hs2
    have HS1 := Lib.hid hs
    have i0 := fieldsAt0 l0 l1 l2 l3
    have i1 := fieldsAt1 l0 l1 l2 l3
    have i2 := fieldsAt2 l0 l1 l2 l3
    have i3 := fieldsAt3 l0 l1 l2 l3
    clear hs hs2
    generalize hfv : fieldsV l0 l1 l2 l3 = fv at *
    rcases hcase with ⟨k0, rfl⟩ | ⟨rfl, k1, rfl⟩ | ⟨rfl, rfl, k2, rfl⟩ | ⟨rfl, rfl, rfl, k3, rfl⟩ | ⟨rfl, rfl, rfl, rfl, rfl⟩
    · have k0' : (z != 0) = true := by simpa using k0
      clear k0
      go_enter Tryz.func95, Tryz.ntmps95
      go_wp2_with (first
          | (go_at_call 91; ((with_reducible refine (shape_S o s _ (HL.out.below (HI.out _).below HL.out.lt) HS.out).mono ?_); rintro e w1 ⟨rfl, hq⟩); have hI := (HI.out _).keep hq)
          | (go_at_call 92; ((with_reducible refine (codeFields_is x0 x1 x2 x3 s l0 l1 l2 l3 _ HS1.out E0.out E1.out E2.out E3.out).mono ?_); rintro e w2 ⟨rfl, hq⟩); have hI := hI.keep hq)
          | (go_at_call 128; ((with_reducible refine (codeCheck_is 122 w.heap.size 1 l0 d _ _ callF1 (codeField1_is _) (hI.alloc _).c1 (hI.alloc _).lt Z0.out).mono ?_); rintro e w3 ⟨rfl, hq⟩); have hI := (hI.alloc _).keep hq)
          | (go_at_call 128; ((with_reducible refine (codeCheck_is 123 w.heap.size 2 l1 a _ _ callF2 (codeField2_is _) (hI.alloc _).c2 (hI.alloc _).lt Z1.out).mono ?_); rintro e w4 ⟨rfl, hq⟩); have hI := (hI.alloc _).keep hq)
          | (go_at_call 128; ((with_reducible refine (codeCheck_is 124 w.heap.size 3 l2 b _ _ callF3 (codeField3_is _) (hI.alloc _).c3 (hI.alloc _).lt Z2.out).mono ?_); rintro e w5 ⟨rfl, hq⟩); have hI := (hI.alloc _).keep hq)
          | (go_at_call 128; ((with_reducible refine (codeCheck_is 125 w.heap.size 4 l3 n _ _ callF4 (codeField4_is _) (hI.alloc _).c4 (hI.alloc _).lt Z3.out).mono ?_); rintro e w6 ⟨rfl, hq⟩); have hI := (hI.alloc _).keep hq))
      refine wp_loop_rounds 5 ?_
      rw [rounds_succ]
      go_wp2_with (first
          | (go_at_call 91; ((with_reducible refine (shape_S o s _ (HL.out.below (HI.out _).below HL.out.lt) HS.out).mono ?_); rintro e w1 ⟨rfl, hq⟩); have hI := (HI.out _).keep hq)
          | (go_at_call 92; ((with_reducible refine (codeFields_is x0 x1 x2 x3 s l0 l1 l2 l3 _ HS1.out E0.out E1.out E2.out E3.out).mono ?_); rintro e w2 ⟨rfl, hq⟩); have hI := hI.keep hq)
          | (go_at_call 128; ((with_reducible refine (codeCheck_is 122 w.heap.size 1 l0 d _ _ callF1 (codeField1_is _) (hI.alloc _).c1 (hI.alloc _).lt Z0.out).mono ?_); rintro e w3 ⟨rfl, hq⟩); have hI := (hI.alloc _).keep hq)
          | (go_at_call 128; ((with_reducible refine (codeCheck_is 123 w.heap.size 2 l1 a _ _ callF2 (codeField2_is _) (hI.alloc _).c2 (hI.alloc _).lt Z1.out).mono ?_); rintro e w4 ⟨rfl, hq⟩); have hI := (hI.alloc _).keep hq)
          | (go_at_call 128; ((with_reducible refine (codeCheck_is 124 w.heap.size 3 l2 b _ _ callF3 (codeField3_is _) (hI.alloc _).c3 (hI.alloc _).lt Z2.out).mono ?_); rintro e w5 ⟨rfl, hq⟩); have hI := (hI.alloc _).keep hq)
          | (go_at_call 128; ((with_reducible refine (codeCheck_is 125 w.heap.size 4 l3 n _ _ callF4 (codeField4_is _) (hI.alloc _).c4 (hI.alloc _).lt Z3.out).mono ?_); rintro e w6 ⟨rfl, hq⟩); have hI := (hI.alloc _).keep hq))
      go_ret
      exact ⟨rfl, hI.below⟩
    · have k0' : (z != 0) = true := by simpa using k1
      clear k1
      go_enter Tryz.func95, Tryz.ntmps95
      go_wp2_with (first
          | (go_at_call 91; ((with_reducible refine (shape_S o s _ (HL.out.below (HI.out _).below HL.out.lt) HS.out).mono ?_); rintro e w1 ⟨rfl, hq⟩); have hI := (HI.out _).keep hq)
          | (go_at_call 92; ((with_reducible refine (codeFields_is x0 x1 x2 x3 s l0 l1 l2 l3 _ HS1.out E0.out E1.out E2.out E3.out).mono ?_); rintro e w2 ⟨rfl, hq⟩); have hI := hI.keep hq)
          | (go_at_call 128; ((with_reducible refine (codeCheck_is 122 w.heap.size 1 l0 d _ _ callF1 (codeField1_is _) (hI.alloc _).c1 (hI.alloc _).lt Z0.out).mono ?_); rintro e w3 ⟨rfl, hq⟩); have hI := (hI.alloc _).keep hq)
          | (go_at_call 128; ((with_reducible refine (codeCheck_is 123 w.heap.size 2 l1 a _ _ callF2 (codeField2_is _) (hI.alloc _).c2 (hI.alloc _).lt Z1.out).mono ?_); rintro e w4 ⟨rfl, hq⟩); have hI := (hI.alloc _).keep hq)
          | (go_at_call 128; ((with_reducible refine (codeCheck_is 124 w.heap.size 3 l2 b _ _ callF3 (codeField3_is _) (hI.alloc _).c3 (hI.alloc _).lt Z2.out).mono ?_); rintro e w5 ⟨rfl, hq⟩); have hI := (hI.alloc _).keep hq)
          | (go_at_call 128; ((with_reducible refine (codeCheck_is 125 w.heap.size 4 l3 n _ _ callF4 (codeField4_is _) (hI.alloc _).c4 (hI.alloc _).lt Z3.out).mono ?_); rintro e w6 ⟨rfl, hq⟩); have hI := (hI.alloc _).keep hq))
      refine wp_loop_rounds 5 ?_
      rw [rounds_succ]
      go_wp2_with (first
          | (go_at_call 91; ((with_reducible refine (shape_S o s _ (HL.out.below (HI.out _).below HL.out.lt) HS.out).mono ?_); rintro e w1 ⟨rfl, hq⟩); have hI := (HI.out _).keep hq)
          | (go_at_call 92; ((with_reducible refine (codeFields_is x0 x1 x2 x3 s l0 l1 l2 l3 _ HS1.out E0.out E1.out E2.out E3.out).mono ?_); rintro e w2 ⟨rfl, hq⟩); have hI := hI.keep hq)
          | (go_at_call 128; ((with_reducible refine (codeCheck_is 122 w.heap.size 1 l0 d _ _ callF1 (codeField1_is _) (hI.alloc _).c1 (hI.alloc _).lt Z0.out).mono ?_); rintro e w3 ⟨rfl, hq⟩); have hI := (hI.alloc _).keep hq)
          | (go_at_call 128; ((with_reducible refine (codeCheck_is 123 w.heap.size 2 l1 a _ _ callF2 (codeField2_is _) (hI.alloc _).c2 (hI.alloc _).lt Z1.out).mono ?_); rintro e w4 ⟨rfl, hq⟩); have hI := (hI.alloc _).keep hq)
          | (go_at_call 128; ((with_reducible refine (codeCheck_is 124 w.heap.size 3 l2 b _ _ callF3 (codeField3_is _) (hI.alloc _).c3 (hI.alloc _).lt Z2.out).mono ?_); rintro e w5 ⟨rfl, hq⟩); have hI := (hI.alloc _).keep hq)
          | (go_at_call 128; ((with_reducible refine (codeCheck_is 125 w.heap.size 4 l3 n _ _ callF4 (codeField4_is _) (hI.alloc _).c4 (hI.alloc _).lt Z3.out).mono ?_); rintro e w6 ⟨rfl, hq⟩); have hI := (hI.alloc _).keep hq))
      rw [rounds_succ]
      go_wp2_with (first
          | (go_at_call 91; ((with_reducible refine (shape_S o s _ (HL.out.below (HI.out _).below HL.out.lt) HS.out).mono ?_); rintro e w1 ⟨rfl, hq⟩); have hI := (HI.out _).keep hq)
          | (go_at_call 92; ((with_reducible refine (codeFields_is x0 x1 x2 x3 s l0 l1 l2 l3 _ HS1.out E0.out E1.out E2.out E3.out).mono ?_); rintro e w2 ⟨rfl, hq⟩); have hI := hI.keep hq)
          | (go_at_call 128; ((with_reducible refine (codeCheck_is 122 w.heap.size 1 l0 d _ _ callF1 (codeField1_is _) (hI.alloc _).c1 (hI.alloc _).lt Z0.out).mono ?_); rintro e w3 ⟨rfl, hq⟩); have hI := (hI.alloc _).keep hq)
          | (go_at_call 128; ((with_reducible refine (codeCheck_is 123 w.heap.size 2 l1 a _ _ callF2 (codeField2_is _) (hI.alloc _).c2 (hI.alloc _).lt Z1.out).mono ?_); rintro e w4 ⟨rfl, hq⟩); have hI := (hI.alloc _).keep hq)
          | (go_at_call 128; ((with_reducible refine (codeCheck_is 124 w.heap.size 3 l2 b _ _ callF3 (codeField3_is _) (hI.alloc _).c3 (hI.alloc _).lt Z2.out).mono ?_); rintro e w5 ⟨rfl, hq⟩); have hI := (hI.alloc _).keep hq)
          | (go_at_call 128; ((with_reducible refine (codeCheck_is 125 w.heap.size 4 l3 n _ _ callF4 (codeField4_is _) (hI.alloc _).c4 (hI.alloc _).lt Z3.out).mono ?_); rintro e w6 ⟨rfl, hq⟩); have hI := (hI.alloc _).keep hq))
      go_ret
      exact ⟨rfl, hI.below⟩
    · have k0' : (z != 0) = true := by simpa using k2
      clear k2
      go_enter Tryz.func95, Tryz.ntmps95
      go_wp2_with (first
          | (go_at_call 91; ((with_reducible refine (shape_S o s _ (HL.out.below (HI.out _).below HL.out.lt) HS.out).mono ?_); rintro e w1 ⟨rfl, hq⟩); have hI := (HI.out _).keep hq)
          | (go_at_call 92; ((with_reducible refine (codeFields_is x0 x1 x2 x3 s l0 l1 l2 l3 _ HS1.out E0.out E1.out E2.out E3.out).mono ?_); rintro e w2 ⟨rfl, hq⟩); have hI := hI.keep hq)
          | (go_at_call 128; ((with_reducible refine (codeCheck_is 122 w.heap.size 1 l0 d _ _ callF1 (codeField1_is _) (hI.alloc _).c1 (hI.alloc _).lt Z0.out).mono ?_); rintro e w3 ⟨rfl, hq⟩); have hI := (hI.alloc _).keep hq)
          | (go_at_call 128; ((with_reducible refine (codeCheck_is 123 w.heap.size 2 l1 a _ _ callF2 (codeField2_is _) (hI.alloc _).c2 (hI.alloc _).lt Z1.out).mono ?_); rintro e w4 ⟨rfl, hq⟩); have hI := (hI.alloc _).keep hq)
          | (go_at_call 128; ((with_reducible refine (codeCheck_is 124 w.heap.size 3 l2 b _ _ callF3 (codeField3_is _) (hI.alloc _).c3 (hI.alloc _).lt Z2.out).mono ?_); rintro e w5 ⟨rfl, hq⟩); have hI := (hI.alloc _).keep hq)
          | (go_at_call 128; ((with_reducible refine (codeCheck_is 125 w.heap.size 4 l3 n _ _ callF4 (codeField4_is _) (hI.alloc _).c4 (hI.alloc _).lt Z3.out).mono ?_); rintro e w6 ⟨rfl, hq⟩); have hI := (hI.alloc _).keep hq))
      refine wp_loop_rounds 5 ?_
      rw [rounds_succ]
      go_wp2_with (first
          | (go_at_call 91; ((with_reducible refine (shape_S o s _ (HL.out.below (HI.out _).below HL.out.lt) HS.out).mono ?_); rintro e w1 ⟨rfl, hq⟩); have hI := (HI.out _).keep hq)
          | (go_at_call 92; ((with_reducible refine (codeFields_is x0 x1 x2 x3 s l0 l1 l2 l3 _ HS1.out E0.out E1.out E2.out E3.out).mono ?_); rintro e w2 ⟨rfl, hq⟩); have hI := hI.keep hq)
          | (go_at_call 128; ((with_reducible refine (codeCheck_is 122 w.heap.size 1 l0 d _ _ callF1 (codeField1_is _) (hI.alloc _).c1 (hI.alloc _).lt Z0.out).mono ?_); rintro e w3 ⟨rfl, hq⟩); have hI := (hI.alloc _).keep hq)
          | (go_at_call 128; ((with_reducible refine (codeCheck_is 123 w.heap.size 2 l1 a _ _ callF2 (codeField2_is _) (hI.alloc _).c2 (hI.alloc _).lt Z1.out).mono ?_); rintro e w4 ⟨rfl, hq⟩); have hI := (hI.alloc _).keep hq)
          | (go_at_call 128; ((with_reducible refine (codeCheck_is 124 w.heap.size 3 l2 b _ _ callF3 (codeField3_is _) (hI.alloc _).c3 (hI.alloc _).lt Z2.out).mono ?_); rintro e w5 ⟨rfl, hq⟩); have hI := (hI.alloc _).keep hq)
          | (go_at_call 128; ((with_reducible refine (codeCheck_is 125 w.heap.size 4 l3 n _ _ callF4 (codeField4_is _) (hI.alloc _).c4 (hI.alloc _).lt Z3.out).mono ?_); rintro e w6 ⟨rfl, hq⟩); have hI := (hI.alloc _).keep hq))
      rw [rounds_succ]
      go_wp2_with (first
          | (go_at_call 91; ((with_reducible refine (shape_S o s _ (HL.out.below (HI.out _).below HL.out.lt) HS.out).mono ?_); rintro e w1 ⟨rfl, hq⟩); have hI := (HI.out _).keep hq)
          | (go_at_call 92; ((with_reducible refine (codeFields_is x0 x1 x2 x3 s l0 l1 l2 l3 _ HS1.out E0.out E1.out E2.out E3.out).mono ?_); rintro e w2 ⟨rfl, hq⟩); have hI := hI.keep hq)
          | (go_at_call 128; ((with_reducible refine (codeCheck_is 122 w.heap.size 1 l0 d _ _ callF1 (codeField1_is _) (hI.alloc _).c1 (hI.alloc _).lt Z0.out).mono ?_); rintro e w3 ⟨rfl, hq⟩); have hI := (hI.alloc _).keep hq)
          | (go_at_call 128; ((with_reducible refine (codeCheck_is 123 w.heap.size 2 l1 a _ _ callF2 (codeField2_is _) (hI.alloc _).c2 (hI.alloc _).lt Z1.out).mono ?_); rintro e w4 ⟨rfl, hq⟩); have hI := (hI.alloc _).keep hq)
          | (go_at_call 128; ((with_reducible refine (codeCheck_is 124 w.heap.size 3 l2 b _ _ callF3 (codeField3_is _) (hI.alloc _).c3 (hI.alloc _).lt Z2.out).mono ?_); rintro e w5 ⟨rfl, hq⟩); have hI := (hI.alloc _).keep hq)
          | (go_at_call 128; ((with_reducible refine (codeCheck_is 125 w.heap.size 4 l3 n _ _ callF4 (codeField4_is _) (hI.alloc _).c4 (hI.alloc _).lt Z3.out).mono ?_); rintro e w6 ⟨rfl, hq⟩); have hI := (hI.alloc _).keep hq))
      rw [rounds_succ]
      go_wp2_with (first
          | (go_at_call 91; ((with_reducible refine (shape_S o s _ (HL.out.below (HI.out _).below HL.out.lt) HS.out).mono ?_); rintro e w1 ⟨rfl, hq⟩); have hI := (HI.out _).keep hq)
          | (go_at_call 92; ((with_reducible refine (codeFields_is x0 x1 x2 x3 s l0 l1 l2 l3 _ HS1.out E0.out E1.out E2.out E3.out).mono ?_); rintro e w2 ⟨rfl, hq⟩); have hI := hI.keep hq)
          | (go_at_call 128; ((with_reducible refine (codeCheck_is 122 w.heap.size 1 l0 d _ _ callF1 (codeField1_is _) (hI.alloc _).c1 (hI.alloc _).lt Z0.out).mono ?_); rintro e w3 ⟨rfl, hq⟩); have hI := (hI.alloc _).keep hq)
          | (go_at_call 128; ((with_reducible refine (codeCheck_is 123 w.heap.size 2 l1 a _ _ callF2 (codeField2_is _) (hI.alloc _).c2 (hI.alloc _).lt Z1.out).mono ?_); rintro e w4 ⟨rfl, hq⟩); have hI := (hI.alloc _).keep hq)
          | (go_at_call 128; ((with_reducible refine (codeCheck_is 124 w.heap.size 3 l2 b _ _ callF3 (codeField3_is _) (hI.alloc _).c3 (hI.alloc _).lt Z2.out).mono ?_); rintro e w5 ⟨rfl, hq⟩); have hI := (hI.alloc _).keep hq)
          | (go_at_call 128; ((with_reducible refine (codeCheck_is 125 w.heap.size 4 l3 n _ _ callF4 (codeField4_is _) (hI.alloc _).c4 (hI.alloc _).lt Z3.out).mono ?_); rintro e w6 ⟨rfl, hq⟩); have hI := (hI.alloc _).keep hq))
      go_ret
      exact ⟨rfl, hI.below⟩
    · have k0' : (z != 0) = true := by simpa using k3
      clear k3
      go_enter Tryz.func95, Tryz.ntmps95
      go_wp2_with (first
          | (go_at_call 91; ((with_reducible refine (shape_S o s _ (HL.out.below (HI.out _).below HL.out.lt) HS.out).mono ?_); rintro e w1 ⟨rfl, hq⟩); have hI := (HI.out _).keep hq)
          | (go_at_call 92; ((with_reducible refine (codeFields_is x0 x1 x2 x3 s l0 l1 l2 l3 _ HS1.out E0.out E1.out E2.out E3.out).mono ?_); rintro e w2 ⟨rfl, hq⟩); have hI := hI.keep hq)
          | (go_at_call 128; ((with_reducible refine (codeCheck_is 122 w.heap.size 1 l0 d _ _ callF1 (codeField1_is _) (hI.alloc _).c1 (hI.alloc _).lt Z0.out).mono ?_); rintro e w3 ⟨rfl, hq⟩); have hI := (hI.alloc _).keep hq)
          | (go_at_call 128; ((with_reducible refine (codeCheck_is 123 w.heap.size 2 l1 a _ _ callF2 (codeField2_is _) (hI.alloc _).c2 (hI.alloc _).lt Z1.out).mono ?_); rintro e w4 ⟨rfl, hq⟩); have hI := (hI.alloc _).keep hq)
          | (go_at_call 128; ((with_reducible refine (codeCheck_is 124 w.heap.size 3 l2 b _ _ callF3 (codeField3_is _) (hI.alloc _).c3 (hI.alloc _).lt Z2.out).mono ?_); rintro e w5 ⟨rfl, hq⟩); have hI := (hI.alloc _).keep hq)
          | (go_at_call 128; ((with_reducible refine (codeCheck_is 125 w.heap.size 4 l3 n _ _ callF4 (codeField4_is _) (hI.alloc _).c4 (hI.alloc _).lt Z3.out).mono ?_); rintro e w6 ⟨rfl, hq⟩); have hI := (hI.alloc _).keep hq))
      refine wp_loop_rounds 5 ?_
      rw [rounds_succ]
      go_wp2_with (first
          | (go_at_call 91; ((with_reducible refine (shape_S o s _ (HL.out.below (HI.out _).below HL.out.lt) HS.out).mono ?_); rintro e w1 ⟨rfl, hq⟩); have hI := (HI.out _).keep hq)
          | (go_at_call 92; ((with_reducible refine (codeFields_is x0 x1 x2 x3 s l0 l1 l2 l3 _ HS1.out E0.out E1.out E2.out E3.out).mono ?_); rintro e w2 ⟨rfl, hq⟩); have hI := hI.keep hq)
          | (go_at_call 128; ((with_reducible refine (codeCheck_is 122 w.heap.size 1 l0 d _ _ callF1 (codeField1_is _) (hI.alloc _).c1 (hI.alloc _).lt Z0.out).mono ?_); rintro e w3 ⟨rfl, hq⟩); have hI := (hI.alloc _).keep hq)
          | (go_at_call 128; ((with_reducible refine (codeCheck_is 123 w.heap.size 2 l1 a _ _ callF2 (codeField2_is _) (hI.alloc _).c2 (hI.alloc _).lt Z1.out).mono ?_); rintro e w4 ⟨rfl, hq⟩); have hI := (hI.alloc _).keep hq)
          | (go_at_call 128; ((with_reducible refine (codeCheck_is 124 w.heap.size 3 l2 b _ _ callF3 (codeField3_is _) (hI.alloc _).c3 (hI.alloc _).lt Z2.out).mono ?_); rintro e w5 ⟨rfl, hq⟩); have hI := (hI.alloc _).keep hq)
          | (go_at_call 128; ((with_reducible refine (codeCheck_is 125 w.heap.size 4 l3 n _ _ callF4 (codeField4_is _) (hI.alloc _).c4 (hI.alloc _).lt Z3.out).mono ?_); rintro e w6 ⟨rfl, hq⟩); have hI := (hI.alloc _).keep hq))
      rw [rounds_succ]
      go_wp2_with (first
          | (go_at_call 91; ((with_reducible refine (shape_S o s _ (HL.out.below (HI.out _).below HL.out.lt) HS.out).mono ?_); rintro e w1 ⟨rfl, hq⟩); have hI := (HI.out _).keep hq)
          | (go_at_call 92; ((with_reducible refine (codeFields_is x0 x1 x2 x3 s l0 l1 l2 l3 _ HS1.out E0.out E1.out E2.out E3.out).mono ?_); rintro e w2 ⟨rfl, hq⟩); have hI := hI.keep hq)
          | (go_at_call 128; ((with_reducible refine (codeCheck_is 122 w.heap.size 1 l0 d _ _ callF1 (codeField1_is _) (hI.alloc _).c1 (hI.alloc _).lt Z0.out).mono ?_); rintro e w3 ⟨rfl, hq⟩); have hI := (hI.alloc _).keep hq)
          | (go_at_call 128; ((with_reducible refine (codeCheck_is 123 w.heap.size 2 l1 a _ _ callF2 (codeField2_is _) (hI.alloc _).c2 (hI.alloc _).lt Z1.out).mono ?_); rintro e w4 ⟨rfl, hq⟩); have hI := (hI.alloc _).keep hq)
          | (go_at_call 128; ((with_reducible refine (codeCheck_is 124 w.heap.size 3 l2 b _ _ callF3 (codeField3_is _) (hI.alloc _).c3 (hI.alloc _).lt Z2.out).mono ?_); rintro e w5 ⟨rfl, hq⟩); have hI := (hI.alloc _).keep hq)
          | (go_at_call 128; ((with_reducible refine (codeCheck_is 125 w.heap.size 4 l3 n _ _ callF4 (codeField4_is _) (hI.alloc _).c4 (hI.alloc _).lt Z3.out).mono ?_); rintro e w6 ⟨rfl, hq⟩); have hI := (hI.alloc _).keep hq))
      rw [rounds_succ]
      go_wp2_with (first
          | (go_at_call 91; ((with_reducible refine (shape_S o s _ (HL.out.below (HI.out _).below HL.out.lt) HS.out).mono ?_); rintro e w1 ⟨rfl, hq⟩); have hI := (HI.out _).keep hq)
          | (go_at_call 92; ((with_reducible refine (codeFields_is x0 x1 x2 x3 s l0 l1 l2 l3 _ HS1.out E0.out E1.out E2.out E3.out).mono ?_); rintro e w2 ⟨rfl, hq⟩); have hI := hI.keep hq)
          | (go_at_call 128; ((with_reducible refine (codeCheck_is 122 w.heap.size 1 l0 d _ _ callF1 (codeField1_is _) (hI.alloc _).c1 (hI.alloc _).lt Z0.out).mono ?_); rintro e w3 ⟨rfl, hq⟩); have hI := (hI.alloc _).keep hq)
          | (go_at_call 128; ((with_reducible refine (codeCheck_is 123 w.heap.size 2 l1 a _ _ callF2 (codeField2_is _) (hI.alloc _).c2 (hI.alloc _).lt Z1.out).mono ?_); rintro e w4 ⟨rfl, hq⟩); have hI := (hI.alloc _).keep hq)
          | (go_at_call 128; ((with_reducible refine (codeCheck_is 124 w.heap.size 3 l2 b _ _ callF3 (codeField3_is _) (hI.alloc _).c3 (hI.alloc _).lt Z2.out).mono ?_); rintro e w5 ⟨rfl, hq⟩); have hI := (hI.alloc _).keep hq)
          | (go_at_call 128; ((with_reducible refine (codeCheck_is 125 w.heap.size 4 l3 n _ _ callF4 (codeField4_is _) (hI.alloc _).c4 (hI.alloc _).lt Z3.out).mono ?_); rintro e w6 ⟨rfl, hq⟩); have hI := (hI.alloc _).keep hq))
      rw [rounds_succ]
      go_wp2_with (first
          | (go_at_call 91; ((with_reducible refine (shape_S o s _ (HL.out.below (HI.out _).below HL.out.lt) HS.out).mono ?_); rintro e w1 ⟨rfl, hq⟩); have hI := (HI.out _).keep hq)
          | (go_at_call 92; ((with_reducible refine (codeFields_is x0 x1 x2 x3 s l0 l1 l2 l3 _ HS1.out E0.out E1.out E2.out E3.out).mono ?_); rintro e w2 ⟨rfl, hq⟩); have hI := hI.keep hq)
          | (go_at_call 128; ((with_reducible refine (codeCheck_is 122 w.heap.size 1 l0 d _ _ callF1 (codeField1_is _) (hI.alloc _).c1 (hI.alloc _).lt Z0.out).mono ?_); rintro e w3 ⟨rfl, hq⟩); have hI := (hI.alloc _).keep hq)
          | (go_at_call 128; ((with_reducible refine (codeCheck_is 123 w.heap.size 2 l1 a _ _ callF2 (codeField2_is _) (hI.alloc _).c2 (hI.alloc _).lt Z1.out).mono ?_); rintro e w4 ⟨rfl, hq⟩); have hI := (hI.alloc _).keep hq)
          | (go_at_call 128; ((with_reducible refine (codeCheck_is 124 w.heap.size 3 l2 b _ _ callF3 (codeField3_is _) (hI.alloc _).c3 (hI.alloc _).lt Z2.out).mono ?_); rintro e w5 ⟨rfl, hq⟩); have hI := (hI.alloc _).keep hq)
          | (go_at_call 128; ((with_reducible refine (codeCheck_is 125 w.heap.size 4 l3 n _ _ callF4 (codeField4_is _) (hI.alloc _).c4 (hI.alloc _).lt Z3.out).mono ?_); rintro e w6 ⟨rfl, hq⟩); have hI := (hI.alloc _).keep hq))
      go_ret
      exact ⟨rfl, hI.below⟩
    · skip
      go_enter Tryz.func95, Tryz.ntmps95
      go_wp2_with (first
          | (go_at_call 91; ((with_reducible refine (shape_S o s _ (HL.out.below (HI.out _).below HL.out.lt) HS.out).mono ?_); rintro e w1 ⟨rfl, hq⟩); have hI := (HI.out _).keep hq)
          | (go_at_call 92; ((with_reducible refine (codeFields_is x0 x1 x2 x3 s l0 l1 l2 l3 _ HS1.out E0.out E1.out E2.out E3.out).mono ?_); rintro e w2 ⟨rfl, hq⟩); have hI := hI.keep hq)
          | (go_at_call 128; ((with_reducible refine (codeCheck_is 122 w.heap.size 1 l0 d _ _ callF1 (codeField1_is _) (hI.alloc _).c1 (hI.alloc _).lt Z0.out).mono ?_); rintro e w3 ⟨rfl, hq⟩); have hI := (hI.alloc _).keep hq)
          | (go_at_call 128; ((with_reducible refine (codeCheck_is 123 w.heap.size 2 l1 a _ _ callF2 (codeField2_is _) (hI.alloc _).c2 (hI.alloc _).lt Z1.out).mono ?_); rintro e w4 ⟨rfl, hq⟩); have hI := (hI.alloc _).keep hq)
          | (go_at_call 128; ((with_reducible refine (codeCheck_is 124 w.heap.size 3 l2 b _ _ callF3 (codeField3_is _) (hI.alloc _).c3 (hI.alloc _).lt Z2.out).mono ?_); rintro e w5 ⟨rfl, hq⟩); have hI := (hI.alloc _).keep hq)
          | (go_at_call 128; ((with_reducible refine (codeCheck_is 125 w.heap.size 4 l3 n _ _ callF4 (codeField4_is _) (hI.alloc _).c4 (hI.alloc _).lt Z3.out).mono ?_); rintro e w6 ⟨rfl, hq⟩); have hI := (hI.alloc _).keep hq))
      refine wp_loop_rounds 5 ?_
      rw [rounds_succ]
      go_wp2_with (first
          | (go_at_call 91; ((with_reducible refine (shape_S o s _ (HL.out.below (HI.out _).below HL.out.lt) HS.out).mono ?_); rintro e w1 ⟨rfl, hq⟩); have hI := (HI.out _).keep hq)
          | (go_at_call 92; ((with_reducible refine (codeFields_is x0 x1 x2 x3 s l0 l1 l2 l3 _ HS1.out E0.out E1.out E2.out E3.out).mono ?_); rintro e w2 ⟨rfl, hq⟩); have hI := hI.keep hq)
          | (go_at_call 128; ((with_reducible refine (codeCheck_is 122 w.heap.size 1 l0 d _ _ callF1 (codeField1_is _) (hI.alloc _).c1 (hI.alloc _).lt Z0.out).mono ?_); rintro e w3 ⟨rfl, hq⟩); have hI := (hI.alloc _).keep hq)
          | (go_at_call 128; ((with_reducible refine (codeCheck_is 123 w.heap.size 2 l1 a _ _ callF2 (codeField2_is _) (hI.alloc _).c2 (hI.alloc _).lt Z1.out).mono ?_); rintro e w4 ⟨rfl, hq⟩); have hI := (hI.alloc _).keep hq)
          | (go_at_call 128; ((with_reducible refine (codeCheck_is 124 w.heap.size 3 l2 b _ _ callF3 (codeField3_is _) (hI.alloc _).c3 (hI.alloc _).lt Z2.out).mono ?_); rintro e w5 ⟨rfl, hq⟩); have hI := (hI.alloc _).keep hq)
          | (go_at_call 128; ((with_reducible refine (codeCheck_is 125 w.heap.size 4 l3 n _ _ callF4 (codeField4_is _) (hI.alloc _).c4 (hI.alloc _).lt Z3.out).mono ?_); rintro e w6 ⟨rfl, hq⟩); have hI := (hI.alloc _).keep hq))
      rw [rounds_succ]
      go_wp2_with (first
          | (go_at_call 91; ((with_reducible refine (shape_S o s _ (HL.out.below (HI.out _).below HL.out.lt) HS.out).mono ?_); rintro e w1 ⟨rfl, hq⟩); have hI := (HI.out _).keep hq)
          | (go_at_call 92; ((with_reducible refine (codeFields_is x0 x1 x2 x3 s l0 l1 l2 l3 _ HS1.out E0.out E1.out E2.out E3.out).mono ?_); rintro e w2 ⟨rfl, hq⟩); have hI := hI.keep hq)
          | (go_at_call 128; ((with_reducible refine (codeCheck_is 122 w.heap.size 1 l0 d _ _ callF1 (codeField1_is _) (hI.alloc _).c1 (hI.alloc _).lt Z0.out).mono ?_); rintro e w3 ⟨rfl, hq⟩); have hI := (hI.alloc _).keep hq)
          | (go_at_call 128; ((with_reducible refine (codeCheck_is 123 w.heap.size 2 l1 a _ _ callF2 (codeField2_is _) (hI.alloc _).c2 (hI.alloc _).lt Z1.out).mono ?_); rintro e w4 ⟨rfl, hq⟩); have hI := (hI.alloc _).keep hq)
          | (go_at_call 128; ((with_reducible refine (codeCheck_is 124 w.heap.size 3 l2 b _ _ callF3 (codeField3_is _) (hI.alloc _).c3 (hI.alloc _).lt Z2.out).mono ?_); rintro e w5 ⟨rfl, hq⟩); have hI := (hI.alloc _).keep hq)
          | (go_at_call 128; ((with_reducible refine (codeCheck_is 125 w.heap.size 4 l3 n _ _ callF4 (codeField4_is _) (hI.alloc _).c4 (hI.alloc _).lt Z3.out).mono ?_); rintro e w6 ⟨rfl, hq⟩); have hI := (hI.alloc _).keep hq))
      rw [rounds_succ]
      go_wp2_with (first
          | (go_at_call 91; ((with_reducible refine (shape_S o s _ (HL.out.below (HI.out _).below HL.out.lt) HS.out).mono ?_); rintro e w1 ⟨rfl, hq⟩); have hI := (HI.out _).keep hq)
          | (go_at_call 92; ((with_reducible refine (codeFields_is x0 x1 x2 x3 s l0 l1 l2 l3 _ HS1.out E0.out E1.out E2.out E3.out).mono ?_); rintro e w2 ⟨rfl, hq⟩); have hI := hI.keep hq)
          | (go_at_call 128; ((with_reducible refine (codeCheck_is 122 w.heap.size 1 l0 d _ _ callF1 (codeField1_is _) (hI.alloc _).c1 (hI.alloc _).lt Z0.out).mono ?_); rintro e w3 ⟨rfl, hq⟩); have hI := (hI.alloc _).keep hq)
          | (go_at_call 128; ((with_reducible refine (codeCheck_is 123 w.heap.size 2 l1 a _ _ callF2 (codeField2_is _) (hI.alloc _).c2 (hI.alloc _).lt Z1.out).mono ?_); rintro e w4 ⟨rfl, hq⟩); have hI := (hI.alloc _).keep hq)
          | (go_at_call 128; ((with_reducible refine (codeCheck_is 124 w.heap.size 3 l2 b _ _ callF3 (codeField3_is _) (hI.alloc _).c3 (hI.alloc _).lt Z2.out).mono ?_); rintro e w5 ⟨rfl, hq⟩); have hI := (hI.alloc _).keep hq)
          | (go_at_call 128; ((with_reducible refine (codeCheck_is 125 w.heap.size 4 l3 n _ _ callF4 (codeField4_is _) (hI.alloc _).c4 (hI.alloc _).lt Z3.out).mono ?_); rintro e w6 ⟨rfl, hq⟩); have hI := (hI.alloc _).keep hq))
      rw [rounds_succ]
      go_wp2_with (first
          | (go_at_call 91; ((with_reducible refine (shape_S o s _ (HL.out.below (HI.out _).below HL.out.lt) HS.out).mono ?_); rintro e w1 ⟨rfl, hq⟩); have hI := (HI.out _).keep hq)
          | (go_at_call 92; ((with_reducible refine (codeFields_is x0 x1 x2 x3 s l0 l1 l2 l3 _ HS1.out E0.out E1.out E2.out E3.out).mono ?_); rintro e w2 ⟨rfl, hq⟩); have hI := hI.keep hq)
          | (go_at_call 128; ((with_reducible refine (codeCheck_is 122 w.heap.size 1 l0 d _ _ callF1 (codeField1_is _) (hI.alloc _).c1 (hI.alloc _).lt Z0.out).mono ?_); rintro e w3 ⟨rfl, hq⟩); have hI := (hI.alloc _).keep hq)
          | (go_at_call 128; ((with_reducible refine (codeCheck_is 123 w.heap.size 2 l1 a _ _ callF2 (codeField2_is _) (hI.alloc _).c2 (hI.alloc _).lt Z1.out).mono ?_); rintro e w4 ⟨rfl, hq⟩); have hI := (hI.alloc _).keep hq)
          | (go_at_call 128; ((with_reducible refine (codeCheck_is 124 w.heap.size 3 l2 b _ _ callF3 (codeField3_is _) (hI.alloc _).c3 (hI.alloc _).lt Z2.out).mono ?_); rintro e w5 ⟨rfl, hq⟩); have hI := (hI.alloc _).keep hq)
          | (go_at_call 128; ((with_reducible refine (codeCheck_is 125 w.heap.size 4 l3 n _ _ callF4 (codeField4_is _) (hI.alloc _).c4 (hI.alloc _).lt Z3.out).mono ?_); rintro e w6 ⟨rfl, hq⟩); have hI := (hI.alloc _).keep hq))
      rw [rounds_succ]
      go_wp2_with (first
          | (go_at_call 91; ((with_reducible refine (shape_S o s _ (HL.out.below (HI.out _).below HL.out.lt) HS.out).mono ?_); rintro e w1 ⟨rfl, hq⟩); have hI := (HI.out _).keep hq)
          | (go_at_call 92; ((with_reducible refine (codeFields_is x0 x1 x2 x3 s l0 l1 l2 l3 _ HS1.out E0.out E1.out E2.out E3.out).mono ?_); rintro e w2 ⟨rfl, hq⟩); have hI := hI.keep hq)
          | (go_at_call 128; ((with_reducible refine (codeCheck_is 122 w.heap.size 1 l0 d _ _ callF1 (codeField1_is _) (hI.alloc _).c1 (hI.alloc _).lt Z0.out).mono ?_); rintro e w3 ⟨rfl, hq⟩); have hI := (hI.alloc _).keep hq)
          | (go_at_call 128; ((with_reducible refine (codeCheck_is 123 w.heap.size 2 l1 a _ _ callF2 (codeField2_is _) (hI.alloc _).c2 (hI.alloc _).lt Z1.out).mono ?_); rintro e w4 ⟨rfl, hq⟩); have hI := (hI.alloc _).keep hq)
          | (go_at_call 128; ((with_reducible refine (codeCheck_is 124 w.heap.size 3 l2 b _ _ callF3 (codeField3_is _) (hI.alloc _).c3 (hI.alloc _).lt Z2.out).mono ?_); rintro e w5 ⟨rfl, hq⟩); have hI := (hI.alloc _).keep hq)
          | (go_at_call 128; ((with_reducible refine (codeCheck_is 125 w.heap.size 4 l3 n _ _ callF4 (codeField4_is _) (hI.alloc _).c4 (hI.alloc _).lt Z3.out).mono ?_); rintro e w6 ⟨rfl, hq⟩); have hI := (hI.alloc _).keep hq))
      go_ret
      exact ⟨rfl, hI.below⟩
  · rw [chk_no ho] at hz
    subst hz
    have hs := Lib.hid (wShape_no ho)
    clear hL
    go_enter Tryz.func95, Tryz.ntmps95
    go_wp2_with (go_at_call 91; ((with_reducible refine (shape_S o _ _ (HL.out.below (HI.out _).below HL.out.lt) hs.out).mono ?_); rintro e w1 ⟨rfl, hq⟩))
    go_ret
    exact ⟨rfl, ((HI.out _).keep hq).below⟩
/-- Fields are or-ed upon one another. -/
theorem or_step {A B C : Int} (i : Nat) (hi : i ≤ 32) (hA : A % 2 ^ i = 0) (a0 : 0 ≤ A) (b0 : 0 ≤ B) (hB : B < 2 ^ i) (hC : A + B = C) (hc : C < 4294967296) : bits .or .u32 A B = C := by
  subst hC
  rw [bits_or_add .u32 i hi A B hA b0 hB, u32_wrap]
  have e : A % 2 ^ IntKind.u32.bits = A := Int.emod_eq_of_lt a0 (by show A < 4294967296; omega)
  rw [e]
  have : ((A.toNat + B.toNat : Nat) : Int) = A + B := by omega
  rw [this]
  exact Int.emod_eq_of_lt (by omega) hc
set_option maxHeartbeats 4000000 in
theorem codeEncode_is (o d a b n v z : Int) (w : World) (hL : ShapesLaid w) (hz : cChk o d a b n = z) (hv : cEnc o d a b n = v) :
    Calls Tryz.prog 81 #[.agg #[.int .i64 o, .int .i64 d, .int .i64 a, .int .i64 b, .int .i64 n]] w fun e w' => e = .returned (.tuple #[.int .u32 v, .int .i64 z]) ∧ Below w.heap.size w w' := by
  have HI := Lib.hid (fun T => InsW.new w w o d a b n T (Below.refl _ _) (Nat.le_refl _))
  have HL := Lib.hid hL
  unfold cEnc at hv
  rw [hz] at hv
  by_cases h0 : z = 0
  · subst h0
    rw [if_pos rfl] at hv
    have ho := chk_op hz
    obtain ⟨x0, x1, x2, x3, hs, e0, e1, e2, e3, -⟩ := shaped ho
    obtain ⟨b1, b2, b3, b4, b5, b6, b7, b8, b9, b10, b11, -, b13, b14⟩ := bits_sum ho d a b n
    unfold cWord at hv b13 b14
    obtain ⟨z0, hz0⟩ : ∃ z0, fBits (shL o 0) d = z0 := ⟨_, rfl⟩
    obtain ⟨z1, hz1⟩ : ∃ z1, fBits (shL o 1) a = z1 := ⟨_, rfl⟩
    obtain ⟨z2, hz2⟩ : ∃ z2, fBits (shL o 2) b = z2 := ⟨_, rfl⟩
    obtain ⟨z3, hz3⟩ : ∃ z3, fBits (shL o 3) n = z3 := ⟨_, rfl⟩
    rw [hz0] at b1 b2 b3 b6 b13 b14 hv
    rw [hz1] at b4 b5 b6 b13 b14 hv
    rw [hz2] at b7 b8 b11 b13 b14 hv
    rw [hz3] at b9 b10 b11 b13 b14 hv
    obtain ⟨A1, hA1⟩ : ∃ A1, o * 67108864 + z0 = A1 := ⟨_, rfl⟩
    obtain ⟨A2, hA2⟩ : ∃ A2, A1 + z1 = A2 := ⟨_, rfl⟩
    obtain ⟨A3, hA3⟩ : ∃ A3, A2 + z2 = A3 := ⟨_, rfl⟩
    rw [hA1] at b3
    unfold isOp at ho
    have O1 : bits .or .u32 (o * 67108864) z0 = A1 := or_step 26 (by decide) (by simp) (by omega) b1 b2 hA1 (by omega)
    have O2 : bits .or .u32 A1 z1 = A2 := or_step 21 (by decide) b3 (by omega) b4 b5 hA2 (by omega)
    have O3 : bits .or .u32 A2 z2 = A3 := or_step 16 (by decide) (by omega) (by omega) b7 b8 hA3 (by omega)
    have O4 : bits .or .u32 A3 z3 = v := by
      rcases b11 with h | h
      · exact or_step 16 (by decide) (by omega) (by omega) b9 b10 (by omega) (by omega)
      · subst h
        exact or_step 0 (by decide) (by omega) (by omega) b9 (by decide) (by omega) (by omega)
    have Z0 := Lib.hid hz0
    have Z1 := Lib.hid hz1
    have Z2 := Lib.hid hz2
    have Z3 := Lib.hid hz3
    have E0 := Lib.hid e0
    have E1 := Lib.hid e1
    have E2 := Lib.hid e2
    have E3 := Lib.hid e3
    have HZ := Lib.hid hz
    obtain ⟨o1, o2⟩ := ho
    clear hz0 hz1 hz2 hz3 e0 e1 e2 e3 hz hL b1 b2 b3 b4 b5 b6 b7 b8 b9 b10 b11 b13 b14 hA1 hA2 hA3 hv
    generalize shL o 0 = l0 at *
    generalize shL o 1 = l1 at *
    generalize shL o 2 = l2 at *
    generalize shL o 3 = l3 at *
    obtain ⟨s, hs2⟩ : ∃ s, wShape o = s := ⟨_, rfl⟩
    rw [hs2] at hs
    have HS := Lib.hid hs2
    have HS1 := Lib.hid hs
    have i0 := fieldsAt0 l0 l1 l2 l3
    have i1 := fieldsAt1 l0 l1 l2 l3
    have i2 := fieldsAt2 l0 l1 l2 l3
    have i3 := fieldsAt3 l0 l1 l2 l3
    clear hs hs2
    generalize hfv : fieldsV l0 l1 l2 l3 = fv at *
    go_enter Tryz.func81, Tryz.ntmps81
    go_wp2_with (first
      | (go_at_call 95; ((with_reducible refine (codeCheckI_is o d a b n 0 _ (HL.out.below (HI.out _).below HL.out.lt) HZ.out).mono ?_); rintro e w0 ⟨rfl, hq⟩); have hI := (HI.out _).keep hq; have c0 := hI.c0)
      | (go_at_call 91; ((with_reducible refine (shape_S o s _ (HL.out.below hI.below HL.out.lt) HS.out).mono ?_); rintro e w1 ⟨rfl, hq⟩); have hI := hI.keep hq)
      | (go_at_call 92; ((with_reducible refine (codeFields_is x0 x1 x2 x3 s l0 l1 l2 l3 _ HS1.out E0.out E1.out E2.out E3.out).mono ?_); rintro e w2 ⟨rfl, hq⟩); have hI := hI.keep hq)
      | (go_at_call 94; ((with_reducible refine (codeBits_is 122 w.heap.size 1 l0 d _ _ callF1 (codeField1_is _) (hI.alloc _).c1 (hI.alloc _).lt Z0.out).mono ?_); rintro e w3 ⟨rfl, hq⟩); have hI := (hI.alloc _).keep hq)
      | (go_at_call 94; ((with_reducible refine (codeBits_is 123 w.heap.size 2 l1 a _ _ callF2 (codeField2_is _) (hI.alloc _).c2 (hI.alloc _).lt Z1.out).mono ?_); rintro e w4 ⟨rfl, hq⟩); have hI := (hI.alloc _).keep hq)
      | (go_at_call 94; ((with_reducible refine (codeBits_is 124 w.heap.size 3 l2 b _ _ callF3 (codeField3_is _) (hI.alloc _).c3 (hI.alloc _).lt Z2.out).mono ?_); rintro e w5 ⟨rfl, hq⟩); have hI := (hI.alloc _).keep hq)
      | (go_at_call 94; ((with_reducible refine (codeBits_is 125 w.heap.size 4 l3 n _ _ callF4 (codeField4_is _) (hI.alloc _).c4 (hI.alloc _).lt Z3.out).mono ?_); rintro e w6 ⟨rfl, hq⟩); have hI := (hI.alloc _).keep hq))
    refine wp_loop_rounds 5 ?_
    rw [rounds_succ]
    go_wp2_with (first
      | (go_at_call 95; ((with_reducible refine (codeCheckI_is o d a b n 0 _ (HL.out.below (HI.out _).below HL.out.lt) HZ.out).mono ?_); rintro e w0 ⟨rfl, hq⟩); have hI := (HI.out _).keep hq; have c0 := hI.c0)
      | (go_at_call 91; ((with_reducible refine (shape_S o s _ (HL.out.below hI.below HL.out.lt) HS.out).mono ?_); rintro e w1 ⟨rfl, hq⟩); have hI := hI.keep hq)
      | (go_at_call 92; ((with_reducible refine (codeFields_is x0 x1 x2 x3 s l0 l1 l2 l3 _ HS1.out E0.out E1.out E2.out E3.out).mono ?_); rintro e w2 ⟨rfl, hq⟩); have hI := hI.keep hq)
      | (go_at_call 94; ((with_reducible refine (codeBits_is 122 w.heap.size 1 l0 d _ _ callF1 (codeField1_is _) (hI.alloc _).c1 (hI.alloc _).lt Z0.out).mono ?_); rintro e w3 ⟨rfl, hq⟩); have hI := (hI.alloc _).keep hq)
      | (go_at_call 94; ((with_reducible refine (codeBits_is 123 w.heap.size 2 l1 a _ _ callF2 (codeField2_is _) (hI.alloc _).c2 (hI.alloc _).lt Z1.out).mono ?_); rintro e w4 ⟨rfl, hq⟩); have hI := (hI.alloc _).keep hq)
      | (go_at_call 94; ((with_reducible refine (codeBits_is 124 w.heap.size 3 l2 b _ _ callF3 (codeField3_is _) (hI.alloc _).c3 (hI.alloc _).lt Z2.out).mono ?_); rintro e w5 ⟨rfl, hq⟩); have hI := (hI.alloc _).keep hq)
      | (go_at_call 94; ((with_reducible refine (codeBits_is 125 w.heap.size 4 l3 n _ _ callF4 (codeField4_is _) (hI.alloc _).c4 (hI.alloc _).lt Z3.out).mono ?_); rintro e w6 ⟨rfl, hq⟩); have hI := (hI.alloc _).keep hq))
    rw [rounds_succ]
    go_wp2_with (first
      | (go_at_call 95; ((with_reducible refine (codeCheckI_is o d a b n 0 _ (HL.out.below (HI.out _).below HL.out.lt) HZ.out).mono ?_); rintro e w0 ⟨rfl, hq⟩); have hI := (HI.out _).keep hq; have c0 := hI.c0)
      | (go_at_call 91; ((with_reducible refine (shape_S o s _ (HL.out.below hI.below HL.out.lt) HS.out).mono ?_); rintro e w1 ⟨rfl, hq⟩); have hI := hI.keep hq)
      | (go_at_call 92; ((with_reducible refine (codeFields_is x0 x1 x2 x3 s l0 l1 l2 l3 _ HS1.out E0.out E1.out E2.out E3.out).mono ?_); rintro e w2 ⟨rfl, hq⟩); have hI := hI.keep hq)
      | (go_at_call 94; ((with_reducible refine (codeBits_is 122 w.heap.size 1 l0 d _ _ callF1 (codeField1_is _) (hI.alloc _).c1 (hI.alloc _).lt Z0.out).mono ?_); rintro e w3 ⟨rfl, hq⟩); have hI := (hI.alloc _).keep hq)
      | (go_at_call 94; ((with_reducible refine (codeBits_is 123 w.heap.size 2 l1 a _ _ callF2 (codeField2_is _) (hI.alloc _).c2 (hI.alloc _).lt Z1.out).mono ?_); rintro e w4 ⟨rfl, hq⟩); have hI := (hI.alloc _).keep hq)
      | (go_at_call 94; ((with_reducible refine (codeBits_is 124 w.heap.size 3 l2 b _ _ callF3 (codeField3_is _) (hI.alloc _).c3 (hI.alloc _).lt Z2.out).mono ?_); rintro e w5 ⟨rfl, hq⟩); have hI := (hI.alloc _).keep hq)
      | (go_at_call 94; ((with_reducible refine (codeBits_is 125 w.heap.size 4 l3 n _ _ callF4 (codeField4_is _) (hI.alloc _).c4 (hI.alloc _).lt Z3.out).mono ?_); rintro e w6 ⟨rfl, hq⟩); have hI := (hI.alloc _).keep hq))
    rw [rounds_succ]
    go_wp2_with (first
      | (go_at_call 95; ((with_reducible refine (codeCheckI_is o d a b n 0 _ (HL.out.below (HI.out _).below HL.out.lt) HZ.out).mono ?_); rintro e w0 ⟨rfl, hq⟩); have hI := (HI.out _).keep hq; have c0 := hI.c0)
      | (go_at_call 91; ((with_reducible refine (shape_S o s _ (HL.out.below hI.below HL.out.lt) HS.out).mono ?_); rintro e w1 ⟨rfl, hq⟩); have hI := hI.keep hq)
      | (go_at_call 92; ((with_reducible refine (codeFields_is x0 x1 x2 x3 s l0 l1 l2 l3 _ HS1.out E0.out E1.out E2.out E3.out).mono ?_); rintro e w2 ⟨rfl, hq⟩); have hI := hI.keep hq)
      | (go_at_call 94; ((with_reducible refine (codeBits_is 122 w.heap.size 1 l0 d _ _ callF1 (codeField1_is _) (hI.alloc _).c1 (hI.alloc _).lt Z0.out).mono ?_); rintro e w3 ⟨rfl, hq⟩); have hI := (hI.alloc _).keep hq)
      | (go_at_call 94; ((with_reducible refine (codeBits_is 123 w.heap.size 2 l1 a _ _ callF2 (codeField2_is _) (hI.alloc _).c2 (hI.alloc _).lt Z1.out).mono ?_); rintro e w4 ⟨rfl, hq⟩); have hI := (hI.alloc _).keep hq)
      | (go_at_call 94; ((with_reducible refine (codeBits_is 124 w.heap.size 3 l2 b _ _ callF3 (codeField3_is _) (hI.alloc _).c3 (hI.alloc _).lt Z2.out).mono ?_); rintro e w5 ⟨rfl, hq⟩); have hI := (hI.alloc _).keep hq)
      | (go_at_call 94; ((with_reducible refine (codeBits_is 125 w.heap.size 4 l3 n _ _ callF4 (codeField4_is _) (hI.alloc _).c4 (hI.alloc _).lt Z3.out).mono ?_); rintro e w6 ⟨rfl, hq⟩); have hI := (hI.alloc _).keep hq))
    rw [rounds_succ]
    go_wp2_with (first
      | (go_at_call 95; ((with_reducible refine (codeCheckI_is o d a b n 0 _ (HL.out.below (HI.out _).below HL.out.lt) HZ.out).mono ?_); rintro e w0 ⟨rfl, hq⟩); have hI := (HI.out _).keep hq; have c0 := hI.c0)
      | (go_at_call 91; ((with_reducible refine (shape_S o s _ (HL.out.below hI.below HL.out.lt) HS.out).mono ?_); rintro e w1 ⟨rfl, hq⟩); have hI := hI.keep hq)
      | (go_at_call 92; ((with_reducible refine (codeFields_is x0 x1 x2 x3 s l0 l1 l2 l3 _ HS1.out E0.out E1.out E2.out E3.out).mono ?_); rintro e w2 ⟨rfl, hq⟩); have hI := hI.keep hq)
      | (go_at_call 94; ((with_reducible refine (codeBits_is 122 w.heap.size 1 l0 d _ _ callF1 (codeField1_is _) (hI.alloc _).c1 (hI.alloc _).lt Z0.out).mono ?_); rintro e w3 ⟨rfl, hq⟩); have hI := (hI.alloc _).keep hq)
      | (go_at_call 94; ((with_reducible refine (codeBits_is 123 w.heap.size 2 l1 a _ _ callF2 (codeField2_is _) (hI.alloc _).c2 (hI.alloc _).lt Z1.out).mono ?_); rintro e w4 ⟨rfl, hq⟩); have hI := (hI.alloc _).keep hq)
      | (go_at_call 94; ((with_reducible refine (codeBits_is 124 w.heap.size 3 l2 b _ _ callF3 (codeField3_is _) (hI.alloc _).c3 (hI.alloc _).lt Z2.out).mono ?_); rintro e w5 ⟨rfl, hq⟩); have hI := (hI.alloc _).keep hq)
      | (go_at_call 94; ((with_reducible refine (codeBits_is 125 w.heap.size 4 l3 n _ _ callF4 (codeField4_is _) (hI.alloc _).c4 (hI.alloc _).lt Z3.out).mono ?_); rintro e w6 ⟨rfl, hq⟩); have hI := (hI.alloc _).keep hq))
    rw [rounds_succ]
    go_wp2_with (first
      | (go_at_call 95; ((with_reducible refine (codeCheckI_is o d a b n 0 _ (HL.out.below (HI.out _).below HL.out.lt) HZ.out).mono ?_); rintro e w0 ⟨rfl, hq⟩); have hI := (HI.out _).keep hq; have c0 := hI.c0)
      | (go_at_call 91; ((with_reducible refine (shape_S o s _ (HL.out.below hI.below HL.out.lt) HS.out).mono ?_); rintro e w1 ⟨rfl, hq⟩); have hI := hI.keep hq)
      | (go_at_call 92; ((with_reducible refine (codeFields_is x0 x1 x2 x3 s l0 l1 l2 l3 _ HS1.out E0.out E1.out E2.out E3.out).mono ?_); rintro e w2 ⟨rfl, hq⟩); have hI := hI.keep hq)
      | (go_at_call 94; ((with_reducible refine (codeBits_is 122 w.heap.size 1 l0 d _ _ callF1 (codeField1_is _) (hI.alloc _).c1 (hI.alloc _).lt Z0.out).mono ?_); rintro e w3 ⟨rfl, hq⟩); have hI := (hI.alloc _).keep hq)
      | (go_at_call 94; ((with_reducible refine (codeBits_is 123 w.heap.size 2 l1 a _ _ callF2 (codeField2_is _) (hI.alloc _).c2 (hI.alloc _).lt Z1.out).mono ?_); rintro e w4 ⟨rfl, hq⟩); have hI := (hI.alloc _).keep hq)
      | (go_at_call 94; ((with_reducible refine (codeBits_is 124 w.heap.size 3 l2 b _ _ callF3 (codeField3_is _) (hI.alloc _).c3 (hI.alloc _).lt Z2.out).mono ?_); rintro e w5 ⟨rfl, hq⟩); have hI := (hI.alloc _).keep hq)
      | (go_at_call 94; ((with_reducible refine (codeBits_is 125 w.heap.size 4 l3 n _ _ callF4 (codeField4_is _) (hI.alloc _).c4 (hI.alloc _).lt Z3.out).mono ?_); rintro e w6 ⟨rfl, hq⟩); have hI := (hI.alloc _).keep hq))
    go_ret2
    exact ⟨rfl, hI.below⟩
  · rw [if_neg h0] at hv
    subst hv
    have HZ := Lib.hid hz
    have k0 : (z != 0) = true := by simpa using h0
    clear hL hz h0
    go_enter Tryz.func81, Tryz.ntmps81
    go_wp2_with (go_at_call 95; ((with_reducible refine (codeCheckI_is o d a b n z _ (HL.out.below (HI.out _).below HL.out.lt) HZ.out).mono ?_); rintro e w0 ⟨rfl, hq⟩); have hI := (HI.out _).keep hq)
    go_ret2
    exact ⟨rfl, hI.below⟩
end Go.Proofs.YtekhgidbnpfmnaaGreatDoor
