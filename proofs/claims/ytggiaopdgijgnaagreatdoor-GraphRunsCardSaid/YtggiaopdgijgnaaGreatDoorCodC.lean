/- What package code's functions answer: Check, Encode, Decode. Condition: the package ops' table of shapes lies as the program's text has it. -/
import Derived.Test.YtggiaopdgijgnaaGreatDoorCodA
namespace Go.Proofs.YtggiaopdgijgnaaGreatDoor
open Go.RowKit

/-- An instruction lies in a block of its own, made since w0. -/
structure InsW (w0 : World) (B : Nat) (o d a b n : Int) (w : World) : Prop where
  c0 : w.cell? ⟨B, 0, none⟩ = some (.int .i64 o)
  c1 : w.cell? ⟨B, 1, none⟩ = some (.int .i64 d)
  c2 : w.cell? ⟨B, 2, none⟩ = some (.int .i64 a)
  c3 : w.cell? ⟨B, 3, none⟩ = some (.int .i64 b)
  c4 : w.cell? ⟨B, 4, none⟩ = some (.int .i64 n)
  f0 : w.frozen? ⟨B, 0, none⟩ = false
  f1 : w.frozen? ⟨B, 1, none⟩ = false
  f2 : w.frozen? ⟨B, 2, none⟩ = false
  f3 : w.frozen? ⟨B, 3, none⟩ = false
  f4 : w.frozen? ⟨B, 4, none⟩ = false
  lt : B < w.heap.size
  ge : w0.heap.size ≤ B
  below : Below w0.heap.size w0 w
theorem InsW.le {w0 w : World} {B : Nat} {o d a b n : Int} (h : InsW w0 B o d a b n w) : w0.heap.size ≤ w.heap.size := Nat.le_of_lt (Nat.lt_of_le_of_lt h.ge h.lt)
theorem InsW.keep {w0 w w' : World} {B : Nat} {o d a b n : Int} (h : InsW w0 B o d a b n w) (k : Below w.heap.size w w') : InsW w0 B o d a b n w' :=
  ⟨(k.cell (p := ⟨B, 0, none⟩) h.lt).trans h.c0, (k.cell (p := ⟨B, 1, none⟩) h.lt).trans h.c1, (k.cell (p := ⟨B, 2, none⟩) h.lt).trans h.c2, (k.cell (p := ⟨B, 3, none⟩) h.lt).trans h.c3, (k.cell (p := ⟨B, 4, none⟩) h.lt).trans h.c4,
    (k.frozen (p := ⟨B, 0, none⟩) h.lt).trans h.f0, (k.frozen (p := ⟨B, 1, none⟩) h.lt).trans h.f1, (k.frozen (p := ⟨B, 2, none⟩) h.lt).trans h.f2, (k.frozen (p := ⟨B, 3, none⟩) h.lt).trans h.f3, (k.frozen (p := ⟨B, 4, none⟩) h.lt).trans h.f4, Nat.lt_of_lt_of_le h.lt k.size, h.ge, h.below.trans (k.mono h.le)⟩
theorem InsW.alloc {w0 w : World} {B : Nat} {o d a b n : Int} (h : InsW w0 B o d a b n w) (x : Obj) : InsW w0 B o d a b n (w.alloc x) := h.keep ((Below.refl _ _).alloc (Nat.le_refl _) x)
theorem InsW.new (w0 w : World) (o d a b n : Int) (T : TypeId) (hb : Below w0.heap.size w0 w) (hs : w0.heap.size ≤ w.heap.size) : InsW w0 w.heap.size o d a b n (w.alloc (.cells #[.int .i64 o, .int .i64 d, .int .i64 a, .int .i64 b, .int .i64 n] T)) :=
  ⟨by go_cell, by go_cell, by go_cell, by go_cell, by go_cell, by go_cell, by go_cell, by go_cell, by go_cell, by go_cell, by simp, hs, hb.alloc hs _⟩
theorem callF1 (args : Array Value) (w : World) : Sem.run Tryz.prog (callFunc 67 args) w = .ok (.enter 67 args) w := by kernel_rfl
theorem callF2 (args : Array Value) (w : World) : Sem.run Tryz.prog (callFunc 68 args) w = .ok (.enter 68 args) w := by kernel_rfl
theorem callF3 (args : Array Value) (w : World) : Sem.run Tryz.prog (callFunc 69 args) w = .ok (.enter 69 args) w := by kernel_rfl
theorem callF4 (args : Array Value) (w : World) : Sem.run Tryz.prog (callFunc 70 args) w = .ok (.enter 70 args) w := by kernel_rfl
theorem fieldsAt0 (l0 l1 l2 l3 : Int) (w : World) : Sem.run Tryz.prog (Instr.index 110 (fieldsV l0 l1 l2 l3) (.int .i64 0)) w = .ok (.agg #[.int .u8 l0, .func (.func 67) #[] #[]]) w := by kernel_rfl
theorem fieldsAt1 (l0 l1 l2 l3 : Int) (w : World) : Sem.run Tryz.prog (Instr.index 110 (fieldsV l0 l1 l2 l3) (.int .i64 1)) w = .ok (.agg #[.int .u8 l1, .func (.func 68) #[] #[]]) w := by kernel_rfl
theorem fieldsAt2 (l0 l1 l2 l3 : Int) (w : World) : Sem.run Tryz.prog (Instr.index 110 (fieldsV l0 l1 l2 l3) (.int .i64 2)) w = .ok (.agg #[.int .u8 l2, .func (.func 69) #[] #[]]) w := by kernel_rfl
theorem fieldsAt3 (l0 l1 l2 l3 : Int) (w : World) : Sem.run Tryz.prog (Instr.index 110 (fieldsV l0 l1 l2 l3) (.int .i64 3)) w = .ok (.agg #[.int .u8 l3, .func (.func 70) #[] #[]]) w := by kernel_rfl
theorem shape_S (n : Int) (s : ByteArray) (w : World) (h : ShapesLaid w) (hs : wShape n = s) :
    Calls Tryz.prog 55 #[.int .i64 n] w fun e w' => e = .returned (.string s) ∧ Below w.heap.size w w' := by
  obtain ⟨t1, h1⟩ := h
  subst hs
  exact shape_is n w h1

/-- Fields are or-ed upon one another. -/
theorem or_step {A B C : Int} (i : Nat) (hi : i ≤ 32) (hA : A % 2 ^ i = 0) (a0 : 0 ≤ A) (b0 : 0 ≤ B) (hB : B < 2 ^ i) (hC : A + B = C) (hc : C < 4294967296) : bits .or .u32 A B = C := by
  subst hC
  rw [bits_or_add .u32 i hi A B hA b0 hB, u32_wrap]
  have e : A % 2 ^ IntKind.u32.bits = A := Int.emod_eq_of_lt a0 (by show A < 4294967296; omega)
  rw [e]
  have : ((A.toNat + B.toNat : Nat) : Int) = A + B := by omega
  rw [this]
  exact Int.emod_eq_of_lt (by omega) hc
end Go.Proofs.YtggiaopdgijgnaaGreatDoor
