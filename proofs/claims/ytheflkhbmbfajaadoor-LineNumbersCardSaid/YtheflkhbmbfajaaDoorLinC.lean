/- Going through an instruction's operands, letter by letter, whatever is done with each. Condition: the package ops' table of shapes lies as the program's text has it. -/
import Derived.Test.YtheflkhbmbfajaaDoorCodC
import Derived.Lib.OthersKept
import Derived.Lib.Hide
import Derived.Test.YtheflkhbmbfajaaDoorLinM
namespace Go.Proofs.YtheflkhbmbfajaaDoor
open Go.RowKit

/-- What one round comes to: on, or to an end. -/
def StepTo (P Q : World → Prop) (w : World) (e : Ending) (w' : World) : Prop :=
  (∀ (k : Nat) (s : ByteArray) (p : Nat), w.heap[k]? = some (Obj.stringIter s p) → w'.heap[k]? = some (Obj.stringIter s p)) ∧ ((e = .returned (.bool true) ∧ P w') ∨ (e = .returned (.bool false) ∧ Q w'))
/-- What all rounds come to. -/
def EndTo (P Q : World → Prop) (e : Ending) (w' : World) : Prop := (e = .returned (.bool true) ∧ P w') ∨ (e = .returned (.bool false) ∧ Q w')
/-- How far the loop over letters is. -/
def LoopAt (J : Nat → World → Prop) (I : Nat) (s : ByteArray) (wr : World) : Prop := ∃ k, k ≤ 4 ∧ wr.heap[I]? = some (.stringIter s k) ∧ J k wr
set_option maxHeartbeats 4000000 in
theorem lineOperands_is (B : Nat) (f g : Value) (o : Int) (x0 x1 x2 x3 : UInt8) (s : ByteArray) (J : Nat → World → Prop) (Q : World → Prop) (w : World) (hs : s = ⟨#[x0, x1, x2, x3]⟩) (hw : wShape o = s) (hx : x0.toNat < 128 ∧ x1.toNat < 128 ∧ x2.toNat < 128 ∧ x3.toNat < 128)
    (ho : w.cell? ⟨B, 0, none⟩ = some (.int .i64 o)) (hL : ShapesLaid w) (hkeep : ∀ w', Below w.heap.size w w' → J 0 w')
    (hiter : ∀ k w' I s p q, w.heap.size ≤ I → J k w' → w'.heap[I]? = some (.stringIter s p) → J k (w'.iterAt I s q))
    (hstep : ∀ k w', k < 4 → J k w' → Calls Tryd.prog 39 #[.pointer (some ⟨B, 0, none⟩), .int .i32 ((#[x0, x1, x2, x3] : Array UInt8).getD k 0).toNat, f, g] w' (StepTo (J (k + 1)) Q w')) :
    Calls Tryd.prog 19 #[.pointer (some ⟨B, 0, none⟩), f, g] w (EndTo (J 4) Q) := by
  have HK := Lib.hid hkeep
  have HI := Lib.hid hiter
  have HS := Lib.hid hstep
  have HL := Lib.hid hL
  have HW := Lib.hid hw
  clear hkeep hiter hstep hw
  go_enter Tryd.func19, Tryd.ntmps19
  go_wp2_with (go_at_call 35; ((with_reducible refine (shape_S o s _ HL.out HW.out).mono ?_); rintro e w1 ⟨rfl, hq⟩); have HQ := Lib.hid hq; clear hq)
  have ht : w1.iter { data := #[x0, x1, x2, x3] } 0 = w1.alloc (.stringIter { data := #[x0, x1, x2, x3] } 0) := rfl
  have hnew : (w1.iter { data := #[x0, x1, x2, x3] } 0).heap[w1.heap.size]? = some (Obj.stringIter { data := #[x0, x1, x2, x3] } 0) := World.iter_heap w1 _ 0
  have hj0 : J 0 (w1.iter { data := #[x0, x1, x2, x3] } 0) := HK.out _ (by rw [ht]; exact HQ.out.alloc HQ.out.size _)
  have H0 := Lib.hid (show LoopAt J w1.heap.size { data := #[x0, x1, x2, x3] } (w1.iter { data := #[x0, x1, x2, x3] } 0) from ⟨0, by omega, hnew, hj0⟩)
  clear ht hnew hj0 hL ho
  obtain ⟨h0, h1, h2, h3⟩ := hx
  go_loopw [8] (fun _ wr => LoopAt J w1.heap.size { data := #[x0, x1, x2, x3] } wr) (fun _ wr => 4 - wr.iterPos w1.heap.size)
  case atStart => exact H0.out
  case round =>
    obtain ⟨k, hk, hit, hj⟩ := hrel
    by_cases hlt : k < 4
    · obtain rfl | rfl | rfl | rfl : k = 0 ∨ k = 1 ∨ k = 2 ∨ k = 3 := by omega
      · have hS : Calls Tryd.prog 39 #[.pointer (some ⟨B, 0, none⟩), .int .i32 x0.toNat, f, g] _ _ := HS.out 0 _ hlt (HI.out _ _ _ _ _ 1 HQ.out.size hj hit)
        have hit' := Lib.iterAt_heap _ _ _ _ 1 hit
        have hnx : ∀ ty, (Instr.next (.pointer (some ⟨w1.heap.size, 0, none⟩)) true ty).run Tryd.prog wr = .ok (.tuple #[.bool true, .int .i64 (0 : Nat), .int .i32 x0.toNat]) _ := fun ty => Lib.run_next_ascii_at wr w1.heap.size ⟨#[x0, x1, x2, x3]⟩ 0 ty hit (by show 0 < 4; omega) h0
        have hpos : wr.iterPos w1.heap.size = 0 := by simp only [World.iterPos, hit]
        obtain ⟨W, hW⟩ : ∃ W, wr.iterAt w1.heap.size ⟨#[x0, x1, x2, x3]⟩ 1 = W := ⟨_, rfl⟩
        rw [hW] at hS hit' hnx
        have HS2 := Lib.hid hS
        have HT := Lib.hid hit'
        have HP := Lib.hid hpos
        clear hS hit' hpos hit hj hW hlt
        go_wp2_with fail
        refine HS2.out.mono ?_
        rintro e w2 ⟨hkp, ⟨rfl, hj2⟩ | ⟨rfl, hq2⟩⟩
        · have HJ := Lib.hid hj2
          have HI2 := Lib.hid (hkp _ _ _ HT.out)
          clear hkp hj2
          go_wp2
          go_roundw
          case rel => exact ⟨1, by omega, HI2.out, HJ.out⟩
          case measure =>
            have e2 : w2.iterPos w1.heap.size = 1 := by have := HI2.out; simp only [World.iterPos, this]
            have e1 := HP.out
            omega
        · have HQ2 := Lib.hid hq2
          clear hkp hq2
          go_wp2
          go_ret
          exact .inr ⟨rfl, HQ2.out⟩
      · have hS : Calls Tryd.prog 39 #[.pointer (some ⟨B, 0, none⟩), .int .i32 x1.toNat, f, g] _ _ := HS.out 1 _ hlt (HI.out _ _ _ _ _ 2 HQ.out.size hj hit)
        have hit' := Lib.iterAt_heap _ _ _ _ 2 hit
        have hnx : ∀ ty, (Instr.next (.pointer (some ⟨w1.heap.size, 0, none⟩)) true ty).run Tryd.prog wr = .ok (.tuple #[.bool true, .int .i64 (1 : Nat), .int .i32 x1.toNat]) _ := fun ty => Lib.run_next_ascii_at wr w1.heap.size ⟨#[x0, x1, x2, x3]⟩ 1 ty hit (by show 1 < 4; omega) h1
        have hpos : wr.iterPos w1.heap.size = 1 := by simp only [World.iterPos, hit]
        obtain ⟨W, hW⟩ : ∃ W, wr.iterAt w1.heap.size ⟨#[x0, x1, x2, x3]⟩ 2 = W := ⟨_, rfl⟩
        rw [hW] at hS hit' hnx
        have HS2 := Lib.hid hS
        have HT := Lib.hid hit'
        have HP := Lib.hid hpos
        clear hS hit' hpos hit hj hW hlt
        go_wp2_with fail
        refine HS2.out.mono ?_
        rintro e w2 ⟨hkp, ⟨rfl, hj2⟩ | ⟨rfl, hq2⟩⟩
        · have HJ := Lib.hid hj2
          have HI2 := Lib.hid (hkp _ _ _ HT.out)
          clear hkp hj2
          go_wp2
          go_roundw
          case rel => exact ⟨2, by omega, HI2.out, HJ.out⟩
          case measure =>
            have e2 : w2.iterPos w1.heap.size = 2 := by have := HI2.out; simp only [World.iterPos, this]
            have e1 := HP.out
            omega
        · have HQ2 := Lib.hid hq2
          clear hkp hq2
          go_wp2
          go_ret
          exact .inr ⟨rfl, HQ2.out⟩
      · have hS : Calls Tryd.prog 39 #[.pointer (some ⟨B, 0, none⟩), .int .i32 x2.toNat, f, g] _ _ := HS.out 2 _ hlt (HI.out _ _ _ _ _ 3 HQ.out.size hj hit)
        have hit' := Lib.iterAt_heap _ _ _ _ 3 hit
        have hnx : ∀ ty, (Instr.next (.pointer (some ⟨w1.heap.size, 0, none⟩)) true ty).run Tryd.prog wr = .ok (.tuple #[.bool true, .int .i64 (2 : Nat), .int .i32 x2.toNat]) _ := fun ty => Lib.run_next_ascii_at wr w1.heap.size ⟨#[x0, x1, x2, x3]⟩ 2 ty hit (by show 2 < 4; omega) h2
        have hpos : wr.iterPos w1.heap.size = 2 := by simp only [World.iterPos, hit]
        obtain ⟨W, hW⟩ : ∃ W, wr.iterAt w1.heap.size ⟨#[x0, x1, x2, x3]⟩ 3 = W := ⟨_, rfl⟩
        rw [hW] at hS hit' hnx
        have HS2 := Lib.hid hS
        have HT := Lib.hid hit'
        have HP := Lib.hid hpos
        clear hS hit' hpos hit hj hW hlt
        go_wp2_with fail
        refine HS2.out.mono ?_
        rintro e w2 ⟨hkp, ⟨rfl, hj2⟩ | ⟨rfl, hq2⟩⟩
        · have HJ := Lib.hid hj2
          have HI2 := Lib.hid (hkp _ _ _ HT.out)
          clear hkp hj2
          go_wp2
          go_roundw
          case rel => exact ⟨3, by omega, HI2.out, HJ.out⟩
          case measure =>
            have e2 : w2.iterPos w1.heap.size = 3 := by have := HI2.out; simp only [World.iterPos, this]
            have e1 := HP.out
            omega
        · have HQ2 := Lib.hid hq2
          clear hkp hq2
          go_wp2
          go_ret
          exact .inr ⟨rfl, HQ2.out⟩
      · have hS : Calls Tryd.prog 39 #[.pointer (some ⟨B, 0, none⟩), .int .i32 x3.toNat, f, g] _ _ := HS.out 3 _ hlt (HI.out _ _ _ _ _ 4 HQ.out.size hj hit)
        have hit' := Lib.iterAt_heap _ _ _ _ 4 hit
        have hnx : ∀ ty, (Instr.next (.pointer (some ⟨w1.heap.size, 0, none⟩)) true ty).run Tryd.prog wr = .ok (.tuple #[.bool true, .int .i64 (3 : Nat), .int .i32 x3.toNat]) _ := fun ty => Lib.run_next_ascii_at wr w1.heap.size ⟨#[x0, x1, x2, x3]⟩ 3 ty hit (by show 3 < 4; omega) h3
        have hpos : wr.iterPos w1.heap.size = 3 := by simp only [World.iterPos, hit]
        obtain ⟨W, hW⟩ : ∃ W, wr.iterAt w1.heap.size ⟨#[x0, x1, x2, x3]⟩ 4 = W := ⟨_, rfl⟩
        rw [hW] at hS hit' hnx
        have HS2 := Lib.hid hS
        have HT := Lib.hid hit'
        have HP := Lib.hid hpos
        clear hS hit' hpos hit hj hW hlt
        go_wp2_with fail
        refine HS2.out.mono ?_
        rintro e w2 ⟨hkp, ⟨rfl, hj2⟩ | ⟨rfl, hq2⟩⟩
        · have HJ := Lib.hid hj2
          have HI2 := Lib.hid (hkp _ _ _ HT.out)
          clear hkp hj2
          go_wp2
          go_roundw
          case rel => exact ⟨4, by omega, HI2.out, HJ.out⟩
          case measure =>
            have e2 : w2.iterPos w1.heap.size = 4 := by have := HI2.out; simp only [World.iterPos, this]
            have e1 := HP.out
            omega
        · have HQ2 := Lib.hid hq2
          clear hkp hq2
          go_wp2
          go_ret
          exact .inr ⟨rfl, HQ2.out⟩
    · obtain rfl : k = 4 := by omega
      have hnx : ∀ ty, (Instr.next (.pointer (some ⟨w1.heap.size, 0, none⟩)) true ty).run Tryd.prog wr = _ := fun ty => Lib.run_next_end_at wr w1.heap.size ⟨#[x0, x1, x2, x3]⟩ 4 ty hit (by show ¬ 4 < 4; omega)
      have HJ := Lib.hid hj
      clear hj hit
      go_wp2
      go_ret
      exact .inl ⟨rfl, HJ.out⟩
end Go.Proofs.YtheflkhbmbfajaaDoor
