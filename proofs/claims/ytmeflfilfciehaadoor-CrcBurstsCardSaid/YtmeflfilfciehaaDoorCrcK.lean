/- Package crc within a law: the page's example, and calls that keep what lay there. Condition: the package's table lies as the program's text has it. -/
import Derived.Test.YtmeflfilfciehaaDoorCrcA
import Derived.Test.YtmeflfilfciehaaDoorCrcR
import Derived.Lib.SlBytesConst
namespace Go.Proofs.YtmeflfilfciehaaDoor
open Go.RowKit

def nine : List Int := [49, 50, 51, 52, 53, 54, 55, 56, 57]
theorem nine_bd : Bd8 nine := by unfold Bd8; decide
theorem nine_bd2 : Bd8 (nine ++ [41, 177]) := by unfold Bd8; decide
theorem open_nine : openOf (nine ++ [41, 177]) = (nine, 0) := by decide +kernel
theorem of_nine : wOn 65535 nine = 10673 := by decide +kernel

/-- What is opened, in a caller's words. -/
theorem crcOpen_to {a : Option Addr} {n c : Nat} {l m : List Int} {k : Int} {w : World} (h : openOf l = (m, k)) (hB : By w a n c l) (hL : FoursLaid w) (hn : n ≤ 140737488355000) (hm : Bd8 m) :
    Calls Tryd.prog 8 #[.slice a n c] w fun e w' => ∃ a' c', e = .returned (.tuple #[.slice a' m.length c', .int .i64 k]) ∧ By w' a' m.length c' m ∧ Below w.heap.size w w' := by
  refine (crcOpen_is a n c l w hB hL hn).mono ?_
  rintro e w' ⟨v, rfl, ho, hb⟩
  rw [h] at ho ⊢
  obtain ⟨a', c', rfl, hB'⟩ := ho.by hm
  exact ⟨a', c', rfl, hB', hb⟩
theorem refCrcOpen_to {a : Option Addr} {n c : Nat} {l m : List Int} {k : Int} {w : World} (h : openOf l = (m, k)) (hB : By w a n c l) (hn : n ≤ 140737488355000) (hm : Bd8 m) :
    Calls Tryd.prog 9 #[.slice a n c] w fun e w' => ∃ a' c', e = .returned (.tuple #[.slice a' m.length c', .int .i64 k]) ∧ By w' a' m.length c' m ∧ Below w.heap.size w w' := by
  refine (refCrcOpen_is a n c l w hB hn).mono ?_
  rintro e w' ⟨v, rfl, ho, hb⟩
  rw [h] at ho ⊢
  obtain ⟨a', c', rfl, hB'⟩ := ho.by hm
  exact ⟨a', c', rfl, hB', hb⟩
theorem crcOf_to {a : Option Addr} {n c : Nat} {l : List Int} {s : Int} {w : World} (h : wOn 65535 l = s) (hB : By w a n c l) (hL : FoursLaid w) :
    Calls Tryd.prog 12 #[.slice a n c] w fun e w' => e = .returned (.int .i32 s) ∧ Below w.heap.size w w' := h ▸ crcOf_is a n c l w hB hL
theorem crcSeal_to {a : Option Addr} {n c : Nat} {l : List Int} {w : World} (hB : By w a n c l) (hL : FoursLaid w) (hn : n ≤ 140737488355000) :
    Calls Tryd.prog 14 #[.slice a n c] w fun e w' => ∃ a' c', e = .returned (.slice a' (sealOf l).length c') ∧ By w' a' (sealOf l).length c' (sealOf l) ∧ Below w.heap.size w w' := by
  refine (crcSeal_is a n c l w hB hL hn).mono ?_
  rintro e w' ⟨v, rfl, ho, hb⟩
  obtain ⟨a', c', rfl, hB'⟩ := ho.by (sealOf_bd hB.bd)
  exact ⟨a', c', rfl, hB', hb⟩
theorem str_run {w : World} {a : Option Addr} {n c : Nat} {l : List Int} (h : By w a n c l) : (convert 22 9 (.slice a n c)).run Tryd.prog w = .ok (.string (strOfNums l)) w :=
  h.str 22 5 9 Tryd.underlying22 Tryd.underlying5 Tryd.underlying9

/-- A call that makes bytes, within a region: what was there since W stays. -/
theorem own_at {f : FuncId} {args : Array Value} {W w' : World} {l : List Int} (hc : Calls Tryd.prog f args w' fun e w'' => RetOwn w' 5 l e w'') (hl : Bd8 l) (hS : Below W.heap.size W w') :
    Calls Tryd.prog f args w' fun e w'' => ∃ a2 n2 c2, e = .returned (.slice a2 n2 c2) ∧ By w'' a2 n2 c2 l ∧ Below w'.heap.size w' w'' ∧ Below W.heap.size W w'' := by
  refine hc.mono ?_
  rintro e w2 ⟨v2, rfl, ho2, hb1⟩
  obtain ⟨a2, c2, rfl, hB2⟩ := ho2.by hl
  exact ⟨a2, _, c2, rfl, hB2, hb1, hS.trans (hb1.mono hS.size)⟩
theorem below_at {f : FuncId} {args : Array Value} {W w' : World} {v : Value} (hc : Calls Tryd.prog f args w' fun e w'' => e = .returned v ∧ Below w'.heap.size w' w'') (hS : Below W.heap.size W w') :
    Calls Tryd.prog f args w' fun e w'' => e = .returned v ∧ Below W.heap.size W w'' :=
  hc.mono fun _ _ ⟨he, h⟩ => ⟨he, hS.trans (h.mono hS.size)⟩
theorem quiet_at {f : FuncId} {args : Array Value} {W w' : World} {v : Value} (hc : Calls Tryd.prog f args w' fun e w'' => e = .returned v ∧ w' = w'') (hS : Below W.heap.size W w') :
    Calls Tryd.prog f args w' fun e w'' => e = .returned v ∧ Below W.heap.size W w'' :=
  hc.mono fun _ _ ⟨he, h⟩ => ⟨he, h ▸ hS⟩

set_option maxHeartbeats 1000000 in
theorem crcAwake_is (w : World) (hL : FoursLaid w) :
    Calls Tryd.prog 7 #[] w fun e w' => e = .returned (.bool true) ∧ Below w.heap.size w w' := by
  have kc := fun (w : World) (C : Array Value) (n c : Nat) => Lib.run_convert_bytes_const (P := Tryd.prog) w 22 5 C n c Tryd.underlying22 Tryd.underlying5
  have HL := Lib.hid hL
  have e1 : (wOn 65535 nine == 10673) = true := by rw [of_nine]; rfl
  have e2 : ((strOfNums nine).toList == [49, 50, 51, 52, 53, 54, 55, 56, 57]) = true := str_const8 (by decide)
  have e3 : (wOn 65535 [] == 65535) = true := rfl
  have H1 := Lib.hid (By.lit w 5 (n := 11) (l := nine ++ [41, 177]) rfl (by unfold maxLen; omega) nine_bd2 (cs := #[.int .u8 49, .int .u8 50, .int .u8 51, .int .u8 52, .int .u8 53, .int .u8 54, .int .u8 55, .int .u8 56, .int .u8 57, .int .u8 41, .int .u8 177]) rfl)
  have H2 := Lib.hid (fun w : World => By.litm w 5 (9, 10) (n := 9) (l := nine) rfl (by unfold maxLen; omega) nine_bd (cs := #[.int .u8 49, .int .u8 50, .int .u8 51, .int .u8 52, .int .u8 53, .int .u8 54, .int .u8 55, .int .u8 56, .int .u8 57]) rfl)
  clear hL
  go_enter Tryd.func7, Tryd.ntmps7
  go_wp2_with (first
    | (go_at_call 8; (with_reducible refine (crcOpen_to open_nine H1.out (HL.out.below ((Below.refl _ _).alloc (Nat.le_refl _) _) HL.out.lt) (by omega) nine_bd).mono ?_); rintro e w1 ⟨a1, c1, rfl, hB1, hb1⟩; have hb := ((Below.refl w.heap.size w).alloc (Nat.le_refl _) _).trans (hb1.mono (by simp)); have HB1 := Lib.hid hB1; clear hb1 hB1)
    | (go_at_call 12; (with_reducible refine (crcOf_is _ _ _ _ _ (H2.out _) (HL.out.below (hb.alloc hb.size _) HL.out.lt)).mono ?_); rintro e w2 ⟨rfl, hb2⟩; have hb3 := (hb.alloc hb.size _).trans (hb2.mono (by have := hb.size; simp; omega)); have q1 := str_run (HB1.out.keep (((Below.refl _ _).alloc (Nat.le_refl _) _).trans (hb2.mono (by simp))) (Nat.le_refl _)))
    | (go_at_call 12; (with_reducible refine (crcOf_is none 0 0 [] _ (By.emp _) (HL.out.below hb3 HL.out.lt)).mono ?_); rintro e w4 ⟨rfl, hb4⟩))
  go_ret
  exact ⟨rfl, hb3.trans (hb4.mono hb3.size)⟩
end Go.Proofs.YtmeflfilfciehaaDoor
