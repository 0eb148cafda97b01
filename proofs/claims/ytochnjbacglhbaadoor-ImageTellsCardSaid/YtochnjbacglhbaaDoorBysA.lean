/- What bytes.Clone and bytes.Equal answer, of slices of bytes that lie in memory. Conditions: the cells are bytes; what is cloned is no longer than the run-time allows. -/
import Derived.Test.YtochnjbacglhbaaDoorProg
import Derived.Test.YtochnjbacglhbaaDoorMem
import Derived.Handy
import Derived.Lib.Hide
import Derived.Deep.QuietTactic
import Derived.BigQuiet
import Derived.WalkSmall
import Derived.WalkSpells
import Derived.RegionTactic
import Derived.ChangeAlike
import Derived.PlainAid
import Derived.Outline
namespace Go.Proofs.YtochnjbacglhbaaDoor
open Go.RowKit

theorem infoU8 : (Tryd.prog.info? 5).map (fun i => (i.zero, i.size, i.bytes)) = some (some (.int .u8 0), 1, 1) := by kernel_rfl

set_option maxHeartbeats 1000000 in
theorem bytesClone_is (a : Option Addr) (n c : Nat) (l : List Int) (w : World) (hB : By w a n c l) (hn : n ≤ 140737488355328) :
    Calls Tryd.prog 34 #[.slice a n c] w fun e w' => RetOwn w 5 l e w' := by
  obtain ⟨i0, hi, hz0, hz1, hz2⟩ := info_parts infoU8
  have q : ∀ (w : World) (a : Option Addr) (n c n' c' : Nat), (binOp .eql 28 (.slice a n c) (.slice none n' c')).run Tryd.prog w = .ok (.bool a.isNone) w := fun w a n c n' c' => Lib.run_eql_slice_nil w _ _ a n c n' c' Tryd.underlying28
  have HO := Lib.hid (Own.lit w 5 (Nat.le_refl _) [] (by unfold maxLen; simp) #[] rfl)
  have HB := Lib.hid (hB.keep ((Below.refl w.heap.size w).alloc (Nat.le_refl _) (.cells #[] 5)) (Nat.le_refl _))
  cases a with
  | none =>
    obtain ⟨rfl, rfl, rfl⟩ := hB.none_eq
    clear hB
    go_enter Tryd.func34, Tryd.ntmps34
    go_wp2
    go_ret
    exact ⟨_, rfl, Own.nil _ _ _, Below.refl _ _⟩
  | some ad =>
    clear hB
    go_enter Tryd.func34, Tryd.ntmps34
    go_wp2_with (at_builtin; refine wpList_append_by rfl _ _ 28 rfl w.heap.size 5 i0 (.int .u8 0) Tryd.underlying28 hi hz0 hz1 hz2 rfl rfl HO.out rfl HB.out (by simpa using hn) (by simp) ((Below.refl _ _).alloc (Nat.le_refl _) _) ?_; intro v' w1 hown hb1 hs1)
    go_ret
    exact ⟨v', rfl, by simpa using hown, hb1⟩

theorem bytesEqual_is (a a' : Option Addr) (n c n' c' : Nat) (l l' : List Int) (t : Bool) (w : World) (hB : By w a n c l) (hB' : By w a' n' c' l') (ht : decide (l = l') = t) :
    Calls Tryd.prog 41 #[.slice a n c, .slice a' n' c'] w fun e w' => e = .returned (.bool t) ∧ w = w' := by
  have q1 := hB.str (P := Tryd.prog) 28 5 9 Tryd.underlying28 Tryd.underlying5 Tryd.underlying9
  have q2 := hB'.str (P := Tryd.prog) 28 5 9 Tryd.underlying28 Tryd.underlying5 Tryd.underlying9
  have e : ((strOfNums l).toList == (strOfNums l').toList) = t := by
    by_cases h : l = l'
    · rw [str_same8 h, ← ht, decide_eq_true h]
    · rw [str_apart8 hB.bd hB'.bd h, ← ht, decide_eq_false h]
  clear hB hB' ht
  go_enter Tryd.func41, Tryd.ntmps41
  go_wp2
  go_ret
  exact ⟨rfl, rfl⟩

theorem str_run {w : World} {a : Option Addr} {n c : Nat} {l : List Int} (h : By w a n c l) : (convert 28 9 (.slice a n c)).run Tryd.prog w = .ok (.string (strOfNums l)) w :=
  h.str 28 5 9 Tryd.underlying28 Tryd.underlying5 Tryd.underlying9
/-- A call that makes bytes, within a region: what was there since W stays. -/
theorem own_at {f : FuncId} {args : Array Value} {W w' : World} {l : List Int} (hc : Calls Tryd.prog f args w' fun e w'' => RetOwn w' 5 l e w'') (hl : Bd8 l) (hS : Below W.heap.size W w') :
    Calls Tryd.prog f args w' fun e w'' => ∃ a2 n2 c2, e = .returned (.slice a2 n2 c2) ∧ By w'' a2 n2 c2 l ∧ Below w'.heap.size w' w'' ∧ Below W.heap.size W w'' := by
  refine hc.mono ?_
  rintro e w2 ⟨v2, rfl, ho2, hb1⟩
  obtain ⟨a2, c2, rfl, hB2⟩ := ho2.by hl
  exact ⟨a2, _, c2, rfl, hB2, hb1, hS.trans (hb1.mono hS.size)⟩
theorem below_at {f : FuncId} {args : Array Value} {W w' : World} {v : Value} (hc : Calls Tryd.prog f args w' fun e w'' => e = .returned v ∧ Below w'.heap.size w' w'') (hS : Below W.heap.size W w') :
    Calls Tryd.prog f args w' fun e w'' => e = .returned v ∧ Below W.heap.size W w'' :=
  hc.mono fun _ _ ⟨he, h⟩ => ⟨he, hS.trans (h.mono hS.size)⟩
theorem quiet_at {f : FuncId} {args : Array Value} {W w' : World} {v : Value} (hc : Calls Tryd.prog f args w' fun e w'' => e = .returned v ∧ w' = w'') (hS : Below W.heap.size W w') :
    Calls Tryd.prog f args w' fun e w'' => e = .returned v ∧ Below W.heap.size W w'' :=
  hc.mono fun _ _ ⟨he, h⟩ => ⟨he, h ▸ hS⟩
theorem retNone (w : World) (e : TypeId) (k : Int) {w' : World} (hb : Below w.heap.size w w') : RetOwnE w e [] k (.returned (.tuple #[.slice none 0 0, .int .i64 k])) w' := ⟨_, rfl, Own.nil _ _ _, hb⟩

end Go.Proofs.YtochnjbacglhbaaDoor
