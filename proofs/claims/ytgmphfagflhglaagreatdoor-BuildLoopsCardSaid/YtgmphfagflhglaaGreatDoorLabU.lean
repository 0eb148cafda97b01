/- What package label's and plan's texts share: what is a name, as the document says it; blocks apart; a text's copy. Conditions: texts as short as any can be. -/
import Derived.Test.YtgmphfagflhglaaGreatDoorProg
import Derived.Test.YtgmphfagflhglaaGreatDoorLabM
import Derived.Test.YtgmphfagflhglaaGreatDoorShelf
import Derived.IntWalk
import Derived.Handy
import Derived.Deep.QuietTactic
import Derived.BigQuiet
namespace Go.Proofs.YtgmphfagflhglaaGreatDoor
open Go.RowKit Go.IntWalk

theorem info_el {P : Program} {t : TypeId} {z : Value} {s b : Nat} (h : (P.info? t).map (fun i => (i.zero, i.size, i.bytes)) = some (some z, s, b)) : ∃ i, P.info? t = some i ∧ i.zero = some z ∧ i.size = s ∧ i.bytes = b := by
  cases e : P.info? t with
  | none => rw [e] at h; cases h
  | some i => rw [e] at h; simp at h; exact ⟨i, rfl, h.1, h.2.1, h.2.2⟩
/-- What a call of F's owner leaves: F, and what is new. -/
def Wide (F : Nat → Prop) (w w' : World) : Nat → Prop := fun j => F j ∨ w.heap.size ≤ j ∧ j < w'.heap.size
theorem Wide.grows {F : Nat → Prop} {w w' : World} (k : Keeps F w w') : Grows F w (Wide F w w') w' := ⟨k, fun _ h => h.imp id fun q => q.1⟩
theorem one_el {α : Type} [Inhabited α] {K : Kd α} {b : Nat} (w : World) (e : TypeId) (x : α) (cs : Array Value) (hcs : cs.toList = K.enc x) (h : w.heap.size = b) : ElAt K (w.alloc (.cells cs e)) (some ⟨b, 0, none⟩) 1 1 [x] := by
  subst h; exact ElAt.one w e x cs hcs
theorem OwnEl.shape {α : Type} [Inhabited α] {K : Kd α} {w : World} {base : Nat} {e : TypeId} {v : Value} {l : List α} (h : OwnEl K w base e v l) : ∃ a n c, v = .slice a n c := by
  obtain ⟨a, c, e, -⟩ := h.at
  exact ⟨a, _, c, e⟩
theorem blk_ne {w : World} {b b' : Nat} {T T' : TypeId} {cs cs' : Array Value} (h : BlkAt b T cs w) (k : BlkAt b' T' cs' w) (hT : T ≠ T') : b ≠ b' := by
  rintro rfl
  unfold BlkAt at h k
  rw [h] at k
  simp only [Option.some.injEq, Obj.cells.injEq] at k
  exact hT k.2.1
theorem own_blk_ne {α : Type} {K : Kd α} {w : World} {base b : Nat} {e T : TypeId} {v : Value} {l : List α} {cs : Array Value} (h : OwnEl K w base e v l) (hb : BlkAt b T cs w) (hT : T ≠ e) : v.ownBlock ≠ some b := own_off_type h hb hT
theorem infoFix : (Tryz.prog.info? 97).map (fun i => (i.zero, i.size, i.bytes)) = some (some (.agg #[.int .i64 0, .int .i64 0]), 2, 16) := by kernel_rfl
theorem infoStr : (Tryz.prog.info? 9).map (fun i => (i.zero, i.size, i.bytes)) = some (some (.string ⟨#[]⟩), 1, 16) := by kernel_rfl
/-- What Resolve answers. -/
def RetRes (ds us : Df) (w : World) (e : Ending) (w' : World) : Prop := ∃ v, e = .returned (.tuple #[v, .string (resN ds us), .int .i64 (resE ds us)]) ∧ OwnEl fixK w' w.heap.size 97 v (resL ds us) ∧ Below w.heap.size w w'
def fixOf (ds : Df) (u : ByteArray × Int) : Int × Int := (u.2, plV ds u.1)
theorem fixes_snoc (ds us : Df) {k : Nat} (h : k < us.length) : (us.take (k + 1)).map (fixOf ds) = (us.take k).map (fixOf ds) ++ [((el us k).2, plV ds (el us k).1)] := by
  rw [take_el h, List.map_append]; rfl
set_option maxHeartbeats 1000000 in
theorem strClone_is (s : ByteArray) (w : World) (hs : s.size ≤ 281474976710656) :
    Calls Tryz.prog 49 #[.string s] w fun e w' => e = .returned (.string s) ∧ Below w.heap.size w w' := by
  have C := Lib.hid (stringslite_Clone s w hs)
  clear hs
  go_enter Tryz.func49, Tryz.ntmps49
  go_wp2_with (go_at_call 63; ((with_reducible refine (C.out).mono ?_); rintro e w1 ⟨rfl, hb⟩); have HB := Lib.hid hb; clear hb)
  go_ret
  exact ⟨rfl, HB.out⟩
end Go.Proofs.YtgmphfagflhglaaGreatDoor
