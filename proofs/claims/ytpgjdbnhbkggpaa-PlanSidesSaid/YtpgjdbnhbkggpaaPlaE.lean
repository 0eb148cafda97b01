/- Package plan: what Regions, New, Secret answer; the library's Clone of regions, Repeat of a mark. Conditions: as few regions as 1000, as few words as 2048. -/
import Derived.Test.YtpgjdbnhbkggpaaPlaD
import Derived.Test.YtpgjdbnhbkggpaaShelfG
namespace Go.Proofs.Ytpgjdbnhbkggpaa
open Go.RowKit Go.IntWalk

theorem infoRgP : (Try.prog.info? 37).map (fun i => (i.zero, i.size, i.bytes)) = some (some (.agg #[.string ⟨#[]⟩, .int .i64 0, .int .i64 0, .bool false]), 4, 40) := by kernel_rfl
theorem infoBo : (Try.prog.info? 4).map (fun i => (i.zero, i.size, i.bytes)) = some (some (.bool false), 1, 1) := by kernel_rfl
theorem rgsNil (a : Option Addr) (n c n' c' : Nat) (w : World) : Sem.run Try.prog (binOp .eql 29 (.slice a n c) (.slice none n' c')) w = .ok (.bool a.isNone) w := Lib.run_eql_slice_nil w _ _ a n c n' c' Try.underlying29
/-- A list of regions of the call's own is answered. -/
def RetR (w : World) (l : Rgs) (e : Ending) (w' : World) : Prop := ∃ v, e = .returned v ∧ OwnEl rgK w' w.heap.size 37 v l ∧ Below w.heap.size w w'
/-- A list of marks of the call's own is answered. -/
def RetM (w : World) (l : List Bool) (e : Ending) (w' : World) : Prop := ∃ v, e = .returned v ∧ OwnEl boolK w' w.heap.size 4 v l ∧ Below w.heap.size w w'
section
variable {p : Value} {B t n c : Nat} {w : World} {a : Option Addr} {size : Int} {rs : Rgs} {F : Nat → Prop}
set_option maxRecDepth 100000 in
set_option maxHeartbeats 2000000 in
theorem plaClone_is (h : ElAt rgK w a n c rs) (hn : n ≤ 2048) : Calls Try.prog 29 #[.slice a n c] w (RetR w rs) := by
  obtain ⟨i0, hi, hz0, hz1, hz2⟩ := info_el infoRgP
  have hq := rgsNil
  have hl := h.len
  cases a with
  | none =>
    obtain ⟨rfl, rfl, rfl⟩ := h.none_eq
    clear h
    go_enter Try.func29, Try.ntmps29
    go_wp2
    go_ret
    exact ⟨_, rfl, OwnEl.nil _ _ _ _, Below.refl _ _⟩
  | some ad =>
    have k1 := (Below.refl w.heap.size w).alloc (Nat.le_refl _) (.cells #[] 37)
    have ho : OwnEl rgK (w.alloc (.cells #[] 37)) w.heap.size 37 (.slice (some ⟨w.heap.size, 0, none⟩) 0 0) [] := OwnEl.lit (K := rgK) (base := w.heap.size) w 37 (Nat.le_refl _) [] (by unfold maxLen; simp) #[] rfl
    have HE := Lib.hid (h.keep k1)
    have HO := Lib.hid ho
    have HK := Lib.hid k1
    have hl0 : ([] : Rgs).length + n ≤ 1048576 := by simp; omega
    clear h ho k1 hl
    go_enter Try.func29, Try.ntmps29
    go_wp2_with (at_builtin; refine wpList_append_els rfl _ _ 29 rfl w.heap.size 37 i0 _ Try.underlying29 hi hz0 hz1 (by omega) rfl rfl HO.out rfl HE.out hl0 (by simp) ?_; intro v2 w5 hown2 hgrow2; have HO5 := Lib.hid hown2; have HG5 := Lib.hid (HK.out.grown hgrow2 (by simp) (fun j q => (HO.out.lt j q).1)); clear hown2 hgrow2)
    go_ret
    exact ⟨_, rfl, HO5.out, HG5.out⟩
set_option maxHeartbeats 1000000 in
theorem plaRegions_is (h : HeldP p w a n c rs) (hn : n ≤ 2048) : Calls Try.prog 16 #[p] w (RetR w rs) := by
  have C := Lib.hid (h.call w (Below.refl _ _))
  have CC := Lib.hid (plaClone_is h.els hn)
  clear h
  go_enter Try.func16, Try.ntmps16
  go_wp2_with (first
    | (go_at_call 26; ((with_reducible refine (C.out).mono ?_); rintro e w2 ⟨rfl, rfl⟩))
    | (go_at_call 29; ((with_reducible refine (CC.out).mono ?_); rintro e w2 ⟨v, rfl, ho, hb⟩); have HO := Lib.hid ho; have HB := Lib.hid hb; clear ho hb))
  go_ret
  exact ⟨_, rfl, HO.out, HB.out⟩
/-- What New answers: a plan of its own. -/
def PlaNew (B : Nat) (size : Int) (w : World) (e : Ending) (w' : World) : Prop := ∃ t F, e = .returned (.tuple #[.pointer (some ⟨t, 0, none⟩), .int .i64 0]) ∧ PlaAt B w' t size [] F ∧ (∀ j, F j → w.heap.size ≤ j) ∧ Below w.heap.size w w'
theorem plaNew_no (size : Int) (w : World) (h0 : size < 0 ∨ 2048 < size) : Calls Try.prog 6 #[.int .i64 size] w fun e w' => e = .returned (.tuple #[.pointer none, .int .i64 2]) ∧ w = w' := by
  rcases h0 with h0 | h0
  · go_enter Try.func6, Try.ntmps6
    go_wp2
    go_ret2
    exact ⟨rfl, rfl⟩
  · have h1 : ¬ size < 0 := by omega
    go_enter Try.func6, Try.ntmps6
    go_wp2
    go_ret2
    exact ⟨rfl, rfl⟩
theorem plaNew_is (B : Nat) (size : Int) (w : World) (h0 : 0 ≤ size) (h1 : size ≤ 2048) (hB : B ≤ w.heap.size) : Calls Try.prog 6 #[.int .i64 size] w (PlaNew B size w) := by
  have h2 : ¬ size < 0 := by omega
  have h3 : ¬ 2048 < size := by omega
  go_enter Try.func6, Try.ntmps6
  go_wp2
  go_ret2
  have bt := BlkAt.new w 52 #[.int .i64 size, .slice none 0 0, .slice none 0 0, .pointer (some ⟨w.heap.size, 0, none⟩)]
  refine ⟨w.heap.size, fun j => j = w.heap.size, rfl, ⟨[], .slice none 0 0, .slice none 0 0, bt, OwnEl.nil _ _ _ _, OwnEl.nil _ _ _ _, NsOk.nil, Sides.nil h0 h1, rfl, ?_, ?_, ?_⟩, ?_, (Below.refl _ _).alloc (Nat.le_refl _) _⟩
  · intro j q; cases q
  · intro j q; cases q
  · intro j q; subst q; simp; omega
  · intro j q; omega
end
end Go.Proofs.Ytpgjdbnhbkggpaa
