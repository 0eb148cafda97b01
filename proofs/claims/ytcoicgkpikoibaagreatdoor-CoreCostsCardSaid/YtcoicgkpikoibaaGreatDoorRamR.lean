/- What the document's own memory (package astrolaberef15) answers. Conditions: the slices' cells are words; what is copied is no longer than the run-time allows. -/
import Derived.Test.YtcoicgkpikoibaaGreatDoorProg
import Derived.Test.YtcoicgkpikoibaaGreatDoorRamM
import Derived.Handy
import Derived.Deep.QuietTactic
import Derived.BigQuiet
import Derived.WalkSmall
import Derived.WalkSpells
import Derived.RegionTactic
import Derived.ChangeAlike
import Derived.PlainAid
import Derived.Outline
import Derived.Test.YtcoicgkpikoibaaGreatDoorRng
namespace Go.Proofs.YtcoicgkpikoibaaGreatDoor
open Go.RowKit

theorem infoI32 : (Tryz.prog.info? 21).map (fun i => (i.zero, i.size, i.bytes)) = some (some (.int .i32 0), 1, 4) := by kernel_rfl

theorem refLoad_is (a : Option Addr) (n c : Nat) (L : List Int) (x : Int) (w : World) (h : Ws .i32 w a n c L) (hx : -2147483648 ≤ x ∧ x ≤ 2147483647) :
    Calls Tryz.prog 52 #[.slice a n c, .int .i32 x] w fun e w' => e = .returned (.tuple #[.int .i32 (ldV L x), .bool (ldB L x)]) ∧ w = w' := by
  have hlen := h.len
  have hcap := h.cap
  have hbig := h.big
  unfold maxLen at hbig
  obtain ⟨x0, x1⟩ := hx
  by_cases hin : 0 ≤ x ∧ x < L.length
  · obtain ⟨k, rfl⟩ : ∃ k : Nat, x = k := ⟨x.toNat, by omega⟩
    have hk : k < L.length := by omega
    obtain ⟨b, off, rfl, hc⟩ := h.lie (by omega)
    have hcell := hc k (by omega)
    obtain ⟨e1, e2, -⟩ := ld_in hk
    rw [e1, e2]
    have hkn : k < n := by omega
    generalize byAt L k = y at *
    clear h hc e1 e2 hin hk hlen
    go_enter Tryz.func52, Tryz.ntmps52
    go_wp2
    go_ret2
    exact ⟨rfl, rfl⟩
  · obtain ⟨e1, e2, -⟩ := ld_out hin
    rw [e1, e2]
    rw [hlen] at hin
    clear h e1 e2
    by_cases hn : x < 0
    · clear hin
      go_enter Tryz.func52, Tryz.ntmps52
      go_wp2
      go_ret2
      exact ⟨rfl, rfl⟩
    · have hge : (n : Int) ≤ x := by omega
      have h0 : 0 ≤ x := by omega
      clear hin hn
      go_enter Tryz.func52, Tryz.ntmps52
      go_wp2
      go_ret2
      exact ⟨rfl, rfl⟩

theorem refLoad_at {a : Option Addr} {n c : Nat} {L : List Int} {x y : Int} {k : Bool} {w : World} (h : Ws .i32 w a n c L) (hx : -2147483648 ≤ x ∧ x ≤ 2147483647) (hy : ldV L x = y) (hk : ldB L x = k) :
    Calls Tryz.prog 52 #[.slice a n c, .int .i32 x] w fun e w' => e = .returned (.tuple #[.int .i32 y, .bool k]) ∧ w = w' := by
  subst hy hk
  exact (refLoad_is a n c L x w h hx).mono fun _ _ h => h

set_option maxRecDepth 100000 in
set_option maxHeartbeats 1000000 in
theorem refStore_is (a : Option Addr) (n c : Nat) (L : List Int) (x u : Int) (w : World) (h : Ws .i32 w a n c L) (hx : -2147483648 ≤ x ∧ x ≤ 2147483647) (hn : n ≤ 1048576) :
    Calls Tryz.prog 53 #[.slice a n c, .int .i32 x, .int .i32 u] w fun e w' => ∃ a' c', e = .returned (.tuple #[.slice a' n c', .bool (ldB L x)]) ∧ Ws .i32 w' a' n c' (stL L x u) ∧ Below w.heap.size w w' ∧ ∀ b off, a' = some ⟨b, off, none⟩ → a' = a ∨ w.heap.size ≤ b := by
  have hlen := h.len
  have hcap := h.cap
  have hbig := h.big
  unfold maxLen at hbig
  obtain ⟨x0, x1⟩ := hx
  by_cases hin : 0 ≤ x ∧ x < L.length
  · obtain ⟨k, rfl⟩ : ∃ k : Nat, x = k := ⟨x.toNat, by omega⟩
    have hk : k < L.length := by omega
    obtain ⟨e1, -, e3⟩ := ld_in hk
    rw [e1, e3]
    have hkn : k < n := by omega
    have HB := Lib.hid h
    have HO := Lib.hid (OwnW.nil (κ := .i32) w w.heap.size 21)
    obtain ⟨i0, hi, hz0, hz1, hz2⟩ := info_parts infoI32
    clear h e1 e3 hin hk
    go_enter Tryz.func53, Tryz.ntmps53
    go_wp2_with (at_builtin; refine wpList_append_ws rfl _ _ 23 rfl w.heap.size 21 i0 (.int .i32 0) Tryz.underlying23 hi hz0 hz1 hz2 rfl rfl HO.out rfl HB.out (by simpa using (by omega : n * 4 ≤ 140737488355328)) (by simp) (Below.refl _ _) ?_; intro v' w1 hown hb1 hs1; rw [List.nil_append] at hown; obtain ⟨g, cap, rfl, hg1, hg2, hg3, hg4⟩ := hown.form hlen (by omega); have hcl := hown.cell hlen hkn; have hfr := hown.free hlen k; have HW := Lib.hid hown; unfold maxLen at hg4; clear hown)
    go_ret2
    obtain ⟨a2, c2, e2, hw2⟩ := (HW.out.set hlen k u).ws
    rw [List.length_set, hlen] at e2 hw2
    simp only [Value.slice.injEq] at e2
    obtain ⟨rfl, -, rfl⟩ := e2
    exact ⟨_, _, rfl, hw2, hb1.setCell (p := ⟨g, k, none⟩) hg1 _, fun b off e => .inr (by simp at e; omega)⟩
  · obtain ⟨e1, -, e3⟩ := ld_out hin
    rw [e1, e3]
    rw [hlen] at hin
    have HB := Lib.hid h
    clear h e1 e3
    by_cases hn : x < 0
    · clear hin
      go_enter Tryz.func53, Tryz.ntmps53
      go_wp2
      go_ret2
      exact ⟨_, _, rfl, HB.out, Below.refl _ _, fun _ _ _ => .inl rfl⟩
    · have hge : (n : Int) ≤ x := by omega
      have h0 : 0 ≤ x := by omega
      clear hin hn
      go_enter Tryz.func53, Tryz.ntmps53
      go_wp2
      go_ret2
      exact ⟨_, _, rfl, HB.out, Below.refl _ _, fun _ _ _ => .inl rfl⟩

set_option maxHeartbeats 1000000 in
theorem refSameW_is (a a' : Option Addr) (n c c' : Nat) (l : List Int) (w : World) (hB : Ws .i32 w a n c l) (hB' : Ws .i32 w a' n c' l) :
    Calls Tryz.prog 15 #[.slice a n c, .slice a' n c'] w fun e w' => e = .returned (.bool true) ∧ Below w.heap.size w w' := by
  have hcap := hB.cap
  have hbig := hB.big
  have hcap' := hB'.cap
  have hbig' := hB'.big
  unfold maxLen at hbig hbig'
  have HB := Lib.hid hB
  have HB' := Lib.hid hB'
  clear hB hB'
  go_enter Tryz.func15, Tryz.ntmps15
  go_wp2
  go_loopw [5] (fun i wr => ∃ k : Nat, k ≤ n ∧ i = .int .i64 k ∧ Below w.heap.size w wr) (fun i _ => n - (intOf i).toNat)
  case atStart => exact ⟨0, by omega, rfl, Below.refl _ _⟩
  case round =>
    obtain ⟨k, hk, rfl, hb⟩ := hrel
    have Hb := Lib.hid hb
    by_cases hlt : k < n
    · obtain ⟨b, off, rfl, h1⟩ := (HB.out.keep hb).lie (by omega)
      obtain ⟨b', off', rfl, h2⟩ := (HB'.out.keep hb).lie (by omega)
      have h1 := h1 k hlt
      have h2 := h2 k hlt
      have hlt' : (k : Int) < n := by omega
      generalize byAt l k = y at *
      have hy : (y != y) = false := by simp
      clear hb
      go_wp2
      go_quiet (fail)
      go_wp2
      go_roundw
      case rel => exact ⟨k + 1, by omega, by go_num, below_drewN Hb.out _⟩
      case measure => simp [intOf]; omega
    · obtain rfl : k = n := by omega
      clear hb
      go_wp2
      go_ret
      exact ⟨rfl, Hb.out⟩
end Go.Proofs.YtcoicgkpikoibaaGreatDoor
