/- Lists of numbers and of rows held against one another; the document's Folds and Addrs. Conditions: the lists can be read; marks' numbers are of 64 bits. -/
import Derived.Test.YthmojdmdhabogaaProg
import Derived.Test.YthmojdmdhabogaaTraH
import Derived.Test.YthmojdmdhabogaaIts
import Derived.WalkKit
import Derived.Handy
import Derived.Lib.Hide
import Derived.Deep.QuietTactic
import Derived.Deep.RegionHeld3
import Derived.BigQuiet
import Derived.Outline
import Derived.WalkSmall
import Derived.OwnWalk
namespace Go.Proofs.Ythmojdmdhabogaa
open Go.RowKit Go.IntWalk

def intK : Kd Int where
  k := 1
  enc x := [.int .i64 x]
  len _ := rfl
  ones x v hv := by
    rw [List.mem_singleton.1 hv]; rfl
  pos := by decide
theorem intK_vs (l : List Int) : intK.vs l = l.map (Value.int .i64) := by
  induction l with
  | nil => rfl
  | cons x l ih =>
    have e : intK.vs (x :: l) = intK.enc x ++ intK.vs l := by simp [Kd.vs]
    rw [e, ih]
    rfl
theorem ownI_el {w : World} {base : Nat} {e : TypeId} {v : Value} {l : List Int} : OwnI w base e v l ↔ OwnEl intK w base e v l := by
  unfold OwnI OwnEl
  rw [intK_vs]
  exact Iff.rfl
abbrev IntAt := ElAt intK
theorem IntAt.lie1 {w : World} {a : Option Addr} {n c : Nat} {l : List Int} (h : IntAt w a n c l) (hn : 0 < n) : ∃ b off, a = some ⟨b, off, none⟩ ∧ ∀ i, i < n → w.cell? ⟨b, off + i, none⟩ = some (.int .i64 (el l i)) := by
  obtain ⟨b, off, e, hc⟩ := h.lie hn
  exact ⟨b, off, e, fun i hi => by have := hc i hi 0 (by decide); simpa [intK] using this⟩
theorem RetI.int {w w' : World} {e : TypeId} {l : List Int} {r : Ending} (h : RetI w e l r w') : ∃ v, r = .returned v ∧ OwnEl intK w' w.heap.size e v l ∧ Below w.heap.size w w' := by
  obtain ⟨v, h1, h2, h3⟩ := h
  exact ⟨v, h1, ownI_el.1 h2, h3⟩
/-- Marks whose numbers are of 64 bits. -/
def Mk64 (l : List Mk) : Prop := ∀ m ∈ l, B64 m.1 ∧ B64 m.2.1 ∧ B64 m.2.2
theorem Mk64.at {l : List Mk} (h : Mk64 l) {i : Nat} (hi : i < l.length) : B64 (mkAt l i).1 ∧ B64 (mkAt l i).2.1 ∧ B64 (mkAt l i).2.2 := by
  rw [← mkAt_eq hi]; exact h _ (List.getElem_mem _)

set_option maxHeartbeats 1000000 in
theorem refTrSame_is (a a' : Option Addr) (n c c' : Nat) (l : List Int) (w : World) (hB : IntAt w a n c l) (hB' : IntAt w a' n c' l) :
    Calls Try.prog 14 #[.slice a n c, .slice a' n c'] w fun e w' => e = .returned (.bool true) ∧ Below w.heap.size w w' := by
  have hcap := hB.cap
  have hbig := hB.big
  have hcap' := hB'.cap
  have hbig' := hB'.big
  unfold maxLen at hbig hbig'
  have HB := Lib.hid hB
  have HB' := Lib.hid hB'
  clear hB hB'
  go_enter Try.func14, Try.ntmps14
  go_wp2
  go_loopw [5] (fun i wr => ∃ k : Nat, k ≤ n ∧ i = .int .i64 k ∧ Below w.heap.size w wr) (fun i _ => n - (intOf i).toNat)
  case atStart => exact ⟨0, by omega, rfl, Below.refl _ _⟩
  case round =>
    obtain ⟨k, hk, rfl, hb⟩ := hrel
    have Hb := Lib.hid hb
    by_cases hlt : k < n
    · obtain ⟨b, off, rfl, h1⟩ := IntAt.lie1 (HB.out.keep hb) (by omega)
      obtain ⟨b', off', rfl, h2⟩ := IntAt.lie1 (HB'.out.keep hb) (by omega)
      have h1 := h1 k hlt
      have h2 := h2 k hlt
      have hlt' : (k : Int) < n := by omega
      generalize el l k = y at *
      have hy : (y != y) = false := by simp
      clear hb
      go_wp2
      go_quiet (fail)
      go_wp2
      go_roundw
      case rel => exact ⟨k + 1, by omega, by go_num, below_drewN Hb.out _⟩
      case measure => simp [intOf]; omega
    · obtain rfl : k = n := by omega
      clear hb
      go_wp2
      go_ret
      exact ⟨rfl, Hb.out⟩
theorem eq_ht (a b c d : Int) (w : World) : Sem.run Try.prog (Op.equalIn 10000 40 (.agg #[.int .i64 a, .int .i64 b, .int .i64 c, .int .i64 d]) (.agg #[.int .i64 a, .int .i64 b, .int .i64 c, .int .i64 d])) w = .ok true w := by
  rw [run_equalIn_struct w 9999 40 _ _ (by kernel_rfl) (by kernel_rfl)]
  have hu := Try.underlying40
  simp only [Program.fieldsOf, hu]
  go_simp
set_option maxHeartbeats 1000000 in
theorem refHeats_is (a a' : Option Addr) (n c c' : Nat) (l : List Ht) (w : World) (hB : HtAt w a n c l) (hB' : HtAt w a' n c' l) :
    Calls Try.prog 19 #[.slice a n c, .slice a' n c'] w fun e w' => e = .returned (.bool true) ∧ Below w.heap.size w w' := by
  have hcap := hB.cap
  have hbig := hB.big
  have hcap' := hB'.cap
  have hbig' := hB'.big
  unfold maxLen at hbig hbig'
  have HB := Lib.hid hB
  have HB' := Lib.hid hB'
  clear hB hB'
  go_enter Try.func19, Try.ntmps19
  go_wp2
  go_loopw [5] (fun i wr => ∃ k : Nat, k ≤ n ∧ i = .int .i64 k ∧ Below w.heap.size w wr) (fun i _ => n - (intOf i).toNat)
  case atStart => exact ⟨0, by omega, rfl, Below.refl _ _⟩
  case round =>
    obtain ⟨k, hk, rfl, hb⟩ := hrel
    have Hb := Lib.hid hb
    by_cases hlt : k < n
    · obtain ⟨b, off, rfl, h1⟩ := HtAt.lie4 (HB.out.keep hb) (by omega)
      obtain ⟨b', off', rfl, h2⟩ := HtAt.lie4 (HB'.out.keep hb) (by omega)
      obtain ⟨c0, c1, c2, c3⟩ := h1 k hlt
      obtain ⟨d0, d1, d2, d3⟩ := h2 k hlt
      have hlt' : (k : Int) < n := by omega
      generalize (el l k).1 = y0 at *
      generalize (el l k).2.1 = y1 at *
      generalize (el l k).2.2.1 = y2 at *
      generalize (el l k).2.2.2 = y3 at *
      have hE := eq_ht y0 y1 y2 y3
      clear hb h1 h2
      go_wp2
      go_quiet (fail)
      go_wp2
      go_roundw
      case rel => exact ⟨k + 1, by omega, by go_num, below_drewN Hb.out _⟩
      case measure => simp [intOf]; omega
    · obtain rfl : k = n := by omega
      clear hb
      go_wp2
      go_ret
      exact ⟨rfl, Hb.out⟩

theorem infoIntT : (Try.prog.info? 3).map (fun i => (i.zero, i.size, i.bytes)) = some (some (.int .i64 0), 1, 8) := by kernel_rfl
theorem info_els {P : Program} {t : TypeId} {z : Value} {s b : Nat} (h : (P.info? t).map (fun i => (i.zero, i.size, i.bytes)) = some (some z, s, b)) : ∃ i, P.info? t = some i ∧ i.zero = some z ∧ i.size = s ∧ i.bytes = b := by
  obtain ⟨i, hi, h2⟩ := Option.map_eq_some_iff.1 h
  simp only [Prod.mk.injEq] at h2
  exact ⟨i, hi, h2.1, h2.2.1, h2.2.2⟩
theorem int_one (w : World) (x : Int) : IntAt (w.alloc (.cells #[.int .i64 x] 3)) (some ⟨w.heap.size, 0, none⟩) 1 1 [x] := ElAt.one w _ x _ rfl
set_option maxHeartbeats 1000000 in
theorem refTrFolds_is (a : Option Addr) (n c : Nat) (l : List Mk) (w : World) (h : MkAt w a n c l) (hn : n ≤ 1048576) (h64 : Mk64 l) :
    Calls Try.prog 18 #[.slice a n c] w fun r w' => ∃ v, r = .returned v ∧ OwnEl intK w' w.heap.size 3 v (tFolds l) ∧ Below w.heap.size w w' := by
  obtain ⟨i0, hi, hz0, hz1, hz2⟩ := info_els infoIntT
  have hcap := h.cap
  have hbig := h.big
  unfold maxLen at hbig
  have HL := Lib.hid h
  have HLN := Lib.hid h.len
  have H64 := Lib.hid h64
  clear h h64
  go_enter Try.func18, Try.ntmps18
  go_wp2
  go_loopw [3, 4] (fun v i wr => ∃ k : Nat, 1 ≤ k ∧ (k ≤ n ∨ k = 1) ∧ i = .int .i64 k ∧ OwnEl intK wr w.heap.size 3 v (foldsTo l (k - 1)) ∧ Below w.heap.size w wr) (fun _ i _ => n - (intOf i).toNat)
  case atStart => exact ⟨1, by omega, .inr rfl, rfl, OwnEl.nil _ _ _ _, Below.refl _ _⟩
  case round =>
    obtain ⟨k, hk1, hk2, rfl, ho, hb⟩ := hrel
    have Hb := Lib.hid hb
    have HO := Lib.hid ho
    by_cases hlt : k < n
    · obtain ⟨j, hkj⟩ : ∃ j, j + 1 = k := ⟨k - 1, by omega⟩
      obtain ⟨g, off, rfl, hc⟩ := (HL.out.keep Hb.out).lie (by omega)
      obtain ⟨c0, -, -⟩ := hc k hlt
      obtain ⟨d0, -, -⟩ := hc j (by omega)
      have hkl : k < l.length := by have := HLN.out; omega
      have hb1 := (H64.out.at hkl).1
      obtain ⟨u, hu⟩ : ∃ u, (mkAt l k).1 = u := ⟨_, rfl⟩
      obtain ⟨v0, hv⟩ : ∃ u, (mkAt l j).1 = u := ⟨_, rfl⟩
      rw [hu] at c0 hb1
      rw [hv] at d0
      have HF := Lib.hid (show foldsTo l k = if wrap64 (u - v0) = 1 then foldsTo l (k - 1) else foldsTo l (k - 1) ++ [(k : Int)] by
        have q := fold_iff (x := u) (y := v0) hb1
        rw [← hkj, Nat.add_sub_cancel]
        show (if (mkAt l (j + 1)).1 = wrap64 ((mkAt l j).1 + 1) then _ else _) = _
        rw [hkj, hu, hv]
        by_cases e : u = wrap64 (v0 + 1)
        · rw [if_pos e, if_pos (q.2 e)]
        · rw [if_neg e, if_neg fun z => e (q.1 z)])
      have hlen1 := foldsTo_len l (k - 1)
      have HJ := Lib.hid hkj
      have hw1 : IntKind.i64.wrap ((k : Int) - 1) = j := by rw [IntWalk.i64_in _ (by omega)]; omega
      have hj0 : (j : Int) < n := by omega
      have hj1 : (k : Int) < n := by omega
      have hwe : IntKind.i64.wrap (u - v0) = wrap64 (u - v0) := IntWalk.i64_left _
      obtain ⟨z, hz⟩ : ∃ z, wrap64 (u - v0) = z := ⟨_, rfl⟩
      rw [hz] at hwe
      have HZ := Lib.hid hz
      clear hc hu hv hkl hb1 hb ho hz hkj
      by_cases e : z = 1
      · have e1 : (z != 1) = false := by simp [e]
        have HE := Lib.hid e
        clear e
        go_wp2
        go_quiet (fail)
        go_wp2
        go_roundw
        case rel => exact ⟨k + 1, by omega, .inl (by omega), by go_num, by rw [Nat.add_sub_cancel, HF.out, if_pos (HZ.out.trans HE.out)]; exact HO.out.keep (below_drewN (Below.refl _ _) _), below_drewN Hb.out _⟩
        case measure => simp [intOf]; omega
      · have e1 : (z != 1) = true := by simp [e]
        have HE := Lib.hid e
        clear e
        go_wp2
        go_quiet (fail)
        generalize hW1 : wr.drewN nq = W1
        have hO1 := Lib.hid (show OwnEl intK W1 w.heap.size 3 _ _ from by rw [← hW1]; exact HO.out.keep (below_drewN (Below.refl _ _) _))
        have hB1 := Lib.hid (show Below w.heap.size w W1 from by rw [← hW1]; exact below_drewN Hb.out _)
        clear hW1
        have hs1 := hB1.out.size
        go_wp2_with (at_builtin; refine wpList_append_els rfl _ _ 28 rfl w.heap.size 3 i0 (.int .i64 0) Try.underlying28 hi hz0 hz1 (by omega) rfl rfl (hO1.out.keep ((Below.refl _ _).alloc (Nat.le_refl _) _)) rfl (int_one W1 k) (by omega) (by simp; omega) ?_; intro v' w2 hown hgr)
        have hob := hO1.out.lt
        go_roundw
        case rel => exact ⟨k + 1, by omega, .inl (by omega), by go_num, by rw [Nat.add_sub_cancel, HF.out, if_neg (fun q => HE.out (HZ.out.symm.trans q))]; exact hown, (hB1.out.alloc hs1 _).grown hgr (by simp; omega) fun q hq => (hob q hq).1⟩
        case measure => simp [intOf]; omega
    · have hlt' : (n : Int) ≤ k := by omega
      have HT := Lib.hid (show foldsTo l (k - 1) = tFolds l by
        unfold tFolds
        rw [HLN.out]
        congr 1
        omega)
      clear hb ho
      go_wp2
      go_ret
      exact ⟨_, rfl, by rw [← HT.out]; exact HO.out, Hb.out⟩
end Go.Proofs.Ythmojdmdhabogaa
