/- What marks cost, and how many stand at a place: the program's and the document's. Conditions: none but the arguments' form. -/
import Derived.Test.YthmojdmdhabogaaProg
import Derived.Test.YthmojdmdhabogaaTraH
import Derived.WalkKit
namespace Go.Proofs.Ythmojdmdhabogaa
open Go.RowKit Go.IntWalk

set_option maxHeartbeats 1000000 in
theorem traCost_is (a : Option Addr) (n c : Nat) (l : List Mk) (w : World) (h : MkAt w a n c l) :
    Calls Try.prog 8 #[.slice a n c] w fun e w' => e = .returned (.int .i64 (tCost l)) ∧ Below w.heap.size w w' := by
  have hcap := h.cap
  have hbig := h.big
  unfold maxLen at hbig
  have HL := Lib.hid h
  have HLN := Lib.hid h.len
  clear h
  go_enter Try.func8, Try.ntmps8
  go_wp2
  go_loopw [3, 8] (fun m i wr => ∃ k : Nat, k ≤ n ∧ i = .int .i64 k ∧ m = .int .i64 (tCost (l.take k)) ∧ Below w.heap.size w wr) (fun _ i _ => n - (intOf i).toNat)
  case atStart => exact ⟨0, by omega, rfl, by rw [List.take_zero, tCost_nil], Below.refl _ _⟩
  case round =>
    obtain ⟨k, hk, rfl, rfl, hb⟩ := hrel
    have Hb := Lib.hid hb
    obtain ⟨m, hm⟩ : ∃ m, tCost (l.take k) = m := ⟨_, rfl⟩
    rw [hm]
    have HM := Lib.hid hm
    clear hm hb
    by_cases hlt : k < n
    · obtain ⟨g, off, rfl, hc⟩ := (HL.out.keep Hb.out).lie (by omega)
      obtain ⟨c0, c1, c2⟩ := hc k hlt
      have hkl : k < l.length := by have := HLN.out; omega
      obtain ⟨u, hu⟩ : ∃ u, (mkAt l k).2.2 = u := ⟨_, rfl⟩
      rw [hu] at c2
      have HU := Lib.hid (show tCost (l.take (k + 1)) = wrap64 (m + u) by rw [take_snoc hkl, tCost_snoc, HM.out, ← hu]; rfl)
      have hlt' : (k : Int) < n := by omega
      clear hc hu hkl
      go_wp2
      go_roundw
      case rel => exact ⟨k + 1, by omega, by go_num, by rw [HU.out], Hb.out.alloc Hb.out.size _⟩
      case measure => simp [intOf]; omega
    · obtain rfl : k = n := by omega
      go_wp2
      go_ret
      rw [← HM.out, ← HLN.out, List.take_length]
      exact ⟨rfl, Hb.out⟩

set_option maxHeartbeats 1000000 in
theorem refTrCost_is (a : Option Addr) (n c : Nat) (l : List Mk) (w : World) (h : MkAt w a n c l) :
    Calls Try.prog 9 #[.slice a n c] w fun e w' => e = .returned (.int .i64 (tCost l)) ∧ w = w' := by
  have hcap := h.cap
  have hbig := h.big
  unfold maxLen at hbig
  have HL := Lib.hid h
  have HLN := Lib.hid h.len
  clear h
  go_enter Try.func9, Try.ntmps9
  go_wp2
  go_loopw [3, 4] (fun m i wr => ∃ k : Nat, k ≤ n ∧ i = .int .i64 k ∧ m = .int .i64 (tCost (l.take k)) ∧ wr = w) (fun _ i _ => n - (intOf i).toNat)
  case atStart => exact ⟨0, by omega, rfl, by rw [List.take_zero, tCost_nil], rfl⟩
  case round =>
    obtain ⟨k, hk, rfl, rfl, rfl⟩ := hrel
    obtain ⟨m, hm⟩ : ∃ m, tCost (l.take k) = m := ⟨_, rfl⟩
    rw [hm]
    have HM := Lib.hid hm
    clear hm
    by_cases hlt : k < n
    · obtain ⟨g, off, rfl, hc⟩ := HL.out.lie (by omega)
      obtain ⟨c0, c1, c2⟩ := hc k hlt
      have hkl : k < l.length := by have := HLN.out; omega
      obtain ⟨u, hu⟩ : ∃ u, (mkAt l k).2.2 = u := ⟨_, rfl⟩
      rw [hu] at c2
      have HU := Lib.hid (show tCost (l.take (k + 1)) = wrap64 (m + u) by rw [take_snoc hkl, tCost_snoc, HM.out, ← hu]; rfl)
      have hlt' : (k : Int) < n := by omega
      clear hc hu hkl
      go_wp2
      go_roundw
      case rel => exact ⟨k + 1, by omega, by go_num, by rw [HU.out], by first | rfl | trivial⟩
      case measure => simp [intOf]; omega
    · obtain rfl : k = n := by omega
      go_wp2
      go_ret
      rw [← HM.out, ← HLN.out, List.take_length]
      exact ⟨rfl, rfl⟩

set_option maxHeartbeats 1000000 in
theorem traCount_is (a : Option Addr) (n c : Nat) (p : Int) (l : List Mk) (w : World) (h : MkAt w a n c l) :
    Calls Try.prog 10 #[.slice a n c, .int .i64 p] w fun e w' => e = .returned (.int .i64 (nAt l p : Nat)) ∧ Below w.heap.size w w' := by
  have hcap := h.cap
  have hbig := h.big
  unfold maxLen at hbig
  have HL := Lib.hid h
  have HLN := Lib.hid h.len
  clear h
  go_enter Try.func10, Try.ntmps10
  go_wp2
  go_loopw [5, 10] (fun m i wr => ∃ k : Nat, k ≤ n ∧ i = .int .i64 k ∧ m = .int .i64 (nAt (l.take k) p : Nat) ∧ Below w.heap.size w wr) (fun _ i _ => n - (intOf i).toNat)
  case atStart => exact ⟨0, by omega, rfl, by rw [List.take_zero]; rfl, Below.refl _ _⟩
  case round =>
    obtain ⟨k, hk, rfl, rfl, hb⟩ := hrel
    have Hb := Lib.hid hb
    obtain ⟨m, hm⟩ : ∃ m, nAt (l.take k) p = m := ⟨_, rfl⟩
    rw [hm]
    have HM := Lib.hid hm
    have hmk : m ≤ k := by
      have := nAt_le (l.take k) p
      rw [hm, List.length_take] at this
      omega
    clear hm hb
    by_cases hlt : k < n
    · obtain ⟨g, off, rfl, hc⟩ := (HL.out.keep Hb.out).lie (by omega)
      obtain ⟨c0, c1, c2⟩ := hc k hlt
      have hkl : k < l.length := by have := HLN.out; omega
      obtain ⟨u, hu⟩ : ∃ u, (mkAt l k).1 = u := ⟨_, rfl⟩
      rw [hu] at c0
      have HU := Lib.hid (show nAt (l.take (k + 1)) p = if u = p then m + 1 else m by rw [take_snoc hkl, nAt_snoc, HM.out, ← hu]; rfl)
      have hlt' : (k : Int) < n := by omega
      clear hc hu hkl
      by_cases e : u = p
      · have e1 : (u == p) = true := by simpa using e
        have HE := Lib.hid e
        clear e
        go_wp2
        go_roundw
        case rel => exact ⟨k + 1, by omega, by go_num, by rw [HU.out, if_pos HE.out]; go_num, Hb.out.alloc Hb.out.size _⟩
        case measure => simp [intOf]; omega
      · have e1 : (u == p) = false := by simpa using e
        have HE := Lib.hid e
        clear e
        go_wp2
        go_roundw
        case rel => exact ⟨k + 1, by omega, by go_num, by rw [HU.out, if_neg HE.out], Hb.out.alloc Hb.out.size _⟩
        case measure => simp [intOf]; omega
    · obtain rfl : k = n := by omega
      go_wp2
      go_ret
      rw [← HM.out, ← HLN.out, List.take_length]
      exact ⟨rfl, Hb.out⟩

set_option maxHeartbeats 1000000 in
theorem refTrCount_is (a : Option Addr) (n c : Nat) (p : Int) (l : List Mk) (w : World) (h : MkAt w a n c l) :
    Calls Try.prog 11 #[.slice a n c, .int .i64 p] w fun e w' => e = .returned (.int .i64 (nAt l p : Nat)) ∧ w = w' := by
  have hcap := h.cap
  have hbig := h.big
  unfold maxLen at hbig
  have HL := Lib.hid h
  have HLN := Lib.hid h.len
  clear h
  go_enter Try.func11, Try.ntmps11
  go_wp2
  go_loopw [5, 6] (fun m i wr => ∃ k : Nat, k ≤ n ∧ i = .int .i64 k ∧ m = .int .i64 (nAt (l.take k) p : Nat) ∧ wr = w) (fun _ i _ => n - (intOf i).toNat)
  case atStart => exact ⟨0, by omega, rfl, by rw [List.take_zero]; rfl, rfl⟩
  case round =>
    obtain ⟨k, hk, rfl, rfl, rfl⟩ := hrel
    obtain ⟨m, hm⟩ : ∃ m, nAt (l.take k) p = m := ⟨_, rfl⟩
    rw [hm]
    have HM := Lib.hid hm
    have hmk : m ≤ k := by
      have := nAt_le (l.take k) p
      rw [hm, List.length_take] at this
      omega
    clear hm
    by_cases hlt : k < n
    · obtain ⟨g, off, rfl, hc⟩ := HL.out.lie (by omega)
      obtain ⟨c0, c1, c2⟩ := hc k hlt
      have hkl : k < l.length := by have := HLN.out; omega
      obtain ⟨u, hu⟩ : ∃ u, (mkAt l k).1 = u := ⟨_, rfl⟩
      rw [hu] at c0
      have HU := Lib.hid (show nAt (l.take (k + 1)) p = if u = p then m + 1 else m by rw [take_snoc hkl, nAt_snoc, HM.out, ← hu]; rfl)
      have hlt' : (k : Int) < n := by omega
      clear hc hu hkl
      by_cases e : u = p
      · have e1 : (u == p) = true := by simpa using e
        have HE := Lib.hid e
        clear e
        go_wp2
        go_roundw
        case rel => exact ⟨k + 1, by omega, by go_num, by rw [HU.out, if_pos HE.out]; go_num, by first | rfl | trivial⟩
        case measure => simp [intOf]; omega
      · have e1 : (u == p) = false := by simpa using e
        have HE := Lib.hid e
        clear e
        go_wp2
        go_roundw
        case rel => exact ⟨k + 1, by omega, by go_num, by rw [HU.out, if_neg HE.out], by first | rfl | trivial⟩
        case measure => simp [intOf]; omega
    · obtain rfl : k = n := by omega
      go_wp2
      go_ret
      rw [← HM.out, ← HLN.out, List.take_length]
      exact ⟨rfl, rfl⟩
end Go.Proofs.Ythmojdmdhabogaa
