/- Package trace's Rows and Top. Conditions: the list can be read, its numbers are of 64 bits; it is no longer than 2^19. -/
import Derived.Test.YthmojdmdhabogaaTraL
namespace Go.Proofs.Ythmojdmdhabogaa
open Go.RowKit Go.IntWalk

theorem run_max2 {P : Program} (w : World) (ts : Array TypeId) (t : TypeId) (k : IntKind) (x y v : Int) (hv : v = max x y) : (Builtin.max_ ts t #[.int k x, .int k y]).run P w = .ok (.int k v) w := by
  have h : (Builtin.max_ ts t #[.int k x, .int k y]).run P w = .ok (.int k (if x < y then y else x)) w := by
    simp [Builtin.max_, Builtin.max2]
  rw [h, hv]
  congr 2
  split <;> omega
theorem run_min2h {P : Program} (w : World) (ts : Array TypeId) (t : TypeId) (k : IntKind) (x y v : Int) (hv : v = min x y) : (Builtin.min_ ts t #[.int k x, .int k y]).run P w = .ok (.int k v) w := by
  have h : (Builtin.min_ ts t #[.int k x, .int k y]).run P w = .ok (.int k (if y < x then y else x)) w := by
    simp [Builtin.min_, Builtin.min2]
  rw [h, hv]
  congr 2
  split <;> omega
set_option maxHeartbeats 1000000 in
theorem traRows_is (a : Option Addr) (n c : Nat) (l : List Mk) (w : World) (h : MkAt w a n c l) (hn : n ≤ 524288) (h64 : Mk64 l) :
    Calls Try.prog 20 #[.slice a n c] w fun r w' => ∃ v, r = .returned v ∧ OwnHt w' w.heap.size 40 v (tRows l) ∧ Below w.heap.size w w' := by
  have hg := traGathered_is a n c l w h hn h64
  have hgl : (gRows l).length ≤ 1048576 := by have := gRows_len l; have := h.len; omega
  clear h
  go_enter Try.func20, Try.ntmps20
  go_wp2_with (first
    | (go_at_call 27; ((with_reducible refine hg.mono ?_); rintro r w1 ⟨v, rfl, o1, b1⟩))
    | (go_at_call 28; (refine (sortSpot_is l o1 hgl rfl).mono ?_; rintro r w2 ⟨rfl, o2, g2⟩)))
  go_ret
  exact ⟨_, rfl, o2, b1.grown g2 b1.size fun q hq => (OwnEl.lt o1 q hq).1⟩
theorem clip_is (a : Option Addr) (n c : Nat) (w : World) (hc : n ≤ c) : Calls Try.prog 33 #[.slice a n c] w fun r w' => r = .returned (.slice a n n) ∧ w = w' := by
  have hsl : ∀ w, (Instr.slice 35 (.slice a n c) none (some (.int .i64 n)) (some (.int .i64 n))).run Try.prog w = .ok (.slice a n n) w := fun w => by
    have e : (Instr.slice 35 (.slice a n c) none (some (.int .i64 n)) (some (.int .i64 n))).run Try.prog w = .ok (sliced a 0 n n 4) w := by
      rw [run_slice_hm (w := w) 35 a n c Try.underlying35 .i64 .i64 n n (by omega) (by omega) (by omega), show (Go.sizeOf (Try.prog.elem 35)).run Try.prog w = .ok 4 w from Try.sizeOf40 w]
      rfl
    rw [e, sliced_to]
  go_enter Try.func33, Try.ntmps33
  go_wp2
  go_ret
  exact ⟨rfl, rfl⟩
set_option maxHeartbeats 1000000 in
theorem traTop_is (a : Option Addr) (n c : Nat) (q : Int) (l : List Mk) (w : World) (h : MkAt w a n c l) (hn : n ≤ 524288) (h64 : Mk64 l) :
    Calls Try.prog 22 #[.slice a n c, .int .i64 q] w fun r w' => ∃ a' m, r = .returned (.slice a' m m) ∧ HtAt w' a' m m (tTop l q) ∧ Below w.heap.size w w' := by
  have hg := traGathered_is a n c l w h hn h64
  have hgl : (gRows l).length ≤ 1048576 := by have := gRows_len l; have := h.len; omega
  obtain ⟨m, hm⟩ : ∃ m, (tMost l).length = m := ⟨_, rfl⟩
  have hm2 : (tRows l).length = m := by rw [← tMost_len]; exact hm
  obtain ⟨X, hX⟩ : ∃ X : Nat, (X : Int) = max q 0 := ⟨q.toNat, by omega⟩
  obtain ⟨N, hN⟩ : ∃ N : Nat, (N : Int) = min (X : Int) m := ⟨min X m, by omega⟩
  have hmax := fun w => run_max2 (P := Try.prog) w #[3, 3] 3 .i64 q 0 X hX
  have hmin := fun w => run_min2h (P := Try.prog) w #[3, 3] 3 .i64 X m N hN
  have hNm : N ≤ m := by omega
  have HT := Lib.hid (show tTop l q = (tMost l).take N by
    unfold tTop
    congr 1
    rw [hm2]
    omega)
  have HM := Lib.hid hm
  clear h hm hm2 hX hN
  have hsl : ∀ (a : Option Addr) (c : Nat) w, m ≤ c → (Instr.slice 35 (.slice a m c) none (some (.int .i64 N)) none).run Try.prog w = .ok (.slice a N c) w := fun a c w hc => by rw [run_cut_to 35 Try.underlying35 (s := 4) (fun w => Try.sizeOf40 w) a m c N (by omega) w, sliced_to]
  have HS := Lib.hid hsl
  clear hsl
  go_enter Try.func22, Try.ntmps22
  go_wp2_with (first
    | (go_at_call 27; ((with_reducible refine hg.mono ?_); rintro r w1 ⟨v, rfl, o1, b1⟩))
    | (go_at_call 28; (refine (sortCost_is l o1 hgl rfl).mono ?_; rintro r w2 ⟨rfl, o2, g2⟩; obtain ⟨a', c', rfl, hat⟩ := OwnEl.at o2; rw [HM.out] at hat o2 g2; rw [HM.out]; have hcap := hat.cap; have hsl2 := fun w => HS.out a' c' w hcap))
    | (go_at_call 33; ((refine (clip_is a' N c' _ (by omega)).mono ?_); rintro r w3 ⟨rfl, rfl⟩)))
  go_ret
  refine ⟨a', N, rfl, ?_, b1.grown g2 b1.size fun z hz => (OwnEl.lt o2 z hz).1⟩
  rw [HT.out]
  exact (hat.pre hNm).clip (Nat.le_refl _) (by omega)
end Go.Proofs.Ythmojdmdhabogaa
