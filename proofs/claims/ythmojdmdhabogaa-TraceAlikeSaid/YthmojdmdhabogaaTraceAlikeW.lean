/- Within TraceAlike: for every two slices of marks the call returns true; nothing that was there is changed. Conditions: the slices' cells are as the program lays them. -/
import Derived.Test.YthmojdmdhabogaaTraN
import Derived.Test.YthmojdmdhabogaaRgS
namespace Go.Proofs.Ythmojdmdhabogaa.traceAlike
open Go.RowKit Go.IntWalk

theorem cost_parts (l : List Mk) (k : Nat) : wrap64 (tCost (l.take k) + tCost (l.drop k)) = tCost l := by
  unfold tCost
  rw [w64_add, w64_addr, ← exC_app, List.take_append_drop]
theorem takes_same {l l' : List Mk} {k : Nat} (h : k ≤ comm l l') : l.take k = l'.take k := by
  have hc := comm_le l l'
  refine List.ext_getElem (by simp; omega) fun i h1 h2 => ?_
  have hi : i < k := by simp at h1; omega
  rw [List.getElem_take, List.getElem_take, mkAt_eq (by omega), mkAt_eq (by omega)]
  exact comm_same l l' i (by omega)
/-- What a region that calls keeps. -/
structure KeepsB (S : World → Prop) : Prop where
  on : ∀ w w', S w → Below w.heap.size w w' → S w'
section
variable {S : World → Prop} (hS : KeepsB S) {a : Option Addr} {n c : Nat} {l : List Mk} {w0 w : World}
include hS
theorem cost_S {x : Int} (h : MkAt w0 a n c l) (hw : S w → Below w0.heap.size w0 w) (hx : tCost l = x) (hs : S w) : Calls Try.prog 8 #[.slice a n c] w fun e w' => e = .returned (.int .i64 x) ∧ S w' :=
  (traCost_v (h.keep (hw hs)) hx).mono fun _ _ ⟨he, hb⟩ => ⟨he, hS.on _ _ hs hb⟩
theorem first_S {x : Int} {a' : Option Addr} {n' c' : Nat} {l' : List Mk} (h : MkAt w0 a n c l) (h' : MkAt w0 a' n' c' l') (hw : S w → Below w0.heap.size w0 w) (hx : tFirst l l' = x) (hs : S w) : Calls Try.prog 12 #[.slice a n c, .slice a' n' c'] w fun e w' => e = .returned (.int .i64 x) ∧ S w' :=
  (traFirst_v (h.keep (hw hs)) (h'.keep (hw hs)) hx).mono fun _ _ ⟨he, hb⟩ => ⟨he, hS.on _ _ hs hb⟩
theorem awake_S (hs : S w) : Calls Try.prog 7 #[] w fun e w' => e = .returned (.bool true) ∧ S w' :=
  (traAwake_is w).mono fun _ _ ⟨he, hb⟩ => ⟨he, hS.on _ _ hs hb⟩
end
theorem keeps_below (w0 : World) : KeepsB fun w => Below w0.heap.size w0 w := ⟨fun _ _ h k => h.trans (k.mono h.size)⟩
/-- Six cells, and what was there. -/
abbrev Six (w0 : World) (g o g' o' : Nat) (u0 u1 u2 v0 v1 v2 : Value) (w : World) : Prop :=
  ((w.cell? ⟨g, o, none⟩ = some u0 ∧ w.cell? ⟨g, o + 1, none⟩ = some u1 ∧ w.cell? ⟨g, o + 2, none⟩ = some u2) ∧ (w.cell? ⟨g', o', none⟩ = some v0 ∧ w.cell? ⟨g', o' + 1, none⟩ = some v1 ∧ w.cell? ⟨g', o' + 2, none⟩ = some v2)) ∧ Below w0.heap.size w0 w
theorem keeps_six (w0 : World) (g o g' o' : Nat) (u0 u1 u2 v0 v1 v2 : Value) : KeepsB (Six w0 g o g' o' u0 u1 u2 v0 v1 v2) :=
  ⟨fun w w' ⟨⟨⟨x0, x1, x2⟩, y0, y1, y2⟩, hb⟩ k =>
    have f : ∀ {b i : Nat} {v : Value}, w.cell? ⟨b, i, none⟩ = some v → w'.cell? ⟨b, i, none⟩ = some v := fun h => (k.cell (p := ⟨_, _, none⟩) (cell_lt h)).trans h
    ⟨⟨⟨f x0, f x1, f x2⟩, f y0, f y1, f y2⟩, hb.trans (k.mono hb.size)⟩⟩

set_option maxRecDepth 10000 in
set_option maxHeartbeats 8000000 in
theorem walk (a0 : Option Addr) (n0 c0 : Nat) (l0 : List Mk) (a1 : Option Addr) (n1 c1 : Nat) (l1 : List Mk) (w : World) (h0 : MkAt w a0 n0 c0 l0 ∧ Mk64 l0) (h1 : MkAt w a1 n1 c1 l1 ∧ Mk64 l1) :
    Calls Try.prog 4 #[.slice a0 n0 c0, .slice a1 n1 c1] w fun e w' => e = .returned (.bool true) ∧ Below w.heap.size w w' := by
  have hbig0 := h0.1.big
  have hbig1 := h1.1.big
  have hcap0 := h0.1.cap
  have hcap1 := h1.1.cap
  unfold maxLen at hbig0 hbig1
  by_cases e0 : 500 < n0
  · have e0' : (500 : Int) < n0 := by omega
    clear h0 h1
    go_enter Try.func4, Try.ntmps4
    go_wp2_with (go_at_call 7; ((with_reducible refine (traAwake_is _).mono ?_); rintro r w1 ⟨rfl, b1⟩))
    go_ret
    exact ⟨rfl, b1⟩
  · have e0' : (n0 : Int) ≤ 500 := by omega
    by_cases e1 : 500 < n1
    · have e1' : (500 : Int) < n1 := by omega
      clear h0 h1
      go_enter Try.func4, Try.ntmps4
      go_wp2_with (go_at_call 7; ((with_reducible refine (traAwake_is _).mono ?_); rintro r w1 ⟨rfl, b1⟩))
      go_ret
      exact ⟨rfl, b1⟩
    · have e1' : (n1 : Int) ≤ 500 := by omega
      have hlen0 := h0.1.len
      have hlen1 := h1.1.len
      have H0 := Lib.hid h0.1
      have H1 := Lib.hid h1.1
      have HB0 := Lib.hid (Below.refl w.heap.size w)
      obtain ⟨x, hx⟩ : ∃ x, tCost l0 = x := ⟨_, rfl⟩
      have HX := Lib.hid hx
      clear h0 h1 hx
      by_cases hz : tFirst l0 l1 = -1
      · have hs := tFirst_none hz
        subst hs
        obtain rfl : n0 = n1 := by omega
        have HZ := Lib.hid hz
        clear hz hlen0 hlen1
        go_enter Try.func4, Try.ntmps4
        go_wp2_with (first
          | (go_at_call 12; ((with_reducible refine (traFirst_v (H0.out.keep HB0.out) (H1.out.keep HB0.out) HZ.out).mono ?_); rintro r w1 ⟨rfl, b1⟩); have B1 := Lib.hid (bel_on HB0.out b1 HB0.out.size); clear b1)
          | (go_at_call 12; ((with_reducible refine (traFirst_v (H1.out.keep B1.out) (H0.out.keep B1.out) HZ.out).mono ?_); rintro r w2 ⟨rfl, b2⟩); have B2 := Lib.hid (bel_on B1.out b2 B1.out.size); clear b2)
          | (go_at_call 8; ((with_reducible refine (traCost_v (H0.out.keep B2.out) HX.out).mono ?_); rintro r w3 ⟨rfl, b3⟩); have B3 := Lib.hid (bel_on B2.out b3 B2.out.size); clear b3)
          | (go_at_call 8; ((with_reducible refine (traCost_v (H1.out.keep B3.out) HX.out).mono ?_); rintro r w4 ⟨rfl, b4⟩); have B4 := Lib.hid (bel_on B3.out b4 B3.out.size); clear b4)
          | (go_at_call 7; ((with_reducible refine (traAwake_is _).mono ?_); rintro r w5 ⟨rfl, b5⟩); have B5 := Lib.hid (bel_on B4.out b5 B4.out.size); clear b5))
        go_ret
        exact ⟨rfl, B5.out⟩
      · have hz2 := tFirst_some hz
        have hc := comm_le l0 l1
        obtain ⟨N, hN⟩ : ∃ N, comm l0 l1 = N := ⟨_, rfl⟩
        rw [hN] at hz2 hc
        rw [hlen0, hlen1] at hc
        have HT := Lib.hid (takes_same (l := l0) (l' := l1) (k := N) (by omega))
        have hstop : N < n0 → N < n1 → mkAt l0 N ≠ mkAt l1 N := fun q1 q2 => by
          have := comm_stop l0 l1 (by omega) (by omega)
          rwa [hN] at this
        have HZ := Lib.hid hz2
        have HZ' := Lib.hid (show tFirst l1 l0 = (N : Int) by rw [tFirst_swap]; exact hz2)
        have HF := Lib.hid (show tFirst (l0.take N) (l1.take N) = -1 by rw [← HT.out]; exact tFirst_refl _)
        have HTK0 := Lib.hid (H0.out.to hc.1)
        have HTK1 := Lib.hid (H1.out.to hc.2)
        obtain ⟨a2, c2, hs2, hd2⟩ := H0.out.from (m := N) hc.1
        obtain ⟨d, hd⟩ : ∃ d, n0 - N = d := ⟨_, rfl⟩
        rw [hd] at hs2 hd2
        have HD0 := Lib.hid hd2
        obtain ⟨y0, hy0⟩ : ∃ y, tCost (l0.take N) = y := ⟨_, rfl⟩
        obtain ⟨y1, hy1⟩ : ∃ y, tCost (l0.drop N) = y := ⟨_, rfl⟩
        have HY0 := Lib.hid hy0
        have HY1 := Lib.hid hy1
        have hsum : IntKind.i64.wrap (y0 + y1) = x := by rw [IntWalk.i64_left, ← hy0, ← hy1, cost_parts, HX.out]
        have hsl0 : ∀ w, (Instr.slice 22 (.slice a0 n0 c0) none (some (.int .i64 N)) none).run Try.prog w = .ok (.slice a0 N c0) w := fun w => by rw [run_cut_to 22 Try.underlying22 (s := 3) (fun w => Try.sizeOf32 w) a0 n0 c0 N (by omega) w, sliced_to]
        have hsl1 : ∀ w, (Instr.slice 22 (.slice a1 n1 c1) none (some (.int .i64 N)) none).run Try.prog w = .ok (.slice a1 N c1) w := fun w => by rw [run_cut_to 22 Try.underlying22 (s := 3) (fun w => Try.sizeOf32 w) a1 n1 c1 N (by omega) w, sliced_to]
        have hsl2 : ∀ w, (Instr.slice 22 (.slice a0 n0 c0) (some (.int .i64 N)) none none).run Try.prog w = .ok (.slice a2 d c2) w := fun w => by rw [run_cut_from 22 Try.underlying22 (s := 3) (fun w => Try.sizeOf32 w) a0 n0 c0 N hc.1 w, hs2]
        obtain ⟨hc1, hc2⟩ := hc
        have g1 : (N : Int) ≤ n0 := by omega
        have g2 : (N : Int) ≤ n1 := by omega
        clear hz hz2 hN hy0 hy1 hs2 hd2 hd
        by_cases q0 : N = n0
        · subst q0
          have f0 : ((N : Int) == (N : Int)) = true := by simp
          have f9 : (x == x) = true := by simp
          obtain rfl : y0 = x := by rw [← HY0.out, ← HX.out, List.take_of_length_le (by omega)]
          go_enter Try.func4, Try.ntmps4
          go_wp2_with (first
            | (go_at_call 12; ((with_reducible refine (traFirst_v (H0.out.keep HB0.out) (H1.out.keep HB0.out) HZ.out).mono ?_); rintro r w1 ⟨rfl, b1⟩); have B1 := Lib.hid (bel_on HB0.out b1 HB0.out.size); clear b1)
            | (go_at_call 12; ((with_reducible refine (traFirst_v (H1.out.keep B1.out) (H0.out.keep B1.out) HZ'.out).mono ?_); rintro r w2 ⟨rfl, b2⟩); have B2 := Lib.hid (bel_on B1.out b2 B1.out.size); clear b2))
          have hS0 : Below w.heap.size w w2.drew := B2.out.drew
          have KS := Lib.hid (keeps_below w)
          have K1 := Lib.hid (fun w' (h : (fun w' => Below w.heap.size w w') w') => first_S KS.out HTK0.out HTK1.out (w := w') (fun h => h) HF.out h)
          have K2 := Lib.hid (fun w' (h : (fun w' => Below w.heap.size w w') w') => cost_S KS.out HTK0.out (w := w') (fun h => h) HY0.out h)
          have K3 := Lib.hid (fun w' (h : (fun w' => Below w.heap.size w w') w') => cost_S KS.out HD0.out (w := w') (fun h => h) HY1.out h)
          have K4 := Lib.hid (fun w' (h : (fun w' => Below w.heap.size w w') w') => cost_S KS.out H0.out (w := w') (fun h => h) HX.out h)
          have K5 := Lib.hid (fun w' (h : (fun w' => Below w.heap.size w w') w') => awake_S KS.out (w := w') h)
          refine wp_region_held_drew (S := fun w' => Below w.heap.size w w') (by kernel_rfl) ?_ (fun hH0 => ?_)
          · (try dsimp only); first | with_reducible assumption
          (refine any_take (v := ?_) 0 rfl (by kernel_rfl) (by kernel_rfl) (by kernel_rfl) (fun _ _ _ h => h) (by rfl) ?_ (by assumption) ?_; rotate_left; (intro w hSw; (try dsimp only at hSw); go_simp; try with_reducible rfl); try simp only [Act.put, List.setIfInBounds_toArray, List.set_cons_zero, List.set_cons_succ])
          (refine any_take (v := ?_) 1 rfl (by kernel_rfl) (by kernel_rfl) (by kernel_rfl) (fun _ _ _ h => h) (by rfl) ?_ (by assumption) ?_; rotate_left; (intro w hSw; (try dsimp only at hSw); go_simp; try with_reducible rfl); try simp only [Act.put, List.setIfInBounds_toArray, List.set_cons_zero, List.set_cons_succ])
          (refine any_take (v := ?_) 2 rfl (by kernel_rfl) (by kernel_rfl) (by kernel_rfl) (fun _ _ _ h => h) (by rfl) ?_ (by assumption) ?_; rotate_left; (intro w hSw; (try dsimp only at hSw); go_simp; try with_reducible rfl); try simp only [Act.put, List.setIfInBounds_toArray, List.set_cons_zero, List.set_cons_succ])
          (refine any_take (v := ?_) 3 rfl (by kernel_rfl) (by kernel_rfl) (by kernel_rfl) (fun _ _ _ h => h) (by rfl) ?_ (by assumption) ?_; rotate_left; (intro w hSw; (try dsimp only at hSw); go_simp; try with_reducible rfl); try simp only [Act.put, List.setIfInBounds_toArray, List.set_cons_zero, List.set_cons_succ])
          (refine any_take (v := ?_) 4 rfl (by kernel_rfl) (by kernel_rfl) (by kernel_rfl) (fun _ _ _ h => h) (by rfl) ?_ (by assumption) ?_; rotate_left; (intro w hSw; (try dsimp only at hSw); go_simp; try with_reducible rfl); try simp only [Act.put, List.setIfInBounds_toArray, List.set_cons_zero, List.set_cons_succ])
          (refine any_take (v := ?_) 5 rfl (by kernel_rfl) (by kernel_rfl) (by kernel_rfl) (fun _ _ _ h => h) (by rfl) ?_ (by assumption) ?_; rotate_left; (intro w hSw; (try dsimp only at hSw); go_simp; try with_reducible rfl); try simp only [Act.put, List.setIfInBounds_toArray, List.set_cons_zero, List.set_cons_succ])
          refine any_one 6 (by kernel_rfl) rfl (by rfl) (fun K hK => ?_)
          go_simp
          (first
              | (go_at_call 12; ((with_reducible refine (K1.out _ (by assumption)).mono ?_); rintro e w3 ⟨rfl, hS⟩))
              | (go_at_call 8; ((with_reducible refine (K2.out _ (by assumption)).mono ?_); rintro e w3 ⟨rfl, hS⟩))
              | (go_at_call 8; ((with_reducible refine (K3.out _ (by assumption)).mono ?_); rintro e w3 ⟨rfl, hS⟩))
              | (go_at_call 8; ((with_reducible refine (K4.out _ (by assumption)).mono ?_); rintro e w3 ⟨rfl, hS⟩))
              | (go_at_call 7; ((with_reducible refine (K5.out _ (by assumption)).mono ?_); rintro e w3 ⟨rfl, hS⟩)))
          first | refine hK.out _ _ ?_ (fun hH6 => ?_) | (go_wp2_with fail; refine hK.out _ _ ?_ (fun hH6 => ?_))
          · (try dsimp only); first | with_reducible assumption
          clear hK K hH0
          try simp only [Act.put, List.setIfInBounds_toArray, List.set_cons_zero, List.set_cons_succ]
          (refine any_take (v := ?_) 7 rfl (by kernel_rfl) (by kernel_rfl) (by kernel_rfl) (fun _ _ _ h => h) (by rfl) ?_ (by assumption) ?_; rotate_left; (intro w hSw; (try dsimp only at hSw); go_simp; try with_reducible rfl); try simp only [Act.put, List.setIfInBounds_toArray, List.set_cons_zero, List.set_cons_succ])
          (refine any_take (v := ?_) 8 rfl (by kernel_rfl) (by kernel_rfl) (by kernel_rfl) (fun _ _ _ h => h) (by rfl) ?_ (by assumption) ?_; rotate_left; (intro w hSw; (try dsimp only at hSw); go_simp; try with_reducible rfl); try simp only [Act.put, List.setIfInBounds_toArray, List.set_cons_zero, List.set_cons_succ])
          (refine any_take (v := ?_) 9 rfl (by kernel_rfl) (by kernel_rfl) (by kernel_rfl) (fun _ _ _ h => h) (by rfl) ?_ (by assumption) ?_; rotate_left; (intro w hSw; (try dsimp only at hSw); go_simp; try with_reducible rfl); try simp only [Act.put, List.setIfInBounds_toArray, List.set_cons_zero, List.set_cons_succ])
          (refine any_take (v := ?_) 10 rfl (by kernel_rfl) (by kernel_rfl) (by kernel_rfl) (fun _ _ _ h => h) (by rfl) ?_ (by assumption) ?_; rotate_left; (intro w hSw; (try dsimp only at hSw); go_simp; try with_reducible rfl); try simp only [Act.put, List.setIfInBounds_toArray, List.set_cons_zero, List.set_cons_succ])
          (refine any_take (v := ?_) 11 rfl (by kernel_rfl) (by kernel_rfl) (by kernel_rfl) (fun _ _ _ h => h) (by rfl) ?_ (by assumption) ?_; rotate_left; (intro w hSw; (try dsimp only at hSw); go_simp; try with_reducible rfl); try simp only [Act.put, List.setIfInBounds_toArray, List.set_cons_zero, List.set_cons_succ])
          (refine any_take (v := ?_) 12 rfl (by kernel_rfl) (by kernel_rfl) (by kernel_rfl) (fun _ _ _ h => h) (by rfl) ?_ (by assumption) ?_; rotate_left; (intro w hSw; (try dsimp only at hSw); go_simp; try with_reducible rfl); try simp only [Act.put, List.setIfInBounds_toArray, List.set_cons_zero, List.set_cons_succ])
          (refine any_take (v := ?_) 13 rfl (by kernel_rfl) (by kernel_rfl) (by kernel_rfl) (fun _ _ _ h => h) (by rfl) ?_ (by assumption) ?_; rotate_left; (intro w hSw; (try dsimp only at hSw); go_simp; try with_reducible rfl); try simp only [Act.put, List.setIfInBounds_toArray, List.set_cons_zero, List.set_cons_succ])
          (refine any_pass 14 rfl (by kernel_rfl) (by kernel_rfl) (by kernel_rfl) (fun _ _ _ h => h) (by rfl) (by assumption) ?_; try simp only [Act.put, List.setIfInBounds_toArray, List.set_cons_zero, List.set_cons_succ])
          (refine any_pass 15 rfl (by kernel_rfl) (by kernel_rfl) (by kernel_rfl) (fun _ _ _ h => h) (by rfl) (by assumption) ?_; try simp only [Act.put, List.setIfInBounds_toArray, List.set_cons_zero, List.set_cons_succ])
          (refine any_pass 16 rfl (by kernel_rfl) (by kernel_rfl) (by kernel_rfl) (fun _ _ _ h => h) (by rfl) (by assumption) ?_; try simp only [Act.put, List.setIfInBounds_toArray, List.set_cons_zero, List.set_cons_succ])
          (refine any_pass 17 rfl (by kernel_rfl) (by kernel_rfl) (by kernel_rfl) (fun _ _ _ h => h) (by rfl) (by assumption) ?_; try simp only [Act.put, List.setIfInBounds_toArray, List.set_cons_zero, List.set_cons_succ])
          (refine any_take (v := ?_) 18 rfl (by kernel_rfl) (by kernel_rfl) (by kernel_rfl) (fun _ _ _ h => h) (by rfl) ?_ (by assumption) ?_; rotate_left; (intro w hSw; (try dsimp only at hSw); go_simp; try with_reducible rfl); try simp only [Act.put, List.setIfInBounds_toArray, List.set_cons_zero, List.set_cons_succ])
          (refine any_take (v := ?_) 19 rfl (by kernel_rfl) (by kernel_rfl) (by kernel_rfl) (fun _ _ _ h => h) (by rfl) ?_ (by assumption) ?_; rotate_left; (intro w hSw; (try dsimp only at hSw); go_simp; try with_reducible rfl); try simp only [Act.put, List.setIfInBounds_toArray, List.set_cons_zero, List.set_cons_succ])
          (refine any_pass 20 rfl (by kernel_rfl) (by kernel_rfl) (by kernel_rfl) (fun _ _ _ h => h) (by rfl) (by assumption) ?_; try simp only [Act.put, List.setIfInBounds_toArray, List.set_cons_zero, List.set_cons_succ])
          (refine any_pass 21 rfl (by kernel_rfl) (by kernel_rfl) (by kernel_rfl) (fun _ _ _ h => h) (by rfl) (by assumption) ?_; try simp only [Act.put, List.setIfInBounds_toArray, List.set_cons_zero, List.set_cons_succ])
          (refine any_pass 22 rfl (by kernel_rfl) (by kernel_rfl) (by kernel_rfl) (fun _ _ _ h => h) (by rfl) (by assumption) ?_; try simp only [Act.put, List.setIfInBounds_toArray, List.set_cons_zero, List.set_cons_succ])
          (refine any_pass 23 rfl (by kernel_rfl) (by kernel_rfl) (by kernel_rfl) (fun _ _ _ h => h) (by rfl) (by assumption) ?_; try simp only [Act.put, List.setIfInBounds_toArray, List.set_cons_zero, List.set_cons_succ])
          (refine any_pass 24 rfl (by kernel_rfl) (by kernel_rfl) (by kernel_rfl) (fun _ _ _ h => h) (by rfl) (by assumption) ?_; try simp only [Act.put, List.setIfInBounds_toArray, List.set_cons_zero, List.set_cons_succ])
          (refine any_pass 25 rfl (by kernel_rfl) (by kernel_rfl) (by kernel_rfl) (fun _ _ _ h => h) (by rfl) (by assumption) ?_; try simp only [Act.put, List.setIfInBounds_toArray, List.set_cons_zero, List.set_cons_succ])
          (refine any_pass 26 rfl (by kernel_rfl) (by kernel_rfl) (by kernel_rfl) (fun _ _ _ h => h) (by rfl) (by assumption) ?_; try simp only [Act.put, List.setIfInBounds_toArray, List.set_cons_zero, List.set_cons_succ])
          (refine any_pass 27 rfl (by kernel_rfl) (by kernel_rfl) (by kernel_rfl) (fun _ _ _ h => h) (by rfl) (by assumption) ?_; try simp only [Act.put, List.setIfInBounds_toArray, List.set_cons_zero, List.set_cons_succ])
          (refine any_pass 28 rfl (by kernel_rfl) (by kernel_rfl) (by kernel_rfl) (fun _ _ _ h => h) (by rfl) (by assumption) ?_; try simp only [Act.put, List.setIfInBounds_toArray, List.set_cons_zero, List.set_cons_succ])
          (refine any_take (v := ?_) 29 rfl (by kernel_rfl) (by kernel_rfl) (by kernel_rfl) (fun _ _ _ h => h) (by rfl) ?_ (by assumption) ?_; rotate_left; (intro w hSw; (try dsimp only at hSw); go_simp; try with_reducible rfl); try simp only [Act.put, List.setIfInBounds_toArray, List.set_cons_zero, List.set_cons_succ])
          (refine any_take (v := ?_) 30 rfl (by kernel_rfl) (by kernel_rfl) (by kernel_rfl) (fun _ _ _ h => h) (by rfl) ?_ (by assumption) ?_; rotate_left; (intro w hSw; (try dsimp only at hSw); go_simp; try with_reducible rfl); try simp only [Act.put, List.setIfInBounds_toArray, List.set_cons_zero, List.set_cons_succ])
          (refine any_take (v := ?_) 31 rfl (by kernel_rfl) (by kernel_rfl) (by kernel_rfl) (fun _ _ _ h => h) (by rfl) ?_ (by assumption) ?_; rotate_left; (intro w hSw; (try dsimp only at hSw); go_simp; try with_reducible rfl); try simp only [Act.put, List.setIfInBounds_toArray, List.set_cons_zero, List.set_cons_succ])
          (refine any_take (v := ?_) 32 rfl (by kernel_rfl) (by kernel_rfl) (by kernel_rfl) (fun _ _ _ h => h) (by rfl) ?_ (by assumption) ?_; rotate_left; (intro w hSw; (try dsimp only at hSw); go_simp; try with_reducible rfl); try simp only [Act.put, List.setIfInBounds_toArray, List.set_cons_zero, List.set_cons_succ])
          (refine any_take (v := ?_) 33 rfl (by kernel_rfl) (by kernel_rfl) (by kernel_rfl) (fun _ _ _ h => h) (by rfl) ?_ (by assumption) ?_; rotate_left; (intro w hSw; (try dsimp only at hSw); go_simp; try with_reducible rfl); try simp only [Act.put, List.setIfInBounds_toArray, List.set_cons_zero, List.set_cons_succ])
          (refine any_take (v := ?_) 34 rfl (by kernel_rfl) (by kernel_rfl) (by kernel_rfl) (fun _ _ _ h => h) (by rfl) ?_ (by assumption) ?_; rotate_left; (intro w hSw; (try dsimp only at hSw); go_simp; try with_reducible rfl); try simp only [Act.put, List.setIfInBounds_toArray, List.set_cons_zero, List.set_cons_succ])
          (refine any_take (v := ?_) 36 rfl (by kernel_rfl) (by kernel_rfl) (by kernel_rfl) (fun _ _ _ h => h) (by rfl) ?_ (by assumption) ?_; rotate_left; (intro w hSw; (try dsimp only at hSw); go_simp; try with_reducible rfl); try simp only [Act.put, List.setIfInBounds_toArray, List.set_cons_zero, List.set_cons_succ])
          (refine any_take (v := ?_) 37 rfl (by kernel_rfl) (by kernel_rfl) (by kernel_rfl) (fun _ _ _ h => h) (by rfl) ?_ (by assumption) ?_; rotate_left; (intro w hSw; (try dsimp only at hSw); go_simp; try with_reducible rfl); try simp only [Act.put, List.setIfInBounds_toArray, List.set_cons_zero, List.set_cons_succ])
          (refine any_take (v := ?_) 38 rfl (by kernel_rfl) (by kernel_rfl) (by kernel_rfl) (fun _ _ _ h => h) (by rfl) ?_ (by assumption) ?_; rotate_left; (intro w hSw; (try dsimp only at hSw); go_simp; try with_reducible rfl); try simp only [Act.put, List.setIfInBounds_toArray, List.set_cons_zero, List.set_cons_succ])
          (refine any_take (v := ?_) 41 rfl (by kernel_rfl) (by kernel_rfl) (by kernel_rfl) (fun _ _ _ h => h) (by rfl) ?_ (by assumption) ?_; rotate_left; (intro w hSw; (try dsimp only at hSw); go_simp; try with_reducible rfl); try simp only [Act.put, List.setIfInBounds_toArray, List.set_cons_zero, List.set_cons_succ])
          refine any_one 35 (by kernel_rfl) rfl (by rfl) (fun K hK => ?_)
          go_simp
          (first
              | (go_at_call 12; ((with_reducible refine (K1.out _ (by assumption)).mono ?_); rintro e w3 ⟨rfl, hS⟩))
              | (go_at_call 8; ((with_reducible refine (K2.out _ (by assumption)).mono ?_); rintro e w3 ⟨rfl, hS⟩))
              | (go_at_call 8; ((with_reducible refine (K3.out _ (by assumption)).mono ?_); rintro e w3 ⟨rfl, hS⟩))
              | (go_at_call 8; ((with_reducible refine (K4.out _ (by assumption)).mono ?_); rintro e w3 ⟨rfl, hS⟩))
              | (go_at_call 7; ((with_reducible refine (K5.out _ (by assumption)).mono ?_); rintro e w3 ⟨rfl, hS⟩)))
          first | refine hK.out _ _ ?_ (fun hH35 => ?_) | (go_wp2_with fail; refine hK.out _ _ ?_ (fun hH35 => ?_))
          · (try dsimp only); first | with_reducible assumption
          clear hK K hH6
          try simp only [Act.put, List.setIfInBounds_toArray, List.set_cons_zero, List.set_cons_succ]
          refine any_one 39 (by kernel_rfl) rfl (by rfl) (fun K hK => ?_)
          go_simp
          (first
              | (go_at_call 12; ((with_reducible refine (K1.out _ (by assumption)).mono ?_); rintro e w3 ⟨rfl, hS⟩))
              | (go_at_call 8; ((with_reducible refine (K2.out _ (by assumption)).mono ?_); rintro e w3 ⟨rfl, hS⟩))
              | (go_at_call 8; ((with_reducible refine (K3.out _ (by assumption)).mono ?_); rintro e w3 ⟨rfl, hS⟩))
              | (go_at_call 8; ((with_reducible refine (K4.out _ (by assumption)).mono ?_); rintro e w3 ⟨rfl, hS⟩))
              | (go_at_call 7; ((with_reducible refine (K5.out _ (by assumption)).mono ?_); rintro e w3 ⟨rfl, hS⟩)))
          first | refine hK.out _ _ ?_ (fun hH39 => ?_) | (go_wp2_with fail; refine hK.out _ _ ?_ (fun hH39 => ?_))
          · (try dsimp only); first | with_reducible assumption
          clear hK K hH35
          try simp only [Act.put, List.setIfInBounds_toArray, List.set_cons_zero, List.set_cons_succ]
          (refine any_take (v := ?_) 40 rfl (by kernel_rfl) (by kernel_rfl) (by kernel_rfl) (fun _ _ _ h => h) (by rfl) ?_ (by assumption) ?_; rotate_left; (intro w hSw; (try dsimp only at hSw); go_simp; try with_reducible rfl); try simp only [Act.put, List.setIfInBounds_toArray, List.set_cons_zero, List.set_cons_succ])
          refine any_one 42 (by kernel_rfl) rfl (by rfl) (fun K hK => ?_)
          go_simp
          (first
              | (go_at_call 12; ((with_reducible refine (K1.out _ (by assumption)).mono ?_); rintro e w3 ⟨rfl, hS⟩))
              | (go_at_call 8; ((with_reducible refine (K2.out _ (by assumption)).mono ?_); rintro e w3 ⟨rfl, hS⟩))
              | (go_at_call 8; ((with_reducible refine (K3.out _ (by assumption)).mono ?_); rintro e w3 ⟨rfl, hS⟩))
              | (go_at_call 8; ((with_reducible refine (K4.out _ (by assumption)).mono ?_); rintro e w3 ⟨rfl, hS⟩))
              | (go_at_call 7; ((with_reducible refine (K5.out _ (by assumption)).mono ?_); rintro e w3 ⟨rfl, hS⟩)))
          first | refine hK.out _ _ ?_ (fun hH42 => ?_) | (go_wp2_with fail; refine hK.out _ _ ?_ (fun hH42 => ?_))
          · (try dsimp only); first | with_reducible assumption
          clear hK K hH39
          try simp only [Act.put, List.setIfInBounds_toArray, List.set_cons_zero, List.set_cons_succ]
          (refine any_take (v := ?_) 43 rfl (by kernel_rfl) (by kernel_rfl) (by kernel_rfl) (fun _ _ _ h => h) (by rfl) ?_ (by assumption) ?_; rotate_left; (intro w hSw; (try dsimp only at hSw); go_simp; try with_reducible rfl); try simp only [Act.put, List.setIfInBounds_toArray, List.set_cons_zero, List.set_cons_succ])
          (refine any_take (v := ?_) 44 rfl (by kernel_rfl) (by kernel_rfl) (by kernel_rfl) (fun _ _ _ h => h) (by rfl) ?_ (by assumption) ?_; rotate_left; (intro w hSw; (try dsimp only at hSw); go_simp; try with_reducible rfl); try simp only [Act.put, List.setIfInBounds_toArray, List.set_cons_zero, List.set_cons_succ])
          (refine any_take (v := ?_) 45 rfl (by kernel_rfl) (by kernel_rfl) (by kernel_rfl) (fun _ _ _ h => h) (by rfl) ?_ (by assumption) ?_; rotate_left; (intro w hSw; (try dsimp only at hSw); go_simp; try with_reducible rfl); try simp only [Act.put, List.setIfInBounds_toArray, List.set_cons_zero, List.set_cons_succ])
          refine any_one 46 (by kernel_rfl) rfl (by rfl) (fun K hK => ?_)
          go_simp
          (first
              | (go_at_call 12; ((with_reducible refine (K1.out _ (by assumption)).mono ?_); rintro e w3 ⟨rfl, hS⟩))
              | (go_at_call 8; ((with_reducible refine (K2.out _ (by assumption)).mono ?_); rintro e w3 ⟨rfl, hS⟩))
              | (go_at_call 8; ((with_reducible refine (K3.out _ (by assumption)).mono ?_); rintro e w3 ⟨rfl, hS⟩))
              | (go_at_call 8; ((with_reducible refine (K4.out _ (by assumption)).mono ?_); rintro e w3 ⟨rfl, hS⟩))
              | (go_at_call 7; ((with_reducible refine (K5.out _ (by assumption)).mono ?_); rintro e w3 ⟨rfl, hS⟩)))
          first | refine hK.out _ _ ?_ (fun hH46 => ?_) | (go_wp2_with fail; refine hK.out _ _ ?_ (fun hH46 => ?_))
          · (try dsimp only); first | with_reducible assumption
          clear hK K hH42
          try simp only [Act.put, List.setIfInBounds_toArray, List.set_cons_zero, List.set_cons_succ]
          (refine any_take (v := ?_) 47 rfl (by kernel_rfl) (by kernel_rfl) (by kernel_rfl) (fun _ _ _ h => h) (by rfl) ?_ (by assumption) ?_; rotate_left; (intro w hSw; (try dsimp only at hSw); go_simp; try with_reducible rfl); try simp only [Act.put, List.setIfInBounds_toArray, List.set_cons_zero, List.set_cons_succ])
          (refine any_take (v := ?_) 48 rfl (by kernel_rfl) (by kernel_rfl) (by kernel_rfl) (fun _ _ _ h => h) (by rfl) ?_ (by assumption) ?_; rotate_left; (intro w hSw; (try dsimp only at hSw); go_simp; try with_reducible rfl); try simp only [Act.put, List.setIfInBounds_toArray, List.set_cons_zero, List.set_cons_succ])
          refine wpAnyH_done (by kernel_rfl) ?_ _
          all_goals
            go_wp2
            go_ret
            exact ⟨rfl, by first | assumption | exact (by assumption : _ ∧ _).2⟩
        · have f0 : ((N : Int) == n0) = false := by simp; omega
          have f0' : decide (N = n0) = false := decide_eq_false q0
          have f0'' : (N == n0) = false := by simpa using q0
          by_cases q1 : N = n1
          · subst q1
            have f1 : ((N : Int) == (N : Int)) = true := by simp
            have f9 : (x == x) = true := by simp
            go_enter Try.func4, Try.ntmps4
            go_wp2_with (first
              | (go_at_call 12; ((with_reducible refine (traFirst_v (H0.out.keep HB0.out) (H1.out.keep HB0.out) HZ.out).mono ?_); rintro r w1 ⟨rfl, b1⟩); have B1 := Lib.hid (bel_on HB0.out b1 HB0.out.size); clear b1)
              | (go_at_call 12; ((with_reducible refine (traFirst_v (H1.out.keep B1.out) (H0.out.keep B1.out) HZ'.out).mono ?_); rintro r w2 ⟨rfl, b2⟩); have B2 := Lib.hid (bel_on B1.out b2 B1.out.size); clear b2))
            have hS0 : Below w.heap.size w w2.drew := B2.out.drew
            have KS := Lib.hid (keeps_below w)
            have K1 := Lib.hid (fun w' (h : (fun w' => Below w.heap.size w w') w') => first_S KS.out HTK0.out HTK1.out (w := w') (fun h => h) HF.out h)
            have K2 := Lib.hid (fun w' (h : (fun w' => Below w.heap.size w w') w') => cost_S KS.out HTK0.out (w := w') (fun h => h) HY0.out h)
            have K3 := Lib.hid (fun w' (h : (fun w' => Below w.heap.size w w') w') => cost_S KS.out HD0.out (w := w') (fun h => h) HY1.out h)
            have K4 := Lib.hid (fun w' (h : (fun w' => Below w.heap.size w w') w') => cost_S KS.out H0.out (w := w') (fun h => h) HX.out h)
            have K5 := Lib.hid (fun w' (h : (fun w' => Below w.heap.size w w') w') => awake_S KS.out (w := w') h)
            refine wp_region_held_drew (S := fun w' => Below w.heap.size w w') (by kernel_rfl) ?_ (fun hH0 => ?_)
            · (try dsimp only); first | with_reducible assumption
            (refine any_take (v := ?_) 0 rfl (by kernel_rfl) (by kernel_rfl) (by kernel_rfl) (fun _ _ _ h => h) (by rfl) ?_ (by assumption) ?_; rotate_left; (intro w hSw; (try dsimp only at hSw); go_simp; try with_reducible rfl); try simp only [Act.put, List.setIfInBounds_toArray, List.set_cons_zero, List.set_cons_succ])
            (refine any_take (v := ?_) 1 rfl (by kernel_rfl) (by kernel_rfl) (by kernel_rfl) (fun _ _ _ h => h) (by rfl) ?_ (by assumption) ?_; rotate_left; (intro w hSw; (try dsimp only at hSw); go_simp; try with_reducible rfl); try simp only [Act.put, List.setIfInBounds_toArray, List.set_cons_zero, List.set_cons_succ])
            (refine any_take (v := ?_) 2 rfl (by kernel_rfl) (by kernel_rfl) (by kernel_rfl) (fun _ _ _ h => h) (by rfl) ?_ (by assumption) ?_; rotate_left; (intro w hSw; (try dsimp only at hSw); go_simp; try with_reducible rfl); try simp only [Act.put, List.setIfInBounds_toArray, List.set_cons_zero, List.set_cons_succ])
            (refine any_take (v := ?_) 3 rfl (by kernel_rfl) (by kernel_rfl) (by kernel_rfl) (fun _ _ _ h => h) (by rfl) ?_ (by assumption) ?_; rotate_left; (intro w hSw; (try dsimp only at hSw); go_simp; try with_reducible rfl); try simp only [Act.put, List.setIfInBounds_toArray, List.set_cons_zero, List.set_cons_succ])
            (refine any_take (v := ?_) 4 rfl (by kernel_rfl) (by kernel_rfl) (by kernel_rfl) (fun _ _ _ h => h) (by rfl) ?_ (by assumption) ?_; rotate_left; (intro w hSw; (try dsimp only at hSw); go_simp; try with_reducible rfl); try simp only [Act.put, List.setIfInBounds_toArray, List.set_cons_zero, List.set_cons_succ])
            (refine any_take (v := ?_) 5 rfl (by kernel_rfl) (by kernel_rfl) (by kernel_rfl) (fun _ _ _ h => h) (by rfl) ?_ (by assumption) ?_; rotate_left; (intro w hSw; (try dsimp only at hSw); go_simp; try with_reducible rfl); try simp only [Act.put, List.setIfInBounds_toArray, List.set_cons_zero, List.set_cons_succ])
            refine any_one 6 (by kernel_rfl) rfl (by rfl) (fun K hK => ?_)
            go_simp
            (first
                | (go_at_call 12; ((with_reducible refine (K1.out _ (by assumption)).mono ?_); rintro e w3 ⟨rfl, hS⟩))
                | (go_at_call 8; ((with_reducible refine (K2.out _ (by assumption)).mono ?_); rintro e w3 ⟨rfl, hS⟩))
                | (go_at_call 8; ((with_reducible refine (K3.out _ (by assumption)).mono ?_); rintro e w3 ⟨rfl, hS⟩))
                | (go_at_call 8; ((with_reducible refine (K4.out _ (by assumption)).mono ?_); rintro e w3 ⟨rfl, hS⟩))
                | (go_at_call 7; ((with_reducible refine (K5.out _ (by assumption)).mono ?_); rintro e w3 ⟨rfl, hS⟩)))
            first | refine hK.out _ _ ?_ (fun hH6 => ?_) | (go_wp2_with fail; refine hK.out _ _ ?_ (fun hH6 => ?_))
            · (try dsimp only); first | with_reducible assumption
            clear hK K hH0
            try simp only [Act.put, List.setIfInBounds_toArray, List.set_cons_zero, List.set_cons_succ]
            (refine any_take (v := ?_) 7 rfl (by kernel_rfl) (by kernel_rfl) (by kernel_rfl) (fun _ _ _ h => h) (by rfl) ?_ (by assumption) ?_; rotate_left; (intro w hSw; (try dsimp only at hSw); go_simp; try with_reducible rfl); try simp only [Act.put, List.setIfInBounds_toArray, List.set_cons_zero, List.set_cons_succ])
            (refine any_take (v := ?_) 8 rfl (by kernel_rfl) (by kernel_rfl) (by kernel_rfl) (fun _ _ _ h => h) (by rfl) ?_ (by assumption) ?_; rotate_left; (intro w hSw; (try dsimp only at hSw); go_simp; try with_reducible rfl); try simp only [Act.put, List.setIfInBounds_toArray, List.set_cons_zero, List.set_cons_succ])
            (refine any_take (v := ?_) 9 rfl (by kernel_rfl) (by kernel_rfl) (by kernel_rfl) (fun _ _ _ h => h) (by rfl) ?_ (by assumption) ?_; rotate_left; (intro w hSw; (try dsimp only at hSw); go_simp; try with_reducible rfl); try simp only [Act.put, List.setIfInBounds_toArray, List.set_cons_zero, List.set_cons_succ])
            (refine any_take (v := ?_) 10 rfl (by kernel_rfl) (by kernel_rfl) (by kernel_rfl) (fun _ _ _ h => h) (by rfl) ?_ (by assumption) ?_; rotate_left; (intro w hSw; (try dsimp only at hSw); go_simp; try with_reducible rfl); try simp only [Act.put, List.setIfInBounds_toArray, List.set_cons_zero, List.set_cons_succ])
            (refine any_take (v := ?_) 11 rfl (by kernel_rfl) (by kernel_rfl) (by kernel_rfl) (fun _ _ _ h => h) (by rfl) ?_ (by assumption) ?_; rotate_left; (intro w hSw; (try dsimp only at hSw); go_simp; try with_reducible rfl); try simp only [Act.put, List.setIfInBounds_toArray, List.set_cons_zero, List.set_cons_succ])
            (refine any_take (v := ?_) 12 rfl (by kernel_rfl) (by kernel_rfl) (by kernel_rfl) (fun _ _ _ h => h) (by rfl) ?_ (by assumption) ?_; rotate_left; (intro w hSw; (try dsimp only at hSw); go_simp; try with_reducible rfl); try simp only [Act.put, List.setIfInBounds_toArray, List.set_cons_zero, List.set_cons_succ])
            (refine any_take (v := ?_) 13 rfl (by kernel_rfl) (by kernel_rfl) (by kernel_rfl) (fun _ _ _ h => h) (by rfl) ?_ (by assumption) ?_; rotate_left; (intro w hSw; (try dsimp only at hSw); go_simp; try with_reducible rfl); try simp only [Act.put, List.setIfInBounds_toArray, List.set_cons_zero, List.set_cons_succ])
            (refine any_take (v := ?_) 14 rfl (by kernel_rfl) (by kernel_rfl) (by kernel_rfl) (fun _ _ _ h => h) (by rfl) ?_ (by assumption) ?_; rotate_left; (intro w hSw; (try dsimp only at hSw); go_simp; try with_reducible rfl); try simp only [Act.put, List.setIfInBounds_toArray, List.set_cons_zero, List.set_cons_succ])
            (refine any_take (v := ?_) 15 rfl (by kernel_rfl) (by kernel_rfl) (by kernel_rfl) (fun _ _ _ h => h) (by rfl) ?_ (by assumption) ?_; rotate_left; (intro w hSw; (try dsimp only at hSw); go_simp; try with_reducible rfl); try simp only [Act.put, List.setIfInBounds_toArray, List.set_cons_zero, List.set_cons_succ])
            (refine any_take (v := ?_) 16 rfl (by kernel_rfl) (by kernel_rfl) (by kernel_rfl) (fun _ _ _ h => h) (by rfl) ?_ (by assumption) ?_; rotate_left; (intro w hSw; (try dsimp only at hSw); go_simp; try with_reducible rfl); try simp only [Act.put, List.setIfInBounds_toArray, List.set_cons_zero, List.set_cons_succ])
            (refine any_take (v := ?_) 17 rfl (by kernel_rfl) (by kernel_rfl) (by kernel_rfl) (fun _ _ _ h => h) (by rfl) ?_ (by assumption) ?_; rotate_left; (intro w hSw; (try dsimp only at hSw); go_simp; try with_reducible rfl); try simp only [Act.put, List.setIfInBounds_toArray, List.set_cons_zero, List.set_cons_succ])
            (refine any_take (v := ?_) 18 rfl (by kernel_rfl) (by kernel_rfl) (by kernel_rfl) (fun _ _ _ h => h) (by rfl) ?_ (by assumption) ?_; rotate_left; (intro w hSw; (try dsimp only at hSw); go_simp; try with_reducible rfl); try simp only [Act.put, List.setIfInBounds_toArray, List.set_cons_zero, List.set_cons_succ])
            (refine any_take (v := ?_) 19 rfl (by kernel_rfl) (by kernel_rfl) (by kernel_rfl) (fun _ _ _ h => h) (by rfl) ?_ (by assumption) ?_; rotate_left; (intro w hSw; (try dsimp only at hSw); go_simp; try with_reducible rfl); try simp only [Act.put, List.setIfInBounds_toArray, List.set_cons_zero, List.set_cons_succ])
            (refine any_pass 20 rfl (by kernel_rfl) (by kernel_rfl) (by kernel_rfl) (fun _ _ _ h => h) (by rfl) (by assumption) ?_; try simp only [Act.put, List.setIfInBounds_toArray, List.set_cons_zero, List.set_cons_succ])
            (refine any_pass 21 rfl (by kernel_rfl) (by kernel_rfl) (by kernel_rfl) (fun _ _ _ h => h) (by rfl) (by assumption) ?_; try simp only [Act.put, List.setIfInBounds_toArray, List.set_cons_zero, List.set_cons_succ])
            (refine any_pass 22 rfl (by kernel_rfl) (by kernel_rfl) (by kernel_rfl) (fun _ _ _ h => h) (by rfl) (by assumption) ?_; try simp only [Act.put, List.setIfInBounds_toArray, List.set_cons_zero, List.set_cons_succ])
            (refine any_pass 23 rfl (by kernel_rfl) (by kernel_rfl) (by kernel_rfl) (fun _ _ _ h => h) (by rfl) (by assumption) ?_; try simp only [Act.put, List.setIfInBounds_toArray, List.set_cons_zero, List.set_cons_succ])
            (refine any_pass 24 rfl (by kernel_rfl) (by kernel_rfl) (by kernel_rfl) (fun _ _ _ h => h) (by rfl) (by assumption) ?_; try simp only [Act.put, List.setIfInBounds_toArray, List.set_cons_zero, List.set_cons_succ])
            (refine any_pass 25 rfl (by kernel_rfl) (by kernel_rfl) (by kernel_rfl) (fun _ _ _ h => h) (by rfl) (by assumption) ?_; try simp only [Act.put, List.setIfInBounds_toArray, List.set_cons_zero, List.set_cons_succ])
            (refine any_pass 26 rfl (by kernel_rfl) (by kernel_rfl) (by kernel_rfl) (fun _ _ _ h => h) (by rfl) (by assumption) ?_; try simp only [Act.put, List.setIfInBounds_toArray, List.set_cons_zero, List.set_cons_succ])
            (refine any_pass 27 rfl (by kernel_rfl) (by kernel_rfl) (by kernel_rfl) (fun _ _ _ h => h) (by rfl) (by assumption) ?_; try simp only [Act.put, List.setIfInBounds_toArray, List.set_cons_zero, List.set_cons_succ])
            (refine any_pass 28 rfl (by kernel_rfl) (by kernel_rfl) (by kernel_rfl) (fun _ _ _ h => h) (by rfl) (by assumption) ?_; try simp only [Act.put, List.setIfInBounds_toArray, List.set_cons_zero, List.set_cons_succ])
            (refine any_take (v := ?_) 29 rfl (by kernel_rfl) (by kernel_rfl) (by kernel_rfl) (fun _ _ _ h => h) (by rfl) ?_ (by assumption) ?_; rotate_left; (intro w hSw; (try dsimp only at hSw); go_simp; try with_reducible rfl); try simp only [Act.put, List.setIfInBounds_toArray, List.set_cons_zero, List.set_cons_succ])
            (refine any_take (v := ?_) 30 rfl (by kernel_rfl) (by kernel_rfl) (by kernel_rfl) (fun _ _ _ h => h) (by rfl) ?_ (by assumption) ?_; rotate_left; (intro w hSw; (try dsimp only at hSw); go_simp; try with_reducible rfl); try simp only [Act.put, List.setIfInBounds_toArray, List.set_cons_zero, List.set_cons_succ])
            (refine any_take (v := ?_) 31 rfl (by kernel_rfl) (by kernel_rfl) (by kernel_rfl) (fun _ _ _ h => h) (by rfl) ?_ (by assumption) ?_; rotate_left; (intro w hSw; (try dsimp only at hSw); go_simp; try with_reducible rfl); try simp only [Act.put, List.setIfInBounds_toArray, List.set_cons_zero, List.set_cons_succ])
            (refine any_take (v := ?_) 32 rfl (by kernel_rfl) (by kernel_rfl) (by kernel_rfl) (fun _ _ _ h => h) (by rfl) ?_ (by assumption) ?_; rotate_left; (intro w hSw; (try dsimp only at hSw); go_simp; try with_reducible rfl); try simp only [Act.put, List.setIfInBounds_toArray, List.set_cons_zero, List.set_cons_succ])
            (refine any_take (v := ?_) 33 rfl (by kernel_rfl) (by kernel_rfl) (by kernel_rfl) (fun _ _ _ h => h) (by rfl) ?_ (by assumption) ?_; rotate_left; (intro w hSw; (try dsimp only at hSw); go_simp; try with_reducible rfl); try simp only [Act.put, List.setIfInBounds_toArray, List.set_cons_zero, List.set_cons_succ])
            (refine any_take (v := ?_) 34 rfl (by kernel_rfl) (by kernel_rfl) (by kernel_rfl) (fun _ _ _ h => h) (by rfl) ?_ (by assumption) ?_; rotate_left; (intro w hSw; (try dsimp only at hSw); go_simp; try with_reducible rfl); try simp only [Act.put, List.setIfInBounds_toArray, List.set_cons_zero, List.set_cons_succ])
            (refine any_take (v := ?_) 36 rfl (by kernel_rfl) (by kernel_rfl) (by kernel_rfl) (fun _ _ _ h => h) (by rfl) ?_ (by assumption) ?_; rotate_left; (intro w hSw; (try dsimp only at hSw); go_simp; try with_reducible rfl); try simp only [Act.put, List.setIfInBounds_toArray, List.set_cons_zero, List.set_cons_succ])
            (refine any_take (v := ?_) 37 rfl (by kernel_rfl) (by kernel_rfl) (by kernel_rfl) (fun _ _ _ h => h) (by rfl) ?_ (by assumption) ?_; rotate_left; (intro w hSw; (try dsimp only at hSw); go_simp; try with_reducible rfl); try simp only [Act.put, List.setIfInBounds_toArray, List.set_cons_zero, List.set_cons_succ])
            (refine any_take (v := ?_) 38 rfl (by kernel_rfl) (by kernel_rfl) (by kernel_rfl) (fun _ _ _ h => h) (by rfl) ?_ (by assumption) ?_; rotate_left; (intro w hSw; (try dsimp only at hSw); go_simp; try with_reducible rfl); try simp only [Act.put, List.setIfInBounds_toArray, List.set_cons_zero, List.set_cons_succ])
            (refine any_take (v := ?_) 41 rfl (by kernel_rfl) (by kernel_rfl) (by kernel_rfl) (fun _ _ _ h => h) (by rfl) ?_ (by assumption) ?_; rotate_left; (intro w hSw; (try dsimp only at hSw); go_simp; try with_reducible rfl); try simp only [Act.put, List.setIfInBounds_toArray, List.set_cons_zero, List.set_cons_succ])
            refine any_one 35 (by kernel_rfl) rfl (by rfl) (fun K hK => ?_)
            go_simp
            (first
                | (go_at_call 12; ((with_reducible refine (K1.out _ (by assumption)).mono ?_); rintro e w3 ⟨rfl, hS⟩))
                | (go_at_call 8; ((with_reducible refine (K2.out _ (by assumption)).mono ?_); rintro e w3 ⟨rfl, hS⟩))
                | (go_at_call 8; ((with_reducible refine (K3.out _ (by assumption)).mono ?_); rintro e w3 ⟨rfl, hS⟩))
                | (go_at_call 8; ((with_reducible refine (K4.out _ (by assumption)).mono ?_); rintro e w3 ⟨rfl, hS⟩))
                | (go_at_call 7; ((with_reducible refine (K5.out _ (by assumption)).mono ?_); rintro e w3 ⟨rfl, hS⟩)))
            first | refine hK.out _ _ ?_ (fun hH35 => ?_) | (go_wp2_with fail; refine hK.out _ _ ?_ (fun hH35 => ?_))
            · (try dsimp only); first | with_reducible assumption
            clear hK K hH6
            try simp only [Act.put, List.setIfInBounds_toArray, List.set_cons_zero, List.set_cons_succ]
            refine any_one 39 (by kernel_rfl) rfl (by rfl) (fun K hK => ?_)
            go_simp
            (first
                | (go_at_call 12; ((with_reducible refine (K1.out _ (by assumption)).mono ?_); rintro e w3 ⟨rfl, hS⟩))
                | (go_at_call 8; ((with_reducible refine (K2.out _ (by assumption)).mono ?_); rintro e w3 ⟨rfl, hS⟩))
                | (go_at_call 8; ((with_reducible refine (K3.out _ (by assumption)).mono ?_); rintro e w3 ⟨rfl, hS⟩))
                | (go_at_call 8; ((with_reducible refine (K4.out _ (by assumption)).mono ?_); rintro e w3 ⟨rfl, hS⟩))
                | (go_at_call 7; ((with_reducible refine (K5.out _ (by assumption)).mono ?_); rintro e w3 ⟨rfl, hS⟩)))
            first | refine hK.out _ _ ?_ (fun hH39 => ?_) | (go_wp2_with fail; refine hK.out _ _ ?_ (fun hH39 => ?_))
            · (try dsimp only); first | with_reducible assumption
            clear hK K hH35
            try simp only [Act.put, List.setIfInBounds_toArray, List.set_cons_zero, List.set_cons_succ]
            (refine any_take (v := ?_) 40 rfl (by kernel_rfl) (by kernel_rfl) (by kernel_rfl) (fun _ _ _ h => h) (by rfl) ?_ (by assumption) ?_; rotate_left; (intro w hSw; (try dsimp only at hSw); go_simp; try with_reducible rfl); try simp only [Act.put, List.setIfInBounds_toArray, List.set_cons_zero, List.set_cons_succ])
            refine any_one 42 (by kernel_rfl) rfl (by rfl) (fun K hK => ?_)
            go_simp
            (first
                | (go_at_call 12; ((with_reducible refine (K1.out _ (by assumption)).mono ?_); rintro e w3 ⟨rfl, hS⟩))
                | (go_at_call 8; ((with_reducible refine (K2.out _ (by assumption)).mono ?_); rintro e w3 ⟨rfl, hS⟩))
                | (go_at_call 8; ((with_reducible refine (K3.out _ (by assumption)).mono ?_); rintro e w3 ⟨rfl, hS⟩))
                | (go_at_call 8; ((with_reducible refine (K4.out _ (by assumption)).mono ?_); rintro e w3 ⟨rfl, hS⟩))
                | (go_at_call 7; ((with_reducible refine (K5.out _ (by assumption)).mono ?_); rintro e w3 ⟨rfl, hS⟩)))
            first | refine hK.out _ _ ?_ (fun hH42 => ?_) | (go_wp2_with fail; refine hK.out _ _ ?_ (fun hH42 => ?_))
            · (try dsimp only); first | with_reducible assumption
            clear hK K hH39
            try simp only [Act.put, List.setIfInBounds_toArray, List.set_cons_zero, List.set_cons_succ]
            (refine any_take (v := ?_) 43 rfl (by kernel_rfl) (by kernel_rfl) (by kernel_rfl) (fun _ _ _ h => h) (by rfl) ?_ (by assumption) ?_; rotate_left; (intro w hSw; (try dsimp only at hSw); go_simp; try with_reducible rfl); try simp only [Act.put, List.setIfInBounds_toArray, List.set_cons_zero, List.set_cons_succ])
            (refine any_take (v := ?_) 44 rfl (by kernel_rfl) (by kernel_rfl) (by kernel_rfl) (fun _ _ _ h => h) (by rfl) ?_ (by assumption) ?_; rotate_left; (intro w hSw; (try dsimp only at hSw); go_simp; try with_reducible rfl); try simp only [Act.put, List.setIfInBounds_toArray, List.set_cons_zero, List.set_cons_succ])
            (refine any_take (v := ?_) 45 rfl (by kernel_rfl) (by kernel_rfl) (by kernel_rfl) (fun _ _ _ h => h) (by rfl) ?_ (by assumption) ?_; rotate_left; (intro w hSw; (try dsimp only at hSw); go_simp; try with_reducible rfl); try simp only [Act.put, List.setIfInBounds_toArray, List.set_cons_zero, List.set_cons_succ])
            refine any_one 46 (by kernel_rfl) rfl (by rfl) (fun K hK => ?_)
            go_simp
            (first
                | (go_at_call 12; ((with_reducible refine (K1.out _ (by assumption)).mono ?_); rintro e w3 ⟨rfl, hS⟩))
                | (go_at_call 8; ((with_reducible refine (K2.out _ (by assumption)).mono ?_); rintro e w3 ⟨rfl, hS⟩))
                | (go_at_call 8; ((with_reducible refine (K3.out _ (by assumption)).mono ?_); rintro e w3 ⟨rfl, hS⟩))
                | (go_at_call 8; ((with_reducible refine (K4.out _ (by assumption)).mono ?_); rintro e w3 ⟨rfl, hS⟩))
                | (go_at_call 7; ((with_reducible refine (K5.out _ (by assumption)).mono ?_); rintro e w3 ⟨rfl, hS⟩)))
            first | refine hK.out _ _ ?_ (fun hH46 => ?_) | (go_wp2_with fail; refine hK.out _ _ ?_ (fun hH46 => ?_))
            · (try dsimp only); first | with_reducible assumption
            clear hK K hH42
            try simp only [Act.put, List.setIfInBounds_toArray, List.set_cons_zero, List.set_cons_succ]
            (refine any_take (v := ?_) 47 rfl (by kernel_rfl) (by kernel_rfl) (by kernel_rfl) (fun _ _ _ h => h) (by rfl) ?_ (by assumption) ?_; rotate_left; (intro w hSw; (try dsimp only at hSw); go_simp; try with_reducible rfl); try simp only [Act.put, List.setIfInBounds_toArray, List.set_cons_zero, List.set_cons_succ])
            (refine any_take (v := ?_) 48 rfl (by kernel_rfl) (by kernel_rfl) (by kernel_rfl) (fun _ _ _ h => h) (by rfl) ?_ (by assumption) ?_; rotate_left; (intro w hSw; (try dsimp only at hSw); go_simp; try with_reducible rfl); try simp only [Act.put, List.setIfInBounds_toArray, List.set_cons_zero, List.set_cons_succ])
            refine wpAnyH_done (by kernel_rfl) ?_ _
            all_goals
              go_wp2
              go_ret
              exact ⟨rfl, by first | assumption | exact (by assumption : _ ∧ _).2⟩
          · have f1 : ((N : Int) == n1) = false := by simp; omega
            have f9 : (x == x) = true := by simp
            have f8 : (!false) = true := rfl
            have f1' : decide (N = n1) = false := decide_eq_false q1
            have f1'' : (N == n1) = false := by simpa using q1
            have hne := hstop (by omega) (by omega)
            obtain ⟨g, o, ea, hca⟩ := H0.out.lie (by omega)
            obtain ⟨g', o', eb, hcb⟩ := H1.out.lie (by omega)
            have ca := hca N (by omega)
            have cb := hcb N (by omega)
            obtain ⟨⟨u0, u1, u2⟩, hu⟩ : ∃ q, mkAt l0 N = q := ⟨_, rfl⟩
            obtain ⟨⟨v0, v1, v2⟩, hv⟩ : ∃ q, mkAt l1 N = q := ⟨_, rfl⟩
            rw [hu] at ca hne
            rw [hv] at cb hne
            simp only at ca cb
            subst ea eb
            have hlt0 : (N : Int) < n0 := by omega
            have hlt1 : (N : Int) < n1 := by omega
            have hE := eq_mkb u0 u1 u2 v0 v1 v2 false (by
              simp only [ne_eq, Prod.mk.injEq, not_and] at hne
              by_cases e0 : u0 = v0
              · by_cases e1 : u1 = v1
                · have e2 := hne e0 e1
                  simp [e2]
                · simp [e1]
              · simp [e0])
            have HCA := Lib.hid ca
            have HCB := Lib.hid cb
            clear hca hcb hu hv hne ca cb hstop
            go_enter Try.func4, Try.ntmps4
            go_wp2_with (first
              | (go_at_call 12; ((with_reducible refine (traFirst_v (H0.out.keep HB0.out) (H1.out.keep HB0.out) HZ.out).mono ?_); rintro r w1 ⟨rfl, b1⟩); have B1 := Lib.hid (bel_on HB0.out b1 HB0.out.size); clear b1)
              | (go_at_call 12; ((with_reducible refine (traFirst_v (H1.out.keep B1.out) (H0.out.keep B1.out) HZ'.out).mono ?_); rintro r w2 ⟨rfl, b2⟩); have B2 := Lib.hid (bel_on B1.out b2 B1.out.size); clear b2))
            have hS0 : (Six w g (o + N * 3) g' (o' + N * 3) (.int .i64 u0) (.int .i64 u1) (.int .i64 u2) (.int .i64 v0) (.int .i64 v1) (.int .i64 v2)) w2.drew := (keeps_six w g (o + N * 3) g' (o' + N * 3) (.int .i64 u0) (.int .i64 u1) (.int .i64 u2) (.int .i64 v0) (.int .i64 v1) (.int .i64 v2)).on w _ ⟨⟨HCA.out, HCB.out⟩, Below.refl _ _⟩ B2.out.drew
            have KS := Lib.hid (keeps_six w g (o + N * 3) g' (o' + N * 3) (.int .i64 u0) (.int .i64 u1) (.int .i64 u2) (.int .i64 v0) (.int .i64 v1) (.int .i64 v2))
            have K1 := Lib.hid (fun w' (h : (fun w' => (Six w g (o + N * 3) g' (o' + N * 3) (.int .i64 u0) (.int .i64 u1) (.int .i64 u2) (.int .i64 v0) (.int .i64 v1) (.int .i64 v2)) w') w') => first_S KS.out HTK0.out HTK1.out (w := w') (fun h => h.2) HF.out h)
            have K2 := Lib.hid (fun w' (h : (fun w' => (Six w g (o + N * 3) g' (o' + N * 3) (.int .i64 u0) (.int .i64 u1) (.int .i64 u2) (.int .i64 v0) (.int .i64 v1) (.int .i64 v2)) w') w') => cost_S KS.out HTK0.out (w := w') (fun h => h.2) HY0.out h)
            have K3 := Lib.hid (fun w' (h : (fun w' => (Six w g (o + N * 3) g' (o' + N * 3) (.int .i64 u0) (.int .i64 u1) (.int .i64 u2) (.int .i64 v0) (.int .i64 v1) (.int .i64 v2)) w') w') => cost_S KS.out HD0.out (w := w') (fun h => h.2) HY1.out h)
            have K4 := Lib.hid (fun w' (h : (fun w' => (Six w g (o + N * 3) g' (o' + N * 3) (.int .i64 u0) (.int .i64 u1) (.int .i64 u2) (.int .i64 v0) (.int .i64 v1) (.int .i64 v2)) w') w') => cost_S KS.out H0.out (w := w') (fun h => h.2) HX.out h)
            have K5 := Lib.hid (fun w' (h : (fun w' => (Six w g (o + N * 3) g' (o' + N * 3) (.int .i64 u0) (.int .i64 u1) (.int .i64 u2) (.int .i64 v0) (.int .i64 v1) (.int .i64 v2)) w') w') => awake_S KS.out (w := w') h)
            go_region_held3 (fun w' => (Six w g (o + N * 3) g' (o' + N * 3) (.int .i64 u0) (.int .i64 u1) (.int .i64 u2) (.int .i64 v0) (.int .i64 v1) (.int .i64 v2)) w')
              (first | with_reducible assumption)
              (first
                | (go_at_call 12; ((with_reducible refine (K1.out _ (by assumption)).mono ?_); rintro e w3 ⟨rfl, hS⟩))
                | (go_at_call 8; ((with_reducible refine (K2.out _ (by assumption)).mono ?_); rintro e w3 ⟨rfl, hS⟩))
                | (go_at_call 8; ((with_reducible refine (K3.out _ (by assumption)).mono ?_); rintro e w3 ⟨rfl, hS⟩))
                | (go_at_call 8; ((with_reducible refine (K4.out _ (by assumption)).mono ?_); rintro e w3 ⟨rfl, hS⟩))
                | (go_at_call 7; ((with_reducible refine (K5.out _ (by assumption)).mono ?_); rintro e w3 ⟨rfl, hS⟩)))
            all_goals
              go_wp2
              go_ret
              exact ⟨rfl, by first | assumption | exact (by assumption : _ ∧ _).2⟩
end Go.Proofs.Ythmojdmdhabogaa.traceAlike
