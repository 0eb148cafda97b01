/- Within TraceAll: for every slice of marks the call returns true; nothing that was there is changed. Conditions: the slice's cells are as the program lays them. -/
import Derived.Test.YthmojdmdhabogaaTraM
import Derived.Test.YthmojdmdhabogaaTraN
import Derived.Test.YthmojdmdhabogaaTraQ
namespace Go.Proofs.Ythmojdmdhabogaa.traceAll
open Go.RowKit Go.IntWalk

theorem infoMkT : (Try.prog.info? 32).map (fun i => (i.zero, i.size, i.bytes)) = some (some (.agg #[.int .i64 0, .int .i64 0, .int .i64 0]), 3, 24) := by kernel_rfl
theorem mk_one (w : World) (u0 u1 u2 : Int) : MkAt (w.alloc (.cells #[.int .i64 u0, .int .i64 u1, .int .i64 u2] 32)) (some ⟨w.heap.size, 0, none⟩) 1 1 [(u0, u1, u2)] := by
  have h : OwnMk (w.alloc (.cells #[.int .i64 u0, .int .i64 u1, .int .i64 u2] 32)) w.heap.size 32 (.slice (some ⟨w.heap.size, 0, none⟩) 1 1) [(u0, u1, u2)] :=
    World.ownsRow_lit (base := w.heap.size) (e := 32) (size := 3) w #[.int .i64 u0, .int .i64 u1, .int .i64 u2] 1 (Nat.le_refl _) (by unfold maxLen; omega) (by simp)
  obtain ⟨a, c, e, hat⟩ := h.at
  simp only [List.length_cons, List.length_nil, Value.slice.injEq] at e
  obtain ⟨rfl, -, rfl⟩ := e
  exact hat
section
variable {a : Option Addr} {n c m : Nat} {l : List Mk} {w : World} {R : List Ht}
theorem traRows_to (h : MkAt w a n c l) (hn : n ≤ 524288) (h64 : Mk64 l) (hR : tRows l = R) (hm : R.length = m) :
    Calls Try.prog 20 #[.slice a n c] w fun r w' => ∃ a' c', r = .returned (.slice a' m c') ∧ HtAt w' a' m c' R ∧ Below w.heap.size w w' := by
  subst hR
  refine (traRows_is a n c l w h hn h64).mono ?_
  rintro r w' ⟨v, rfl, o, b⟩
  obtain ⟨a', c', rfl, hat⟩ := OwnEl.at o
  rw [hm] at hat ⊢
  exact ⟨a', c', rfl, hat, b⟩
theorem traTop_to {q : Int} (h : MkAt w a n c l) (hn : n ≤ 524288) (h64 : Mk64 l) (hR : tTop l q = R) (hm : R.length = m) :
    Calls Try.prog 22 #[.slice a n c, .int .i64 q] w fun r w' => ∃ a', r = .returned (.slice a' m m) ∧ HtAt w' a' m m R ∧ Below w.heap.size w w' := by
  subst hR
  refine (traTop_is a n c q l w h hn h64).mono ?_
  rintro r w' ⟨a', m', rfl, hat, b⟩
  obtain rfl : m' = m := by rw [← hm]; exact hat.len.symm
  exact ⟨a', rfl, hat, b⟩
end

set_option maxRecDepth 10000 in
set_option maxHeartbeats 8000000 in
theorem walk (a0 : Option Addr) (n c0 : Nat) (l : List Mk) (w : World) (h0 : MkAt w a0 n c0 l ∧ Mk64 l) :
    Calls Try.prog 6 #[.slice a0 n c0] w fun e w' => e = .returned (.bool true) ∧ Below w.heap.size w w' := by
  obtain ⟨i0, hi, hz0, hz1, hz2⟩ := info_parts infoMkT
  have hbig := h0.1.big
  have hcap := h0.1.cap
  unfold maxLen at hbig
  by_cases e0 : 300 < n
  · have e0' : (300 : Int) < n := by omega
    clear h0
    go_enter Try.func6, Try.ntmps6
    go_wp2_with (go_at_call 7; ((with_reducible refine (traAwake_is _).mono ?_); rintro r w1 ⟨rfl, b1⟩))
    go_ret
    exact ⟨rfl, b1⟩
  · have e0' : (n : Int) ≤ 300 := by omega
    have hn : n ≤ 524288 := by omega
    have HL := Lib.hid h0.1
    have HLN := Lib.hid h0.1.len
    have H64 := Lib.hid h0.2
    clear h0
    go_enter Try.func6, Try.ntmps6
    go_wp2
    go_loopw [3, 4, 5] (fun v m i wr => ∃ k : Nat, k ≤ n ∧ i = .int .i64 k ∧ m = .int .i64 (tCost (l.take k)) ∧ OwnMk wr w.heap.size 32 v (l.reverse.take k) ∧ Below w.heap.size w wr) (fun _ _ i _ => n - (intOf i).toNat)
    case atStart => exact ⟨0, by omega, rfl, by rw [List.take_zero, tCost_nil], OwnMk.nil _ _ _, Below.refl _ _⟩
    case round =>
      obtain ⟨k, hk, rfl, rfl, ho, hb⟩ := hrel
      obtain ⟨m, hm⟩ : ∃ m, tCost (l.take k) = m := ⟨_, rfl⟩
      rw [hm]
      have HM := Lib.hid hm
      have HO := Lib.hid ho
      have Hb := Lib.hid hb
      clear hm ho hb
      by_cases hlt : k < n
      · obtain ⟨g, off, rfl, hc⟩ := (HL.out.keep Hb.out).lie (by omega)
        obtain ⟨p, hp⟩ : ∃ p, p + 1 = n := ⟨n - 1, by omega⟩
        obtain ⟨j, hj⟩ : ∃ j, j + k = p := ⟨p - k, by omega⟩
        have hkl : k < l.length := by have := HLN.out; omega
        obtain ⟨d0, d1, d2⟩ := hc j (by omega)
        obtain ⟨⟨u0, u1, u2⟩, hu⟩ : ∃ q, mkAt l j = q := ⟨_, rfl⟩
        obtain ⟨z, hz⟩ : ∃ z, (mkAt l k).2.2 = z := ⟨_, rfl⟩
        rw [hu] at d0 d1 d2
        simp only at d0 d1 d2
        have HU := Lib.hid (show tCost (l.take (k + 1)) = wrap64 (m + z) by rw [take_snoc hkl, tCost_snoc, HM.out, ← hz]; rfl)
        have HV := Lib.hid (show l.reverse.take (k + 1) = l.reverse.take k ++ [(u0, u1, u2)] by rw [back_next hkl, ← hu, HLN.out, show n - 1 - k = j by omega])
        have HC2 := Lib.hid (show ∀ w', Below w.heap.size w w' → w'.cell? ⟨g, off + k * 3 + 2, none⟩ = some (.int .i64 z) from fun w' hb => by
          obtain ⟨g', off', e', hc'⟩ := (HL.out.keep hb).lie (by omega)
          obtain ⟨rfl, rfl⟩ : g = g' ∧ off = off' := by simpa using e'
          have := (hc' k hlt).2.2
          rw [hz] at this
          exact this)
        have hw1 : IntKind.i64.wrap ((n : Int) - 1) = p := by rw [IntWalk.i64_in _ (by omega)]; omega
        have hw2 : IntKind.i64.wrap ((p : Int) - k) = j := by rw [IntWalk.i64_in _ (by omega)]; omega
        have hj1 : (j : Int) < n := by omega
        have hlt' : (k : Int) < n := by omega
        have HLen := Lib.hid (show (l.reverse.take k).length = k by rw [List.length_take, List.length_reverse]; omega)
        clear hc hu hz hkl hp hj
        go_wp2_with (at_builtin; refine wpList_append_mks (w0 := w) rfl _ _ 22 rfl w.heap.size 32 i0 (.agg #[.int .i64 0, .int .i64 0, .int .i64 0]) Try.underlying22 hi hz0 hz1 hz2 rfl rfl (HO.out.keep ((Below.refl _ _).alloc (Nat.le_refl _) _)) rfl (mk_one wr u0 u1 u2) (by rw [HLen.out]; omega) ((Hb.out.alloc Hb.out.size _).size) (Hb.out.alloc Hb.out.size _) ?_; intro v' w1 hown hb1 hs1; have c2 := HC2.out _ hb1; have HO1 := Lib.hid hown; have HB1 := Lib.hid hb1; clear hown hb1 hs1)
        go_roundw
        case rel => exact ⟨k + 1, by omega, by go_num, by rw [HU.out], by rw [HV.out]; exact HO1.out, HB1.out⟩
        case measure => simp [intOf]; omega
      · obtain rfl : n = k := by omega
        obtain ⟨a2, c2, e2, hat⟩ := OwnMk.at (show OwnMk wr w.heap.size 32 _ l.reverse by
          have := HO.out
          rwa [List.take_of_length_le (Nat.le_of_eq (by rw [List.length_reverse, HLN.out]))] at this)
        rw [List.length_reverse, HLN.out] at e2 hat
        subst e2
        obtain rfl : m = wrap64 (exC l) := by rw [← HM.out, List.take_of_length_le (Nat.le_of_eq HLN.out)]; rfl
        have HTU := Lib.hid hat
        obtain ⟨R, hR⟩ : ∃ R, tRows l = R := ⟨_, rfl⟩
        obtain ⟨m, hm⟩ : ∃ m, R.length = m := ⟨_, rfl⟩
        obtain ⟨T, hT⟩ : ∃ T, tMost l = T := ⟨_, rfl⟩
        have hmn : m ≤ n := by have := tRows_len l; rw [hR, hm, HLN.out] at this; exact this
        have HR := Lib.hid hR
        have HMM := Lib.hid hm
        have HT := Lib.hid hT
        have HTA := Lib.hid (show tTop l (n : Int) = T by rw [tTop_all l HLN.out, hT])
        have HTM := Lib.hid (show T.length = m by rw [← hT, tMost_len, hR, hm])
        have HRB := Lib.hid (show tRows l.reverse = R by rw [tRows_back, hR])
        have H64B := Lib.hid (show Mk64 l.reverse from fun x hx => H64.out x (List.mem_reverse.1 hx))
        have HS1 := Lib.hid (show wrap64 (sTi R m) = (n : Int) by
          have := rows_times l
          rw [hR, hm, HLN.out] at this
          rw [this]
          exact w64_fit ⟨by omega, by omega⟩)
        have HC1 := Lib.hid (show wrap64 (exC l - sCo R m) = 0 by
          have := rows_cost l
          rwa [hR, hm] at this)
        clear hat hR hm hT
        go_wp2_with (first
          | (go_at_call 20; ((with_reducible refine (traRows_to (HL.out.keep Hb.out) hn H64.out HR.out HMM.out).mono ?_); rintro r w1 ⟨a3, c3, rfl, i3, b3⟩); have I3 := Lib.hid i3; have B3 := Lib.hid (bel_on Hb.out b3 Hb.out.size); have K3 := Lib.hid (HTU.out.keep b3); clear i3 b3)
          | (go_at_call 22; ((with_reducible refine (traTop_to (HL.out.keep B3.out) hn H64.out HTA.out HTM.out).mono ?_); rintro r w2 ⟨a4, rfl, i4, b4⟩); have I4 := Lib.hid i4; have B4 := Lib.hid (bel_on B3.out b4 B3.out.size); have J3 := Lib.hid (I3.out.keep b4); have K4 := Lib.hid (K3.out.keep b4); clear i4 b4))
        have hbm : (m : Int) ≤ 300 := by omega
        have hcap3 := J3.out.cap
        have hbig3 := J3.out.big
        unfold maxLen at hbig3
        go_loopw [4, 8, 9] (fun co ti i wr => ∃ k : Nat, k ≤ m ∧ i = .int .i64 k ∧ ti = .int .i64 (wrap64 (sTi R k)) ∧ co = .int .i64 (wrap64 (exC l - sCo R k)) ∧ wr = w2) (fun _ _ i _ => m - (intOf i).toNat)
        case atStart => exact ⟨0, by omega, rfl, by rw [sTi_zero, w64_zero], by rw [sCo_zero, Int.sub_zero], rfl⟩
        case round =>
          obtain ⟨k, hk, rfl, rfl, rfl, rfl⟩ := hrel
          by_cases hlt : k < m
          · obtain ⟨g, off, rfl, hc⟩ := HtAt.lie4 J3.out (by omega)
            obtain ⟨-, -, d2, d3⟩ := hc k hlt
            have hkR : k < R.length := by have := HMM.out; omega
            have HS := Lib.hid (show wrap64 (sTi R (k + 1)) = wrap64 (wrap64 (sTi R k) + (el R k).2.2.1) by rw [sTi_next hkR, w64_add])
            have HC := Lib.hid (show wrap64 (exC l - sCo R (k + 1)) = wrap64 (wrap64 (exC l - sCo R k) - (el R k).2.2.2) by rw [sCo_next hkR, w64_sub]; congr 1; omega)
            generalize (el R k).2.2.1 = y2 at *
            generalize (el R k).2.2.2 = y3 at *
            generalize wrap64 (sTi R k) = s at *
            generalize wrap64 (exC l - sCo R k) = x at *
            have hlt' : (k : Int) < m := by omega
            clear hc hkR
            go_wp2
            go_roundw
            case rel => exact ⟨k + 1, by omega, by go_num, by rw [HS.out], by rw [HC.out], by first | rfl | trivial⟩
            case measure => simp [intOf]; omega
          · obtain rfl : m = k := by omega
            rw [HS1.out, HC1.out]
            go_wp2_with (first
              | (go_at_call 20; ((with_reducible refine (traRows_to K4.out hn H64B.out HRB.out HMM.out).mono ?_); rintro r w5 ⟨a5, c5, rfl, i5, b5⟩); have I5 := Lib.hid i5; have B5 := Lib.hid (bel_on B4.out b5 B4.out.size); have J5 := Lib.hid (J3.out.keep b5); have T5 := Lib.hid (I4.out.keep b5); clear i5 b5)
              | (go_at_call 19; ((with_reducible refine (refHeats_is _ _ m _ _ R _ I5.out J5.out).mono ?_); rintro r w6 ⟨rfl, b6⟩); have B6 := Lib.hid (bel_on B5.out b6 B5.out.size); have T6 := Lib.hid (T5.out.keep b6); clear b6))
            go_loopw [10] (fun i wr => ∃ k : Nat, 1 ≤ k ∧ (k ≤ m ∨ k = 1) ∧ i = .int .i64 k ∧ Below w6.heap.size w6 wr) (fun i _ => m - (intOf i).toNat)
            case atStart => exact ⟨1, by omega, .inr rfl, rfl, Below.refl _ _⟩
            case round =>
              obtain ⟨k, hk1, hk2, rfl, hb⟩ := hrel
              have HB := Lib.hid hb
              by_cases hlt : k < m
              · obtain ⟨j, hkj⟩ : ∃ j, j + 1 = k := ⟨k - 1, by omega⟩
                obtain ⟨g, off, rfl, hc⟩ := HtAt.lie4 (T6.out.keep hb) (by omega)
                obtain ⟨-, -, -, d3⟩ := hc k hlt
                obtain ⟨-, -, -, f3⟩ := hc j (by omega)
                have hle : (el T k).2.2.2 ≤ (el T j).2.2.2 := by
                  have := most_down l (i := j) (by rw [HT.out, HTM.out]; omega)
                  rwa [HT.out, hkj] at this
                generalize (el T k).2.2.2 = x at *
                generalize (el T j).2.2.2 = y at *
                have hno : decide (y < x) = false := decide_eq_false (by omega)
                have hw1 : IntKind.i64.wrap ((k : Int) - 1) = j := by rw [IntWalk.i64_in _ (by omega)]; omega
                have hj0 : (j : Int) < m := by omega
                have hj1 : (k : Int) < m := by omega
                clear hc hb hkj
                go_wp2
                go_quiet (fail)
                go_wp2
                go_roundw
                case rel => exact ⟨k + 1, by omega, .inl (by omega), by go_num, below_drewN HB.out _⟩
                case measure => simp [intOf]; omega
              · have hlt' : (m : Int) ≤ k := by omega
                clear hb
                go_wp2_with (go_at_call 7; ((with_reducible refine (traAwake_is _).mono ?_); rintro r w7 ⟨rfl, b7⟩))
                go_ret
                exact ⟨rfl, bel_on (bel_on B6.out HB.out B6.out.size) b7 (Nat.le_trans B6.out.size HB.out.size)⟩
end Go.Proofs.Ythmojdmdhabogaa.traceAll
