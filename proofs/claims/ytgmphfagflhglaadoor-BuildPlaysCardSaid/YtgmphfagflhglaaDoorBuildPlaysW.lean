/- The walk of the law BuildPlays: it returns true and writes nothing that was there. -/
import Derived.Test.YtgmphfagflhglaaDoorBldJ
import Derived.Test.YtgmphfagflhglaaDoorBldW
import Derived.Deep.RegionHeld3
namespace Go.Proofs.YtgmphfagflhglaaDoor
open Go.RowKit Go.IntWalk Go.Maps

namespace buildPlays
/-- What the last region's loads find. -/
abbrev Sees (t b x : Nat) (xa : Option Addr) (N xc : Nat) (w W : World) : Prop := (W.cell? ⟨t, 0, none⟩ = some (.pointer (some ⟨b, 0, none⟩)) ∧ W.cell? ⟨t, 1, none⟩ = some (.pointer (some ⟨x, 0, none⟩)) ∧ W.cell? ⟨t, 2, none⟩ = some (.bool true) ∧ W.cell? ⟨x, 0, none⟩ = some (.slice xa N xc)) ∧ Below w.heap.size w W
theorem sees_on {t b x N xc : Nat} {xa : Option Addr} {w W W' : World} (h : Sees t b x xa N xc w W) (k : Below W.heap.size W W') : Sees t b x xa N xc w W' :=
  ⟨⟨(k.cell (p := ⟨t, 0, none⟩) (cell_lt h.1.1)).trans h.1.1, (k.cell (p := ⟨t, 1, none⟩) (cell_lt h.1.2.1)).trans h.1.2.1, (k.cell (p := ⟨t, 2, none⟩) (cell_lt h.1.2.2.1)).trans h.1.2.2.1, (k.cell (p := ⟨x, 0, none⟩) (cell_lt h.1.2.2.2)).trans h.1.2.2.2⟩, h.2.trans (k.mono h.2.size)⟩
set_option maxRecDepth 100000 in
set_option maxHeartbeats 8000000 in
theorem within (a : Option Addr) (n c : Nat) (l : List Ab) (w : World) (h : ElAt abK w a n c l) (hok : ∀ y ∈ l, AbOk y) (hL : ShapesLaid w) (hE : ErrLaid w) (hn : n ≤ 60)
    (hD : ∀ (t b d x : Nat) (F1 F2 : Nat → Prop) (w' : World), ElAt abK w' a n c l → w.heap.size ≤ w'.heap.size → TwoIn w.heap.size w' t b d x ⟨[], [], []⟩ ⟨[], [], []⟩ F1 F2 → ShapesLaid w' → Calls Tryd.prog 6 #[.pointer (some ⟨t, 0, none⟩), .slice a n c, .int .i64 0, .int .i64 0] w' (DoesTo w.heap.size t b d x n 0 0 F1 F2 w')) :
    Calls Tryd.prog 3 #[.slice a n c] w fun e w' => e = .returned (.bool true) ∧ Below w.heap.size w w' := by
  have hcap := h.cap
  have hbig := h.big
  unfold maxLen at hbig
  have HL := Lib.hid h
  have HLN := Lib.hid h.len
  have HE := Lib.hid hE
  have HS := Lib.hid hL
  have HOK := Lib.hid hok
  have HD := Lib.hid hD
  have hn' : (n : Int) ≤ 60 := by omega
  clear h hL hE hok hD
  go_enter Tryd.func3, Tryd.ntmps3
  go_wp2
  go_loopw [3] (fun i wr => ∃ k : Nat, k ≤ n ∧ i = .int .i64 k ∧ wr = w) (fun i _ => n - (intOf i).toNat)
  case atStart => exact ⟨0, by omega, rfl, rfl⟩
  case round =>
    obtain ⟨k, hk, rfl, rfl⟩ := hrel
    by_cases hlt : k < n
    · have hlt' : (k : Int) < n := by omega
      obtain ⟨X, hX⟩ : ∃ X, el l k = X := ⟨_, rfl⟩
      obtain ⟨kd, ⟨io, id, ia, ib, iN⟩, nm, rc, rl, rn⟩ := X
      obtain ⟨la, lo, rfl, d0, d1, d2, d3, d4, d5, d6, d7, d8, d9⟩ := HL.out.ab hlt hX
      clear hX d0 d1 d2 d3 d4 d5 d7 d8 d9
      by_cases hsl : 100 < nm.size
      · have hsl' : (100 : Int) < nm.size := by omega
        clear hsl
        go_wp2_with (go_at_call 4; ((with_reducible refine (bldAwake_is _ HS.out HE.out).mono ?_); rintro e w9 ⟨rfl, hb9⟩); have HB9 := Lib.hid hb9; clear hb9)
        go_ret
        exact ⟨rfl, HB9.out⟩
      · have hsl' : (nm.size : Int) ≤ 100 := by omega
        clear hsl
        go_wp2
        go_roundw
        case rel => exact ⟨k + 1, by omega, by go_num, by first | trivial | rfl⟩
        case measure => simp [intOf]; omega
    · obtain rfl : n = k := by omega
      go_wp2_with (go_at_call 5; ((with_reducible refine (bldNew_is wr.heap.size _ (Nat.le_refl _)).mono ?_); rintro e w1 ⟨b, d, F, rfl, h1, hF1, hb1⟩); have H1 := Lib.hid h1; have HB1 := Lib.hid hb1; have HF1 := Lib.hid hF1; clear h1 hb1 hF1)
      have hs1 := HB1.out.size
      have a1 := (Below.refl w1.heap.size w1).alloc (Nat.le_refl _) (.cells #[.slice none 0 0, .slice none 0 0, .slice none 0 0] 37)
      have a2 := (Below.refl (w1.alloc (.cells #[.slice none 0 0, .slice none 0 0, .slice none 0 0] 37)).heap.size (w1.alloc (.cells #[.slice none 0 0, .slice none 0 0, .slice none 0 0] 37))).alloc (Nat.le_refl _) (.cells #[.pointer (some ⟨b, 0, none⟩), .pointer (some ⟨w1.heap.size, 0, none⟩), .bool true] 39)
      have e1 : (w1.alloc (.cells #[.slice none 0 0, .slice none 0 0, .slice none 0 0] 37)).heap.size = w1.heap.size + 1 := by simp
      have T0 := Lib.hid (show TwoIn wr.heap.size ((w1.alloc (.cells #[.slice none 0 0, .slice none 0 0, .slice none 0 0] 37)).alloc (.cells #[.pointer (some ⟨b, 0, none⟩), .pointer (some ⟨w1.heap.size, 0, none⟩), .bool true] 39)) (w1.heap.size + 1) b d w1.heap.size ⟨[], [], []⟩ ⟨[], [], []⟩ F (fun j => j = w1.heap.size) from
        ⟨BlkAt.newb _ _ _ e1, (H1.out.keep a1).keep a2, (RbAt.new w1 wr.heap.size hs1).keep a2, fun j q r => by have := (H1.out.low j q).2; omega, fun q => by have := (H1.out.low _ q).2; omega, by omega, by omega⟩)
      have B0 := Lib.hid (HB1.out.trans ((a1.trans (a2.mono a1.size)).mono hs1))
      obtain ⟨W0, hW0⟩ : ∃ V, (w1.alloc (.cells #[.slice none 0 0, .slice none 0 0, .slice none 0 0] 37)).alloc (.cells #[.pointer (some ⟨b, 0, none⟩), .pointer (some ⟨w1.heap.size, 0, none⟩), .bool true] 39) = V := ⟨_, rfl⟩
      obtain ⟨x, hx⟩ : ∃ q, w1.heap.size = q := ⟨_, rfl⟩
      rw [hW0, hx] at T0
      rw [hW0] at B0
      rw [hW0]
      simp only [hx]
      have hlo : ∀ j, Own2 F (fun j => j = x) (x + 1) j → wr.heap.size ≤ j := by
        rintro j (q | q | q)
        · exact (T0.out.low1 j q).1
        · subst q; omega
        · subst q; omega
      have DO := Lib.hid (HD.out (x + 1) b d x F (fun j => j = x) W0 (HL.out.keep B0.out) B0.out.size T0.out (HS.out.below B0.out HS.out.lt))
      have HLO := Lib.hid hlo
      clear a1 a2 e1 hW0 hx hlo H1 HB1 HF1 hs1
      go_wp2_with (go_at_call 6; ((with_reducible refine (DO.out).mono ?_); rintro e w3 ⟨m, s', G1, G2, rfl, l1, l2, h3, g3, v3⟩); have T3 := Lib.hid h3; have B3 := Lib.hid (g3.keeps.below B0.out B0.out.size HLO.out); have V3 := Lib.hid v3; have t0 := h3.blk.cell 0; have t1 := h3.blk.cell 1; clear h3 g3 v3)
      have n1 := V3.out.nL
      have n2 := V3.out.nd
      have n3 := V3.out.nu
      have KF := Lib.hid (bldFinish_is w3 T3.out.bl (HS.out.below B3.out HS.out.lt) (HE.out.keep B3.out) (by omega) (by omega) V3.out.fit)
      have KR := Lib.hid (fun w4 (k : Below w3.heap.size w3 w4) => refBFinish_is wr.heap.size x s' G2 w4 (T3.out.rb.keep k) (by omega) (by omega) (by omega))
      have KL := Lib.hid (fun w4 (k : Below w3.heap.size w3 w4) => bldLen_is w4 (T3.out.bl.keep k))
      unfold RetFin at KF KR
      obtain ⟨fe, hfe⟩ : ∃ z, finE s' = z := ⟨_, rfl⟩
      obtain ⟨fn, hfn⟩ : ∃ z, finN s' = z := ⟨_, rfl⟩
      obtain ⟨fw, hfw⟩ : ∃ z, finW s' = z := ⟨_, rfl⟩
      obtain ⟨M, hM⟩ : ∃ z, fw.length = z := ⟨_, rfl⟩
      obtain ⟨N, hN⟩ : ∃ z, s'.L.length = z := ⟨_, rfl⟩
      rw [hfe, hfn, hfw] at KF KR
      rw [hN] at KL
      obtain ⟨xcs, xv, XG, x1, x2, x3, x4, -, -, -⟩ := T3.out.rb.ex
      obtain ⟨va, ua, xb, -⟩ := x1.ex
      obtain ⟨xa, xc, rfl, -⟩ := x4.at
      rw [hN] at x3
      have HX := Lib.hid ((xb.cell 0).trans x3)
      have HB := Lib.hid T3.out.blk
      clear hfe hfn hfw hN x1 x2 x3 x4 xb n1 n2 n3
      go_upto_region 14 with (first
        | (go_at_call 7; ((with_reducible refine (KF.out).mono ?_); rintro e w4 ⟨v4, rfl, ho4, hb4⟩); obtain ⟨a4, c4, rfl, q4⟩ := ho4.wsn hM; have Q4 := Lib.hid q4; have B4 := Lib.hid hb4; have t2 := (HB.out.keep hb4).cell 1; clear ho4 hb4 q4)
        | (go_at_call 8; ((with_reducible refine (KR.out _ B4.out).mono ?_); rintro e w5 ⟨v5, rfl, ho5, hb5⟩); obtain ⟨a5, c5, rfl, q5⟩ := ho5.wsn hM; have Q5 := Lib.hid q5; have B5 := Lib.hid hb5; clear ho5 hb5 q5))
      have B35 := Lib.hid (B4.out.trans (B5.out.mono B4.out.size))
      have S0 := Lib.hid (show Sees (x + 1) b x xa N xc w5 w5.drew from ⟨⟨(HB.out.keep B35.out).cell 0, (HB.out.keep B35.out).cell 1, (HB.out.keep B35.out).cell 2, (B35.out.cell (p := ⟨x, 0, none⟩) (cell_lt HX.out)).trans HX.out⟩, (Below.refl _ _).drew⟩)
      have B05 := Lib.hid (B3.out.trans (B35.out.mono B3.out.size))
      have W1 := Lib.hid (Q4.out.keep B5.out)
      have K1 := Lib.hid (fun W' (h : Sees (x + 1) b x xa N xc w5 W') => refBWords_is (W1.out.keep h.2) (Q5.out.keep h.2))
      have K2 := Lib.hid (fun W' (h : Sees (x + 1) b x xa N xc w5 W') => KL.out W' (B35.out.trans (h.2.mono B35.out.size)))
      have K3 := Lib.hid (fun W' (h : Sees (x + 1) b x xa N xc w5 W') => bldAwake_is W' (HS.out.below (B05.out.trans (h.2.mono B05.out.size)) HS.out.lt) (HE.out.keep (B05.out.trans (h.2.mono B05.out.size))))
      have z2 : (fe == fe) = true := by simp
      have z3 : (((N : Nat) : Int) == (N : Int)) = true := by simp
      have hS0 := S0.out
      clear t0 t1 t2
      go_region_held (fun W' => (W'.cell? ⟨x + 1, 0, none⟩ = some (.pointer (some ⟨b, 0, none⟩)) ∧ W'.cell? ⟨x + 1, 1, none⟩ = some (.pointer (some ⟨x, 0, none⟩)) ∧ W'.cell? ⟨x + 1, 2, none⟩ = some (.bool true) ∧ W'.cell? ⟨x, 0, none⟩ = some (.slice xa N xc)) ∧ Below w5.heap.size w5 W')
        (first | with_reducible assumption)
        (first
          | (go_at_call 9; ((with_reducible refine (K1.out _ (by assumption)).mono ?_); rintro e w6 ⟨rfl, hb6⟩); have hS := sees_on (by assumption) hb6; clear hb6)
          | (go_at_call 10; ((with_reducible refine (K2.out _ (by assumption)).mono ?_); rintro e w7 ⟨rfl, rfl⟩); have hS := hS)
          | (go_at_call 4; ((with_reducible refine (K3.out _ (by assumption)).mono ?_); rintro e w8 ⟨rfl, hb8⟩); have hS := sees_on (by assumption) hb8; clear hb8))
      go_wp2
      go_ret
      exact ⟨rfl, B05.out.trans (hS.2.mono B05.out.size)⟩
theorem walk (a : Option Addr) (n c : Nat) (l : List Ab) (w : World) (h : ElAt abK w a n c l ∧ ∀ y ∈ l, AbOk y) (hL : ShapesLaid w ∧ ErrLaid w) :
    Calls Tryd.prog 3 #[.slice a n c] w fun e w' => e = .returned (.bool true) ∧ Below w.heap.size w w' := by
  by_cases hn : n ≤ 60
  · exact within a n c l w h.1 h.2 hL.1 hL.2 hn fun t b d x F1 F2 w' k1 k2 k3 k4 => does_is hn h.2 (fun la off e h0 => h.1.lt h0 la off e) hL.1.lt 6 0 0 ⟨[], [], []⟩ F1 F2 w' rfl (Nat.zero_le _) k1 k2 k3 k4 ⟨Nat.le_refl _, Nat.le_refl _, Nat.le_refl _, Fit.nil⟩
  · have hcap := h.1.cap
    have hbig := h.1.big
    unfold maxLen at hbig
    have HS := Lib.hid hL.1
    have HE := Lib.hid hL.2
    have hn' : (60 : Int) < n := by omega
    clear h hL hn
    go_enter Tryd.func3, Tryd.ntmps3
    go_wp2_with (go_at_call 4; ((with_reducible refine (bldAwake_is _ HS.out HE.out).mono ?_); rintro e w9 ⟨rfl, hb9⟩); have HB9 := Lib.hid hb9; clear hb9)
    go_ret
    exact ⟨rfl, HB9.out⟩
end buildPlays
end Go.Proofs.YtgmphfagflhglaaDoor
