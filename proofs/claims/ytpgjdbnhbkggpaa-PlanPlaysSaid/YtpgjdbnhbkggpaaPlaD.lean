/- Package plan: what Used, Find, At, Regions, New answer. Conditions: as few regions as 1000; texts as short as any can be. -/
import Derived.Test.YtpgjdbnhbkggpaaPlaC
import Derived.Test.YtpgjdbnhbkggpaaSeq
import Derived.StillTailTactics
import Derived.Deep.DeepCutAuto
namespace Go.Proofs.Ytpgjdbnhbkggpaa
open Go.RowKit Go.IntWalk

section
variable {p : Value} {B t n c : Nat} {w : World} {a : Option Addr} {size : Int} {rs : Rgs} {F : Nat → Prop}
set_option maxHeartbeats 1000000 in
theorem plaUsed_is (h : HeldP p w a n c rs) (hS : Sides size rs) : Calls Try.prog 13 #[p] w fun e w' => e = .returned (.int .i64 (usedR rs)) ∧ Below w.heap.size w w' := by
  have C := Lib.hid (h.call w (Below.refl _ _))
  have hl := h.els.len
  have hcap := h.els.cap
  have hbig := h.els.big
  unfold maxLen at hbig
  rcases Nat.eq_zero_or_pos n with h0 | h0
  · subst h0
    obtain rfl : rs = [] := List.eq_nil_of_length_eq_zero hl
    clear h hS hl
    go_enter Try.func13, Try.ntmps13
    go_wp2_with (go_at_call 26; ((with_reducible refine (C.out).mono ?_); rintro e w2 ⟨rfl, rfl⟩))
    go_ret
    exact ⟨rfl, Below.refl _ _⟩
  · obtain ⟨m, rfl⟩ : ∃ m, n = m + 1 := ⟨n - 1, by omega⟩
    obtain ⟨b, off, rfl, d0, d1, d2, d3⟩ := h.els.rg (i := m) (by omega)
    have hla := hS.last (i := m) (by omega)
    obtain ⟨e1, e2, e3, e4⟩ := hS.one (i := m) (by omega)
    have HL := Lib.hid hla
    rw [hla] at e3
    obtain ⟨r, hr⟩ : ∃ r, el rs m = r := ⟨_, rfl⟩
    rw [hr] at d0 d1 d2 d3 HL e1 e2
    obtain ⟨r0, r1, r2, r3⟩ := r
    simp only at d0 d1 d2 d3 HL e1 e2
    have e5 : r1 + r2 ≤ 2048 := by have := HL.out; omega
    clear h hS hl hla hr e3 e4
    go_enter Try.func13, Try.ntmps13
    go_wp2_with (go_at_call 26; ((with_reducible refine (C.out).mono ?_); rintro e w2 ⟨rfl, rfl⟩))
    go_ret
    exact ⟨retI HL.out, (Below.refl _ _).alloc (Nat.le_refl _) _⟩
set_option maxHeartbeats 2000000 in
theorem plaFind_nobody (h : MadeP p w false) (s : ByteArray) : Calls Try.prog 9 #[p, .string s] w fun e w' => e = .returned (.tuple #[rgV rg0, .bool false]) ∧ Below w.heap.size w w' := by
  have hbel := (Below.refl w.heap.size w).alloc (Nat.le_refl _) (.cells #[.string ⟨#[]⟩, .int .i64 0, .int .i64 0, .bool false] 37)
  have hW0 := BlkAt.new w 37 #[.string ⟨#[]⟩, .int .i64 0, .int .i64 0, .bool false]
  obtain ⟨W, hW⟩ : ∃ W, w.alloc (.cells #[.string ⟨#[]⟩, .int .i64 0, .int .i64 0, .bool false] 37) = W := ⟨_, rfl⟩
  obtain ⟨b0, hb0⟩ : ∃ b0, w.heap.size = b0 := ⟨_, rfl⟩
  rw [hW] at hbel hW0
  have C := Lib.hid (h.keep hbel).now
  rw [hb0] at hW0
  have f0 := hW0.free 0
  have f1 := hW0.free 1
  have f2 := hW0.free 2
  have f3 := hW0.free 3
  have g0 : W.cell? ⟨b0, 0, none⟩ = some (.string ⟨#[]⟩) := hW0.cell 0
  have g1 : W.cell? ⟨b0, 1, none⟩ = some (.int .i64 0) := hW0.cell 1
  have g2 : W.cell? ⟨b0, 2, none⟩ = some (.int .i64 0) := hW0.cell 2
  have g3 : W.cell? ⟨b0, 3, none⟩ = some (.bool false) := hW0.cell 3
  have HW0 := Lib.hid hW0
  have HB := Lib.hid (hb0 ▸ hbel)
  have HB0 := Lib.hid hb0
  clear h hbel hW0
  go_enter Try.func9, Try.ntmps9
  go_wp2_with (go_at_call 20; ((with_reducible refine (C.out).mono ?_); rintro e w2 ⟨rfl, rfl⟩))
  have hB := rg_put HW0.out HB.out (Nat.le_refl _) (.string ⟨#[]⟩) (.int .i64 0) (.int .i64 0) (.bool false)
  generalize (((W.setCell ⟨b0, 0, none⟩ (.string ⟨#[]⟩)).setCell ⟨b0, 1, none⟩ (.int .i64 0)).setCell ⟨b0, 2, none⟩ (.int .i64 0)).setCell ⟨b0, 3, none⟩ (.bool false) = W5 at hB ⊢
  obtain ⟨⟨p0, p1, p2, p3⟩, pb⟩ := hB
  exact bodyPost_ret (v := .tuple #[rgV rg0, .bool false]) (by simp [results, Try.results9, go_sem, p0, p1, p2, p3, rgV, rg0]) rfl ⟨rfl, by rw [HB0.out]; exact pb⟩
set_option maxRecDepth 100000 in
set_option maxHeartbeats 4000000 in
theorem plaFind_is (h : PlaAt B w t size rs F) (s : ByteArray) (hn : rs.length ≤ 2048) : Calls Try.prog 9 #[.pointer (some ⟨t, 0, none⟩), .string s] w fun e w' => e = .returned (.tuple #[rgV (fV rs s), .bool (fB rs s)]) ∧ Below w.heap.size w w' := by
  obtain ⟨ns, v1, v2, h⟩ := h
  have hbel := (Below.refl w.heap.size w).alloc (Nat.le_refl _) (.cells #[.string ⟨#[]⟩, .int .i64 0, .int .i64 0, .bool false] 37)
  have hW0 := BlkAt.new w 37 #[.string ⟨#[]⟩, .int .i64 0, .int .i64 0, .bool false]
  obtain ⟨W, hW⟩ : ∃ W, w.alloc (.cells #[.string ⟨#[]⟩, .int .i64 0, .int .i64 0, .bool false] 37) = W := ⟨_, rfl⟩
  obtain ⟨b0, hb0⟩ : ∃ b0, w.heap.size = b0 := ⟨_, rfl⟩
  rw [hW] at hbel hW0
  rw [hb0] at hW0
  have h1 := h.keep hbel
  have hidx := h.idx
  have C := Lib.hid h1.made.now
  have CS := Lib.hid (plaSeekName_is h1 s hn)
  have H1 := Lib.hid h1
  have HX := Lib.hid hidx
  have HW0 := Lib.hid hW0
  have HB := Lib.hid (hb0 ▸ hbel)
  have HB0 := Lib.hid hb0
  clear h hbel hW0 h1 hidx
  go_enter Try.func9, Try.ntmps9
  go_upto_if 19 with (first
    | (go_at_call 20; ((with_reducible refine (C.out).mono ?_); rintro e w2 ⟨rfl, rfl⟩))
    | (go_at_call 22; ((with_reducible refine (CS.out).mono ?_); rintro e w2 ⟨q, hq1, hq2, hq3, rfl, hb2⟩); have HQ1 := Lib.hid hq1; have HQ2 := Lib.hid hq2; have HQ3 := Lib.hid hq3; have HB2 := Lib.hid hb2; clear hq1 hq2 hq3 hb2; obtain ⟨z, hz⟩ : ∃ z, (decide (q < ns.length) && decide (cmpB (nmA rs (el ns q)) s = 0)) = z := ⟨_, rfl⟩; simp only [hz]; have HZ := Lib.hid hz; clear hz))
  have HP := Lib.hid (H1.out.keep HB2.out)
  have hW2 := HW0.out.keep HB2.out
  have HBB := Lib.hid (HB.out.trans (HB2.out.mono (by have := HW0.out.lt; omega)))
  have f0 := hW2.free 0
  have f1 := hW2.free 1
  have f2 := hW2.free 2
  have f3 := hW2.free 3
  have g0 : w2.cell? ⟨b0, 0, none⟩ = some (.string ⟨#[]⟩) := hW2.cell 0
  have g1 : w2.cell? ⟨b0, 1, none⟩ = some (.int .i64 0) := hW2.cell 1
  have g2 : w2.cell? ⟨b0, 2, none⟩ = some (.int .i64 0) := hW2.cell 2
  have g3 : w2.cell? ⟨b0, 3, none⟩ = some (.bool false) := hW2.cell 3
  have HW2 := Lib.hid hW2
  clear hW2 hW hb0
  cases z
  · obtain ⟨-, p1, p2⟩ := HX.out.miss (s := s) (p := q) HQ2.out HQ3.out (fun hlt e => by
      have := HZ.out
      rw [decide_eq_true hlt, decide_eq_true e] at this
      cases this)
    have P1 := Lib.hid p1
    have P2 := Lib.hid p2
    clear p1 p2
    go_wp2
    have hB := rg_put HW2.out HBB.out (Nat.le_refl _) (.string ⟨#[]⟩) (.int .i64 0) (.int .i64 0) (.bool false)
    generalize (((w2.setCell ⟨b0, 0, none⟩ (.string ⟨#[]⟩)).setCell ⟨b0, 1, none⟩ (.int .i64 0)).setCell ⟨b0, 2, none⟩ (.int .i64 0)).setCell ⟨b0, 3, none⟩ (.bool false) = W5 at hB ⊢
    obtain ⟨⟨p0, p1, p2, p3⟩, pb⟩ := hB
    exact bodyPost_ret (v := .tuple #[rgV rg0, .bool false]) (by simp [results, Try.results9, go_sem, p0, p1, p2, p3, rgV, rg0]) rfl ⟨by rw [P1.out, P2.out], by rw [HB0.out]; exact pb⟩
  · have hz := HZ.out
    simp only [Bool.and_eq_true, decide_eq_true_eq] at hz
    obtain ⟨z1, z2⟩ := hz
    obtain ⟨p1, p2, p3, p4⟩ := HX.out.hit z1 z2
    obtain ⟨n, hnl⟩ : ∃ n, rs.length = n := ⟨_, rfl⟩
    obtain ⟨a, c, rfl, r1, hH⟩ := HP.out.held hnl
    obtain ⟨a2, c2, rfl, hA⟩ := HP.out.nam.at
    have r2 : w2.cell? ⟨t, 2, none⟩ = some (.slice a2 ns.length c2) := HP.out.blk.cell 2
    obtain ⟨l2, hl2⟩ : ∃ l2, ns.length = l2 := ⟨_, rfl⟩
    rw [hl2] at z1 r2 hA
    obtain ⟨j, hj⟩ := Int.eq_ofNat_of_zero_le p3
    rw [hj] at p2 p4
    rw [Int.toNat_natCast] at p2
    obtain ⟨b, off, rfl, d0, d1, d2, d3⟩ := hH.els.rg (i := j) (by omega)
    obtain ⟨b2, off2, rfl, e0⟩ := hA.num z1
    rw [hj] at e0
    have k1 := hH.els.cap
    have k2 := hH.els.big
    have k3 := hA.cap
    have k4 := hA.big
    unfold maxLen at k2 k4
    have P1 := Lib.hid p1
    obtain ⟨r, hr⟩ : ∃ r, el rs j = r := ⟨_, rfl⟩
    rw [hr] at d0 d1 d2 d3 p2
    obtain ⟨r0, q1, q2, q3⟩ := r
    simp only at d0 d1 d2 d3
    have P2 := Lib.hid p2
    have k5 : (j : Int) < n := by omega
    have k6 : (q : Int) < l2 := by omega
    clear p1 p2 p3 p4 z2 hH hA hl2 hj hr
    go_wp2
    go_still_tail 13, (by kernel_rfl)
    go_wp2
    have hB := rg_put HW2.out HBB.out (Nat.le_refl _) (.string r0) (.int .i64 q1) (.int .i64 q2) (.bool q3)
    generalize (((w2.setCell ⟨b0, 0, none⟩ (.string r0)).setCell ⟨b0, 1, none⟩ (.int .i64 q1)).setCell ⟨b0, 2, none⟩ (.int .i64 q2)).setCell ⟨b0, 3, none⟩ (.bool q3) = W5 at hB ⊢
    obtain ⟨⟨p0, p1, p2, p3⟩, pb⟩ := hB
    exact bodyPost_ret (v := .tuple #[rgV (r0, q1, q2, q3), .bool true]) (by simp [results, Try.results9, go_sem, p0, p1, p2, p3, rgV]) rfl ⟨by rw [P1.out, P2.out], by rw [HB0.out]; exact pb.drew⟩
abbrev SeesA (ab b o : Nat) (x0 : Int) (r0 : ByteArray) (q1 q2 : Int) (q3 : Bool) (W : World) : Prop := W.cell? ⟨ab, 0, none⟩ = some (.int .i64 x0) ∧ W.cell? ⟨b, o, none⟩ = some (.string r0) ∧ W.cell? ⟨b, o + 1, none⟩ = some (.int .i64 q1) ∧ W.cell? ⟨b, o + 2, none⟩ = some (.int .i64 q2) ∧ W.cell? ⟨b, o + 3, none⟩ = some (.bool q3)
theorem seesA {ab b b0 o : Nat} {x0 : Int} {r0 : ByteArray} {q1 q2 : Int} {q3 : Bool} {W : World} (h : SeesA ab b o x0 r0 q1 q2 q3 W) (ha : ab ≠ b0) (hb : b ≠ b0) (y0 y1 y2 y3 : Value) : SeesA ab b o x0 r0 q1 q2 q3 ((((W.setCell ⟨b0, 0, none⟩ y0).setCell ⟨b0, 1, none⟩ y1).setCell ⟨b0, 2, none⟩ y2).setCell ⟨b0, 3, none⟩ y3) := by
  have K := (((Keeps.set1 W b0 0 y0).trans (Keeps.set1 _ b0 1 y1)).trans (Keeps.set1 _ b0 2 y2)).trans (Keeps.set1 _ b0 3 y3)
  exact ⟨K.cell ha h.1, K.cell hb h.2.1, K.cell hb h.2.2.1, K.cell hb h.2.2.2.1, K.cell hb h.2.2.2.2⟩
set_option maxRecDepth 100000 in
set_option maxHeartbeats 4000000 in
theorem plaAt_is (h : HeldP p w a n c rs) (hS : Sides size rs) (x0 : Int) (hx0 : -9223372036854775808 ≤ x0) (hx1 : x0 ≤ 9223372036854775807) : Calls Try.prog 11 #[p, .int .i64 x0] w fun e w' => e = .returned (.tuple #[rgV (aV rs x0), .int .i64 (aO rs x0), .bool (aB rs x0)]) ∧ Below w.heap.size w w' := by
  have hn : n ≤ 2048 := by
    have h1 := hS.len
    have h2 := hS.upto (Nat.le_refl _)
    have h3 := h.els.len
    omega
  have kx := (Below.refl w.heap.size w).alloc (Nat.le_refl _) (.cells #[.int .i64 x0] 3)
  have bx := BlkAt.new w 3 #[.int .i64 x0]
  obtain ⟨W1, hW1⟩ : ∃ W, w.alloc (.cells #[.int .i64 x0] 3) = W := ⟨_, rfl⟩
  obtain ⟨ab, hab⟩ : ∃ b0, w.heap.size = b0 := ⟨_, rfl⟩
  rw [hW1] at kx bx
  have hbel := kx.alloc kx.size (.cells #[.string ⟨#[]⟩, .int .i64 0, .int .i64 0, .bool false] 37)
  have hbx := bx.keep ((Below.refl W1.heap.size W1).alloc (Nat.le_refl _) (.cells #[.string ⟨#[]⟩, .int .i64 0, .int .i64 0, .bool false] 37))
  have hW0 := BlkAt.new W1 37 #[.string ⟨#[]⟩, .int .i64 0, .int .i64 0, .bool false]
  obtain ⟨W, hW⟩ : ∃ W, W1.alloc (.cells #[.string ⟨#[]⟩, .int .i64 0, .int .i64 0, .bool false] 37) = W := ⟨_, rfl⟩
  obtain ⟨b0, hb0⟩ : ∃ b0, W1.heap.size = b0 := ⟨_, rfl⟩
  have hle := kx.size
  rw [hW] at hbel hW0 hbx
  rw [hb0] at hW0 hle
  rw [hab] at hbx hle
  have h1 := h.keep hbel
  have C := Lib.hid (h1.call W (Below.refl _ _))
  have hX : W.cell? ⟨ab, 0, none⟩ = some (.int .i64 x0) := hbx.cell 0
  have CS := Lib.hid (plaSeekRg_is hX h1.els hS (by omega))
  have H1 := Lib.hid h1
  have HSD := Lib.hid hS
  have HBX := Lib.hid hbx
  have HW0 := Lib.hid hW0
  have HLE := Lib.hid hle
  have HB := Lib.hid (show Below ab w W by rw [← hab]; exact hbel)
  have HAB := Lib.hid hab
  have HE0 := Lib.hid h.els
  have HNE := Lib.hid (show ab < b0 by rw [← hb0, ← hW1, ← hab]; simp)
  clear h hbel hW0 h1 hS kx bx hbx hX hle
  go_enter Try.func11, Try.ntmps11
  go_upto_if 19 with (first
    | (go_at_call 26; ((with_reducible refine (C.out).mono ?_); rintro e w2 ⟨rfl, rfl⟩))
    | (go_at_call 27; ((with_reducible refine (CS.out).mono ?_); rintro e w2 ⟨q, hq1, hq2, hq3, rfl, hb2⟩); have HQ1 := Lib.hid hq1; have HQ2 := Lib.hid hq2; have HQ3 := Lib.hid hq3; have HB2 := Lib.hid hb2; clear hq1 hq2 hq3 hb2; obtain ⟨z, hz⟩ : ∃ z, (decide (q < n) && decide (sidA x0 (el rs q) = 0)) = z := ⟨_, rfl⟩; simp only [hz]; have HZ := Lib.hid hz; clear hz))
  have HE2 := Lib.hid (H1.out.els.keep HB2.out)
  have hX : w2.cell? ⟨ab, 0, none⟩ = some (.int .i64 x0) := (HBX.out.keep HB2.out).cell 0
  have hW2 := HW0.out.keep HB2.out
  have HBB := Lib.hid (HB.out.trans (HB2.out.mono (by have := HW0.out.lt; have := HLE.out; omega)))
  have f0 := hW2.free 0
  have f1 := hW2.free 1
  have f2 := hW2.free 2
  have f3 := hW2.free 3
  have g0 : w2.cell? ⟨b0, 0, none⟩ = some (.string ⟨#[]⟩) := hW2.cell 0
  have g1 : w2.cell? ⟨b0, 1, none⟩ = some (.int .i64 0) := hW2.cell 1
  have g2 : w2.cell? ⟨b0, 2, none⟩ = some (.int .i64 0) := hW2.cell 2
  have g3 : w2.cell? ⟨b0, 3, none⟩ = some (.bool false) := hW2.cell 3
  have HW2 := Lib.hid hW2
  have hln := H1.out.els.len
  clear hW2 hW hb0 hW1 hab
  cases z
  · obtain ⟨p1, p2, p3⟩ := HSD.out.miss (x := x0) (p := q) HQ2.out (fun i h1 h2 => HQ3.out i h1 (by omega)) (fun hlt e => by
      have := HZ.out
      rw [decide_eq_true (show q < n by omega), decide_eq_true e] at this
      cases this)
    have P1 := Lib.hid p1
    have P2 := Lib.hid p2
    have P3 := Lib.hid p3
    clear p1 p2 p3 hln
    go_wp2
    have hB := rg_put HW2.out HBB.out HLE.out (.string ⟨#[]⟩) (.int .i64 0) (.int .i64 0) (.bool false)
    generalize (((w2.setCell ⟨b0, 0, none⟩ (.string ⟨#[]⟩)).setCell ⟨b0, 1, none⟩ (.int .i64 0)).setCell ⟨b0, 2, none⟩ (.int .i64 0)).setCell ⟨b0, 3, none⟩ (.bool false) = W5 at hB ⊢
    obtain ⟨⟨p0, p1, p2, p3⟩, pb⟩ := hB
    exact bodyPost_ret (v := .tuple #[rgV rg0, .int .i64 0, .bool false]) (by simp [results, Try.results11, go_sem, p0, p1, p2, p3, rgV, rg0]) rfl ⟨by rw [P1.out, P2.out, P3.out], by rw [HAB.out]; exact pb⟩
  · have hz := HZ.out
    simp only [Bool.and_eq_true, decide_eq_true_eq] at hz
    obtain ⟨z1, z2⟩ := hz
    obtain ⟨p1, p2, p3⟩ := sides_hit (x := x0) (p := q) (by omega) HQ2.out z2
    obtain ⟨b, off, rfl, d0, d1, d2, d3⟩ := HE2.out.rg z1
    obtain ⟨e1, e2, e3, e4⟩ := HSD.out.one (i := q) (by omega)
    have k0 := sid_zero.1 z2
    unfold hasP at k0
    simp only [Bool.and_eq_true, decide_eq_true_eq] at k0
    have k1 := HE2.out.cap
    have k2 := HE2.out.big
    unfold maxLen at k2
    obtain ⟨r, hr⟩ : ∃ r, el rs q = r := ⟨_, rfl⟩
    rw [hr] at d0 d1 d2 d3 p2 p3 e1 e2 e3 k0
    obtain ⟨r0, q1, q2, q3⟩ := r
    simp only at d0 d1 d2 d3 p3 e1 e2 e3 k0
    obtain ⟨k3, k4⟩ := k0
    have k5 : q1 + q2 ≤ 2048 := by omega
    have P1 := Lib.hid p1
    have P2 := Lib.hid p2
    have P3 := Lib.hid p3
    have k6 : (q : Int) < n := by omega
    clear p1 p2 p3 z2 hln hr e3 e4
    have hbn : b < ab := by rw [← HAB.out]; exact HE0.out.lt (by omega) b off rfl
    have HS3 := Lib.hid (show SeesA ab b (off + q * 4) x0 r0 q1 q2 q3 w2.drew from ⟨hX, d0, d1, d2, d3⟩)
    have hww : IntKind.i64.wrap (x0 - q1) = x0 - q1 := by rw [IntKind.wrap_i64]; omega
    have hn1 : ab ≠ b0 := by have := HNE.out; omega
    have hn2 : b ≠ b0 := by have := HNE.out; omega
    have HN1 := Lib.hid hn1
    have HN2 := Lib.hid hn2
    clear hbn hn1 hn2
    go_wp2
    refine wp_region_seq [(0, 0, 22, 128), (1, 0, 23, 256), (2, 3, 24, 6291456), (3, 4, 25, 8388608), (4, 0, 26, 8), (5, 0, 27, 128), (6, 0, 28, 256), (7, 96, 29, 201326592), (8, 128, 30, 268435456), (9, 256, 31, 536870912), (10, 528, 32, 1107296256), (11, 15, 0, 16777232), (12, 4095, 6, 2147483648), (13, 8191, 7, 0)] [(true, 0, 1), (true, 1, 3), (true, 2, 7), (true, 3, 15), (true, 4, 31), (true, 5, 63), (true, 6, 127), (true, 7, 255), (true, 8, 511), (true, 9, 1023), (true, 10, 2047), (false, 11, 4095), (true, 12, 8191), (true, 13, 16383)] (fun w' => w'.cell? ⟨ab, 0, none⟩ = some (.int .i64 x0) ∧ w'.cell? ⟨b, off + q * 4, none⟩ = some (.string r0) ∧ w'.cell? ⟨b, off + q * 4 + 1, none⟩ = some (.int .i64 q1) ∧ w'.cell? ⟨b, off + q * 4 + 2, none⟩ = some (.int .i64 q2) ∧ w'.cell? ⟨b, off + q * 4 + 3, none⟩ = some (.bool q3)) (by kernel_rfl) (by kernel_rfl) (by kernel_rfl) (by kernel_rfl) (by kernel_rfl) (HS3.out) ?_
    (refine SeqH.take (v := ?_) rfl rfl ?_ ?_; rotate_left; (intro w' hw'; (try dsimp only at hw'); go_simp; try with_reducible rfl); go_simp)
    (refine SeqH.take (v := ?_) rfl rfl ?_ ?_; rotate_left; (intro w' hw'; (try dsimp only at hw'); go_simp; try with_reducible rfl); go_simp)
    (refine SeqH.take (v := ?_) rfl rfl ?_ ?_; rotate_left; (intro w' hw'; (try dsimp only at hw'); go_simp; try with_reducible rfl); go_simp)
    (refine SeqH.take (v := ?_) rfl rfl ?_ ?_; rotate_left; (intro w' hw'; (try dsimp only at hw'); go_simp; try with_reducible rfl); go_simp)
    (refine SeqH.take (v := ?_) rfl rfl ?_ ?_; rotate_left; (intro w' hw'; (try dsimp only at hw'); go_simp; try with_reducible rfl); go_simp)
    (refine SeqH.take (v := ?_) rfl rfl ?_ ?_; rotate_left; (intro w' hw'; (try dsimp only at hw'); go_simp; try with_reducible rfl); go_simp)
    (refine SeqH.take (v := ?_) rfl rfl ?_ ?_; rotate_left; (intro w' hw'; (try dsimp only at hw'); go_simp; try with_reducible rfl); go_simp)
    (refine SeqH.take (v := ?_) rfl rfl ?_ ?_; rotate_left; (intro w' hw'; (try dsimp only at hw'); go_simp; try with_reducible rfl); go_simp)
    (refine SeqH.take (v := ?_) rfl rfl ?_ ?_; rotate_left; (intro w' hw'; (try dsimp only at hw'); go_simp; try with_reducible rfl); go_simp)
    (refine SeqH.take (v := ?_) rfl rfl ?_ ?_; rotate_left; (intro w' hw'; (try dsimp only at hw'); go_simp; try with_reducible rfl); go_simp)
    (refine SeqH.take (v := ?_) rfl rfl ?_ ?_; rotate_left; (intro w' hw'; (try dsimp only at hw'); go_simp; try with_reducible rfl); go_simp)
    refine SeqH.step rfl rfl (fun K hK => ?_)
    go_simp
    refine hK _ _ (seesA HS3.out HN1.out HN2.out _ _ _ _) ?_
    clear hK K
    (refine SeqH.take (v := ?_) rfl rfl ?_ ?_; rotate_left; (intro w' hw'; (try dsimp only at hw'); go_simp; try with_reducible rfl); go_simp)
    (refine SeqH.take (v := ?_) rfl rfl ?_ ?_; rotate_left; (intro w' hw'; (try dsimp only at hw'); go_simp; try with_reducible rfl); go_simp)
    refine SeqH.done (NoPanic.normal ?_)
    go_wp2
    have hB := rg_put HW2.out HBB.out HLE.out (.string r0) (.int .i64 q1) (.int .i64 q2) (.bool q3)
    generalize (((w2.setCell ⟨b0, 0, none⟩ (.string r0)).setCell ⟨b0, 1, none⟩ (.int .i64 q1)).setCell ⟨b0, 2, none⟩ (.int .i64 q2)).setCell ⟨b0, 3, none⟩ (.bool q3) = W5 at hB ⊢
    obtain ⟨⟨p0, p1, p2, p3⟩, pb⟩ := hB
    exact bodyPost_ret (v := .tuple #[rgV (r0, q1, q2, q3), .int .i64 (x0 - q1), .bool true]) (by simp [results, Try.results11, go_sem, p0, p1, p2, p3, rgV]) rfl ⟨by rw [P1.out, P2.out, P3.out], by rw [HAB.out]; exact pb.drew⟩
end
end Go.Proofs.Ytpgjdbnhbkggpaa
