/- The walk of the law PlanPlays: it returns true and writes nothing that was there. -/
import Derived.Test.YtpgjdbnhbkggpaaPlaL
import Derived.Deep.RegionHeld3
namespace Go.Proofs.Ytpgjdbnhbkggpaa
open Go.RowKit Go.IntWalk

namespace planPlays
/-- What a region's load finds. -/
abbrev SeesX (x : Nat) (a : Option Addr) (n c : Nat) (w W : World) : Prop := W.cell? ⟨x, 1, none⟩ = some (.slice a n c) ∧ Below w.heap.size w W
theorem seesX_on {x : Nat} {a : Option Addr} {n c : Nat} {w W W' : World} (h : SeesX x a n c w W) (hx : x < w.heap.size) (k : Below W.heap.size W W') : SeesX x a n c w W' :=
  ⟨(k.cell (p := ⟨x, 1, none⟩) (Nat.lt_of_lt_of_le hx h.2.size)).trans h.1, h.2.trans (k.mono h.2.size)⟩
set_option maxRecDepth 100000 in
set_option maxHeartbeats 8000000 in
theorem within (size : Int) (a : Option Addr) (n c : Nat) (l : List Wn) (name : ByteArray) (x0 : Int) (w : World) (h : ElAt wnK w a n c l) (hs : ∀ x ∈ l, x.1.size ≤ maxLen) (hn : n ≤ 60) (h0 : 0 ≤ size) (h1 : size ≤ 2048) (hx0 : -9223372036854775808 ≤ x0) (hx1 : x0 ≤ 9223372036854775807) :
    Calls Try.prog 3 #[.int .i64 size, .slice a n c, .string name, .int .i64 x0] w fun e w' => e = .returned (.bool true) ∧ Below w.heap.size w w' := by
  have hcap := h.cap
  have hbig := h.big
  unfold maxLen at hbig
  have HL := Lib.hid h
  have HLN := Lib.hid h.len
  have HS := Lib.hid hs
  have HSZ := Lib.hid (And.intro h0 h1)
  have hn' : (n : Int) ≤ 60 := by omega
  have h0' : ¬ size < 0 := by omega
  have h1' : ¬ 2048 < size := by omega
  clear h hs
  go_enter Try.func3, Try.ntmps3
  go_wp2_with (first
    | (go_at_call 6; ((with_reducible refine (plaNew_is w.heap.size size w HSZ.out.1 HSZ.out.2 (Nat.le_refl _)).mono ?_); rintro e w1 ⟨t, F, rfl, h2, hF1, hb1⟩); have H1 := Lib.hid h2; have HB1 := Lib.hid hb1; have hs1 := hb1.size; clear h2 hb1 hF1))
  have HT0 := Lib.hid (show PPair w.heap.size (w1.alloc (.cells #[.int .i64 size, .slice none 0 0] 31)) t w1.heap.size size (rsOf size (l.take 0) []) (rsOf size (l.take 0) []) from ⟨F, fun j => j = w1.heap.size, H1.out.keep ((Below.refl _ _).alloc (Nat.le_refl _) _), RefPn.new w1 w.heap.size size hs1, fun j f q => by have := (H1.out.low j f).2; omega⟩)
  have HB0 := Lib.hid (HB1.out.alloc hs1 (.cells #[.int .i64 size, .slice none 0 0] 31))
  obtain ⟨x, hx⟩ : ∃ x, w1.heap.size = x := ⟨_, rfl⟩
  obtain ⟨w0, hw0⟩ : ∃ W, w1.alloc (.cells #[.int .i64 size, .slice none 0 0] 31) = W := ⟨_, rfl⟩
  rw [hw0] at HT0 HB0
  rw [hx] at HT0
  rw [hw0]
  simp only [hx]
  clear hw0 hx H1 HB1 hs1
  go_loopw [12] (fun i wr => ∃ k : Nat, k ≤ n ∧ i = .int .i64 k ∧ PPair w.heap.size wr t x size (rsOf size (l.take k) []) (rsOf size (l.take k) []) ∧ Below w.heap.size w wr) (fun i _ => n - (intOf i).toNat)
  case atStart => exact ⟨0, by omega, rfl, HT0.out, HB0.out⟩
  case round =>
    clear HT0 HB0
    obtain ⟨k, hk, rfl, ht, hb⟩ := hrel
    have HTW := Lib.hid ht
    have HB := Lib.hid hb
    have hsz := hb.size
    have hSd : Sides size (rsOf size (l.take k) []) := by obtain ⟨F, G, q, -, -⟩ := ht; exact q.sid
    have HSD := Lib.hid hSd
    have hRL := rsOf_len' size (l := l) (k := k) (by rw [HLN.out]; exact hk)
    by_cases hlt : k < n
    · have hlt' : (k : Int) < n := by omega
      have hkl : k < l.length := by rw [HLN.out]; exact hlt
      obtain ⟨b, off, rfl, d0, d1, d2⟩ := (HL.out.keep hb).wn hlt
      have hbl : b < w.heap.size := HL.out.lt (by omega) b off rfl
      have hRT := rsOf_take size hkl
      have hSM := HS.out (el l k) (by rw [← el_eq hkl]; exact List.getElem_mem _)
      obtain ⟨Mx, hM⟩ : ∃ Mx, el l k = Mx := ⟨_, rfl⟩
      obtain ⟨s, m, fl⟩ := Mx
      rw [hM] at d0 d1 d2 hRT hSM
      simp only at d0 d1 d2 hRT hSM
      obtain ⟨rs, hrs⟩ : ∃ rs, rsOf size (l.take k) [] = rs := ⟨_, rfl⟩
      rw [hrs] at HTW HSD hRL hRT
      have HRT := Lib.hid hRT
      have HBL := Lib.hid hbl
      by_cases hsl : 100 < s.size
      · have hsl' : (100 : Int) < s.size := by omega
        clear ht hb hRT hSM hRL hM hkl hsl hSd hrs
        go_wp2_with (go_at_call 5; ((with_reducible refine (plaAwake_is _).mono ?_); rintro e w9 ⟨rfl, hb9⟩); have HB9 := Lib.hid hb9; clear hb9)
        go_ret
        exact ⟨rfl, HB.out.trans (HB9.out.mono hsz)⟩
      · have hsl' : (s.size : Int) ≤ 100 := by omega
        have K1 := Lib.hid (fun W (h : PPair w.heap.size W t x size rs rs) (h2 : SeesW b (off + k * 3) s m fl w W) => ppair_all1 (s := s) (m := m) (k := fl) h hSM (by omega) h2.2.size)
        have K2 := Lib.hid (fun W (h : PPair w.heap.size W t x size (allS size rs s m fl) rs) (h2 : SeesW b (off + k * 3) s m fl w W) => ppair_all2 (s := s) (m := m) (k := fl) h HSD.out hSM (by omega) h2.2.size)
        obtain ⟨dv, hdv⟩ : ∃ z, allV size rs s m = z := ⟨_, rfl⟩
        obtain ⟨de, hde⟩ : ∃ z, allE size rs s m = z := ⟨_, rfl⟩
        rw [hdv, hde] at K1 K2
        have hne : (de != de) = false := by simp
        have hne2 : (dv != dv) = false := by simp
        have hS0 : (wr.drew.cell? ⟨b, off + k * 3, none⟩ = some (.string s) ∧ wr.drew.cell? ⟨b, off + k * 3 + 1, none⟩ = some (.int .i64 m) ∧ wr.drew.cell? ⟨b, off + k * 3 + 2, none⟩ = some (.bool fl)) ∧ Below w.heap.size w wr.drew := ⟨⟨d0, d1, d2⟩, HB.out.drew⟩
        have HP := Lib.hid (HTW.out.keep (Below.refl wr.heap.size wr).drew)
        clear ht hb hRT hSM hRL hM hkl hsl hdv hde hSd hrs
        go_wp2
        go_region_held (fun W => (W.cell? ⟨b, off + k * 3, none⟩ = some (.string s) ∧ W.cell? ⟨b, off + k * 3 + 1, none⟩ = some (.int .i64 m) ∧ W.cell? ⟨b, off + k * 3 + 2, none⟩ = some (.bool fl)) ∧ Below w.heap.size w W)
          (first | with_reducible assumption)
          (first
            | (go_at_call 7; ((with_reducible refine (K1.out _ HP.out (by assumption)).mono ?_); rintro e w3 ⟨rfl, ht3, hb3⟩); have HP3 := Lib.hid (ht3.keep (Below.refl _ _).drew); have hS := seesW_on hS0 HBL.out hb3; have hSd3 := seesW_on hS HBL.out (Below.refl _ _).drew; clear ht3 hb3))
        go_upto_region 15 with (fail)
        go_region_held (fun W => (W.cell? ⟨b, off + k * 3, none⟩ = some (.string s) ∧ W.cell? ⟨b, off + k * 3 + 1, none⟩ = some (.int .i64 m) ∧ W.cell? ⟨b, off + k * 3 + 2, none⟩ = some (.bool fl)) ∧ Below w.heap.size w W)
          (first | with_reducible assumption)
          (first
            | (go_at_call 8; ((with_reducible refine (K2.out _ HP3.out (by assumption)).mono ?_); rintro e w4 ⟨rfl, ht4, hb4⟩); have HP4 := Lib.hid ht4; have hS := seesW_on hSd3 HBL.out hb4; clear ht4 hb4))
        go_wp2
        go_roundw
        case rel => exact ⟨k + 1, by omega, by go_num, by rw [HRT.out]; exact HP4.out, hS.2⟩
        case measure => simp [intOf]; omega
    · obtain rfl : n = k := by omega
      have HTK := Lib.hid (show l.take n = l by rw [← HLN.out, List.take_length])
      obtain ⟨rs, hrs⟩ : ∃ rs, rsOf size l [] = rs := ⟨_, rfl⟩
      rw [HTK.out, hrs] at HTW HSD hRL
      obtain ⟨N, hN⟩ : ∃ z, rs.length = z := ⟨_, rfl⟩
      obtain ⟨N2, hN2⟩ : ∃ z, (secL rs).length = z := ⟨_, rfl⟩
      have R1 := fun W (h : Below wr.heap.size wr W) => ppair_find1 (HTW.out.keep h) name (by omega)
      have R2 := fun W (h : Below wr.heap.size wr W) => ppair_find2 (HTW.out.keep h) name (by omega)
      have R3 := fun W (h : Below wr.heap.size wr W) => ppair_at1 (HTW.out.keep h) x0 hx0 hx1
      have R4 := fun W (h : Below wr.heap.size wr W) => ppair_at2 (HTW.out.keep h) x0 HSD.out (by omega)
      have R5 := fun W (h : Below wr.heap.size wr W) => ppair_used1 (HTW.out.keep h)
      have R6 := fun W (h : Below wr.heap.size wr W) => ppair_used2 (HTW.out.keep h) HSD.out (by omega)
      have R7 := fun W (h : Below wr.heap.size wr W) => ppair_regs (HTW.out.keep h) hN (by omega)
      have R8 := fun W (h : Below wr.heap.size wr W) => ppair_secs1 (HTW.out.keep h) hN2
      have R9 := fun W (h : Below wr.heap.size wr W) => ppair_secs2 (HTW.out.keep h) HSD.out hN2
      obtain ⟨fr, hfr⟩ : ∃ z, fV rs name = z := ⟨_, rfl⟩
      obtain ⟨fb, hfb⟩ : ∃ z, fB rs name = z := ⟨_, rfl⟩
      obtain ⟨ar, har⟩ : ∃ z, aV rs x0 = z := ⟨_, rfl⟩
      obtain ⟨ao, hao⟩ : ∃ z, aO rs x0 = z := ⟨_, rfl⟩
      obtain ⟨ab, hab⟩ : ∃ z, aB rs x0 = z := ⟨_, rfl⟩
      obtain ⟨u, hu⟩ : ∃ z, usedR rs = z := ⟨_, rfl⟩
      obtain ⟨f0, f1, f2, f3⟩ := fr
      obtain ⟨g0, g1, g2, g3⟩ := ar
      simp only [hfr, hfb, har, hao, hab, hu, rgV] at R1 R2 R3 R4 R5 R6
      have HR1 := Lib.hid R1
      have HR2 := Lib.hid R2
      have HR3 := Lib.hid R3
      have HR4 := Lib.hid R4
      have HR5 := Lib.hid R5
      have HR6 := Lib.hid R6
      have HR7 := Lib.hid R7
      have HR8 := Lib.hid R8
      have HR9 := Lib.hid R9
      have e1 := eq_rg f0 f1 f2 f3
      have e2 := eq_rg g0 g1 g2 g3
      have e3 : (fb == fb) = true := by simp
      have e4 : (ab == ab) = true := by simp
      have e5 : (ao == ao) = true := by simp
      have e6 : (u == u) = true := by simp
      clear R1 R2 R3 R4 R5 R6 R7 R8 R9 hfr hfb har hao hab hu ht hb hlt hSd hrs
      go_upto_region 22 with (first
        | (go_at_call 9; ((with_reducible refine (HR1.out _ (Below.refl _ _)).mono ?_); rintro e w3 ⟨rfl, hb3⟩); have HB3 := Lib.hid (hb3.alloc hb3.size (.cells #[.string f0, .int .i64 f1, .int .i64 f2, .bool f3] 37)); have HQ3 := Lib.hid (BlkAt.new w3 37 #[.string f0, .int .i64 f1, .int .i64 f2, .bool f3]); clear hb3)
        | (go_at_call 10; ((with_reducible refine (HR2.out _ HB3.out).mono ?_); rintro e w4 ⟨rfl, hb4⟩); have HK4 := Lib.hid (hb4.alloc hb4.size (.cells #[.string f0, .int .i64 f1, .int .i64 f2, .bool f3] 37)); have HB4 := Lib.hid (HB3.out.trans (HK4.out.mono HB3.out.size)); have HQ4 := Lib.hid (BlkAt.new w4 37 #[.string f0, .int .i64 f1, .int .i64 f2, .bool f3]); clear hb4)
        | (go_at_call 11; ((with_reducible refine (HR3.out _ HB4.out).mono ?_); rintro e w5 ⟨rfl, hb5⟩); have HK5 := Lib.hid (hb5.alloc hb5.size (.cells #[.string g0, .int .i64 g1, .int .i64 g2, .bool g3] 37)); have HB5 := Lib.hid (HB4.out.trans (HK5.out.mono HB4.out.size)); have HQ5 := Lib.hid (BlkAt.new w5 37 #[.string g0, .int .i64 g1, .int .i64 g2, .bool g3]); clear hb5)
        | (go_at_call 12; ((with_reducible refine (HR4.out _ HB5.out).mono ?_); rintro e w6 ⟨rfl, hb6⟩); have HK6 := Lib.hid (hb6.alloc hb6.size (.cells #[.string g0, .int .i64 g1, .int .i64 g2, .bool g3] 37)); have HB6 := Lib.hid (HB5.out.trans (HK6.out.mono HB5.out.size)); have HQ6 := Lib.hid (BlkAt.new w6 37 #[.string g0, .int .i64 g1, .int .i64 g2, .bool g3]); clear hb6))
      have b3 := ((HQ3.out.keep HK4.out).keep HK5.out).keep HK6.out
      have b4 := (HQ4.out.keep HK5.out).keep HK6.out
      have b5 := HQ5.out.keep HK6.out
      have b6 := HQ6.out
      obtain ⟨W7, hW7⟩ : ∃ W, w6.alloc (.cells #[.string g0, .int .i64 g1, .int .i64 g2, .bool g3] 37) = W := ⟨_, rfl⟩
      obtain ⟨q3, hq3⟩ : ∃ q, w3.heap.size = q := ⟨_, rfl⟩
      obtain ⟨q4, hq4⟩ : ∃ q, w4.heap.size = q := ⟨_, rfl⟩
      obtain ⟨q5, hq5⟩ : ∃ q, w5.heap.size = q := ⟨_, rfl⟩
      obtain ⟨q6, hq6⟩ : ∃ q, w6.heap.size = q := ⟨_, rfl⟩
      rw [hW7] at b3 b4 b5 b6 HB6 ⊢
      rw [hq3] at b3
      rw [hq4] at b4
      rw [hq5] at b5
      rw [hq6] at b6
      simp only [hq3, hq4, hq5, hq6]
      have r0 : W7.cell? ⟨q3, 0, none⟩ = some (.string f0) := b3.cell 0
      have r1 : W7.cell? ⟨q3, 1, none⟩ = some (.int .i64 f1) := b3.cell 1
      have r2 : W7.cell? ⟨q3, 2, none⟩ = some (.int .i64 f2) := b3.cell 2
      have r3 : W7.cell? ⟨q3, 3, none⟩ = some (.bool f3) := b3.cell 3
      have s0 : W7.cell? ⟨q4, 0, none⟩ = some (.string f0) := b4.cell 0
      have s1 : W7.cell? ⟨q4, 1, none⟩ = some (.int .i64 f1) := b4.cell 1
      have s2 : W7.cell? ⟨q4, 2, none⟩ = some (.int .i64 f2) := b4.cell 2
      have s3 : W7.cell? ⟨q4, 3, none⟩ = some (.bool f3) := b4.cell 3
      have t0 : W7.cell? ⟨q5, 0, none⟩ = some (.string g0) := b5.cell 0
      have t1 : W7.cell? ⟨q5, 1, none⟩ = some (.int .i64 g1) := b5.cell 1
      have t2 : W7.cell? ⟨q5, 2, none⟩ = some (.int .i64 g2) := b5.cell 2
      have t3 : W7.cell? ⟨q5, 3, none⟩ = some (.bool g3) := b5.cell 3
      have v0 : W7.cell? ⟨q6, 0, none⟩ = some (.string g0) := b6.cell 0
      have v1 : W7.cell? ⟨q6, 1, none⟩ = some (.int .i64 g1) := b6.cell 1
      have v2 : W7.cell? ⟨q6, 2, none⟩ = some (.int .i64 g2) := b6.cell 2
      have v3 : W7.cell? ⟨q6, 3, none⟩ = some (.bool g3) := b6.cell 3
      clear b3 b4 b5 b6 hW7 hq3 hq4 hq5 hq6
      go_upto_region 24 with (first
        | (go_at_call 13; ((with_reducible refine (HR5.out _ HB6.out).mono ?_); rintro e w8 ⟨rfl, hb8⟩); have HB8 := Lib.hid (HB6.out.trans (hb8.mono HB6.out.size)); clear hb8)
        | (go_at_call 14; ((with_reducible refine (HR6.out _ HB8.out).mono ?_); rintro e w9 ⟨rfl, rfl⟩)))
      obtain ⟨aL, cL, p1, pE⟩ := (HTW.out.keep HB8.out).list hN
      have HPE := Lib.hid pE
      have hS0 : w8.drew.cell? ⟨x, 1, none⟩ = some (.slice aL N cL) ∧ Below w8.heap.size w8 w8.drew := ⟨p1, (Below.refl _ _).drew⟩
      have HB8' := Lib.hid HB8.out
      have KR := Lib.hid (fun W (h : SeesX x aL N cL w8 W) => HR7.out W (HB8'.out.trans (h.2.mono HB8'.out.size)))
      have KS := Lib.hid (fun W (h : SeesX x aL N cL w8 W) => HR8.out W (HB8'.out.trans (h.2.mono HB8'.out.size)))
      have KT := Lib.hid (fun W (h : SeesX x aL N cL w8 W) => HR9.out W (HB8'.out.trans (h.2.mono HB8'.out.size)))
      have HXL := Lib.hid (cell_lt p1)
      clear p1 pE hN hN2 r0 r1 r2 r3 s0 s1 s2 s3 t0 t1 t2 t3 v0 v1 v2 v3
      go_region_held (fun W => W.cell? ⟨x, 1, none⟩ = some (.slice aL N cL) ∧ Below w8.heap.size w8 W)
        (first | with_reducible assumption)
        (first
          | (go_at_call 16; ((with_reducible refine (KR.out _ (by assumption)).mono ?_); rintro e w9 ⟨a9, c9, rfl, hE9, hb9⟩); have hS1 := seesX_on hS0 HXL.out hb9; have HE9 := Lib.hid hE9; have HE9d := Lib.hid (hE9.keep (Below.refl _ _).drew); clear hE9 hb9)
          | (go_at_call 15; ((with_reducible refine (refSame20_is HE9.out (HPE.out.keep hS1.2)).mono ?_); rintro e w10 ⟨rfl, hb10⟩); have hS2 := seesX_on hS1 HXL.out hb10; clear hb10)
          | (go_at_call 18; ((with_reducible refine (KS.out _ (by assumption)).mono ?_); rintro e w11 ⟨a11, c11, rfl, hE11, hb11⟩); have hS3 := seesX_on hS2 HXL.out hb11; have HE11 := Lib.hid hE11; clear hE11 hb11)
          | (go_at_call 19; ((with_reducible refine (KT.out _ (by assumption)).mono ?_); rintro e w12 ⟨a12, c12, rfl, hE12, hb12⟩); have hS4 := seesX_on hS3 HXL.out hb12; have HE12 := Lib.hid hE12; have HE11k := Lib.hid (HE11.out.keep hb12); clear hE12 hb12)
          | (go_at_call 17; ((with_reducible refine (refBools20_is HE11k.out HE12.out).mono ?_); rintro e w13 ⟨rfl, hb13⟩); have hS5 := seesX_on hS4 HXL.out hb13; clear hb13)
          | (go_at_call 5; ((with_reducible refine (plaAwake_is _).mono ?_); rintro e w14 ⟨rfl, hb14⟩); have hS6 := seesX_on hS5 HXL.out hb14; clear hb14))
      go_wp2
      go_ret
      have hB8 := HB8.out
      exact ⟨rfl, HB.out.trans ((hB8.trans (hS6.2.mono hB8.size)).mono hsz)⟩
set_option maxRecDepth 100000 in
set_option maxHeartbeats 1000000 in
theorem walk (size : Int) (a : Option Addr) (n c : Nat) (l : List Wn) (name : ByteArray) (x0 : Int) (w : World) (_hz : (Lit.int .i64 size).wf = true) (h : ElAt wnK w a n c l ∧ ∀ x ∈ l, x.1.size ≤ maxLen) (_hw : name.size ≤ maxLen) (hx : (Lit.int .i64 x0).wf = true) :
    Calls Try.prog 3 #[.int .i64 size, .slice a n c, .string name, .int .i64 x0] w fun e w' => e = .returned (.bool true) ∧ Below w.heap.size w w' := by
  simp [Lit.wf, IntKind.min, IntKind.max, IntKind.bits, IntKind.signed] at hx
  by_cases hn : n ≤ 60
  · by_cases hz : 0 ≤ size ∧ size ≤ 2048
    · exact within size a n c l name x0 w h.1 h.2 hn hz.1 hz.2 hx.1 hx.2
    · have hcap := h.1.cap
      have hbig := h.1.big
      unfold maxLen at hbig
      have hn' : (n : Int) ≤ 60 := by omega
      have HN := Lib.hid (plaNew_no size w (by omega))
      by_cases h0 : size < 0
      · clear h hz hn
        go_enter Try.func3, Try.ntmps3
        go_wp2_with (first
          | (go_at_call 6; ((with_reducible refine (HN.out).mono ?_); rintro e w1 ⟨rfl, rfl⟩))
          | (go_at_call 5; ((with_reducible refine (plaAwake_is _).mono ?_); rintro e w9 ⟨rfl, hb9⟩); have HB9 := Lib.hid hb9; clear hb9))
        go_ret
        exact ⟨rfl, HB9.out⟩
      · have h1 : 2048 < size := by omega
        clear h hz hn
        go_enter Try.func3, Try.ntmps3
        go_wp2_with (first
          | (go_at_call 6; ((with_reducible refine (HN.out).mono ?_); rintro e w1 ⟨rfl, rfl⟩))
          | (go_at_call 5; ((with_reducible refine (plaAwake_is _).mono ?_); rintro e w9 ⟨rfl, hb9⟩); have HB9 := Lib.hid hb9; clear hb9))
        go_ret
        exact ⟨rfl, HB9.out⟩
  · have hcap := h.1.cap
    have hbig := h.1.big
    unfold maxLen at hbig
    have hn' : (60 : Int) < n := by omega
    clear h hn
    go_enter Try.func3, Try.ntmps3
    go_wp2_with (go_at_call 5; ((with_reducible refine (plaAwake_is _).mono ?_); rintro e w9 ⟨rfl, hb9⟩); have HB9 := Lib.hid hb9; clear hb9)
    go_ret
    exact ⟨rfl, HB9.out⟩
end planPlays
end Go.Proofs.Ytpgjdbnhbkggpaa
