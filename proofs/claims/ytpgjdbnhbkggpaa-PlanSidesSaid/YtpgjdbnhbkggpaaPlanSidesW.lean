/- The walk of the law PlanSides: it returns true and writes nothing that was there. -/
import Derived.Test.YtpgjdbnhbkggpaaPlaL
import Derived.Deep.RegionHeld3
import Derived.Deep.QuietTactic
import Derived.BigQuiet
namespace Go.Proofs.Ytpgjdbnhbkggpaa
open Go.RowKit Go.IntWalk

namespace planSides
/-- What the loop over the addresses finds. -/
structure Found (B : Nat) (W : World) (t : Nat) (size : Int) (rs : Rgs) (F : Nat → Prop) (a : Option Addr) (n c : Nat) (a' : Option Addr) (n' c' : Nat) : Prop where
  pla : PlaAt B W t size rs F
  regs : ElAt rgK W a n c rs
  secs : ElAt boolK W a' n' c' (secL rs)
theorem Found.keep {B t n c n' c' : Nat} {W W' : World} {size : Int} {rs : Rgs} {F : Nat → Prop} {a a' : Option Addr} (h : Found B W t size rs F a n c a' n' c') (k : Below W.heap.size W W') : Found B W' t size rs F a n c a' n' c' :=
  ⟨h.pla.keep k, h.regs.keep k, h.secs.keep k⟩
/-- What a region's loads find. -/
abbrev SeesQ (q : Nat) (r1 : Int) (r3 : Bool) (w W : World) : Prop := (W.cell? ⟨q, 1, none⟩ = some (.int .i64 r1) ∧ W.cell? ⟨q, 3, none⟩ = some (.bool r3)) ∧ Below w.heap.size w W
abbrev SeesQS (q sb o : Nat) (r1 : Int) (r3 : Bool) (w W : World) : Prop := (W.cell? ⟨q, 1, none⟩ = some (.int .i64 r1) ∧ W.cell? ⟨q, 3, none⟩ = some (.bool r3) ∧ W.cell? ⟨sb, o, none⟩ = some (.bool r3)) ∧ Below w.heap.size w W
theorem sees_q {q : Nat} {r1 : Int} {r3 : Bool} {w W W' : World} (h : SeesQ q r1 r3 w W) (hq : q < w.heap.size) (k : Below W.heap.size W W') : SeesQ q r1 r3 w W' :=
  have hq' : q < W.heap.size := Nat.lt_of_lt_of_le hq h.2.size
  ⟨⟨(k.cell (p := ⟨q, 1, none⟩) hq').trans h.1.1, (k.cell (p := ⟨q, 3, none⟩) hq').trans h.1.2⟩, h.2.trans (k.mono h.2.size)⟩
theorem sees_qs {q sb o : Nat} {r1 : Int} {r3 : Bool} {w W W' : World} (h : SeesQS q sb o r1 r3 w W) (hq : q < w.heap.size) (hs : sb < w.heap.size) (k : Below W.heap.size W W') : SeesQS q sb o r1 r3 w W' :=
  have hq' : q < W.heap.size := Nat.lt_of_lt_of_le hq h.2.size
  have hs' : sb < W.heap.size := Nat.lt_of_lt_of_le hs h.2.size
  ⟨⟨(k.cell (p := ⟨q, 1, none⟩) hq').trans h.1.1, (k.cell (p := ⟨q, 3, none⟩) hq').trans h.1.2.1, (k.cell (p := ⟨sb, o, none⟩) hs').trans h.1.2.2⟩, h.2.trans (k.mono h.2.size)⟩
set_option maxRecDepth 100000 in
set_option maxHeartbeats 16000000 in
theorem within (size : Int) (a : Option Addr) (n c : Nat) (l : List Wn) (w : World) (h : ElAt wnK w a n c l) (hs : ∀ x ∈ l, x.1.size ≤ maxLen) (hn : n ≤ 60) (h0 : 0 ≤ size) (h1 : size ≤ 300) :
    Calls Try.prog 4 #[.int .i64 size, .slice a n c] w fun e w' => e = .returned (.bool true) ∧ Below w.heap.size w w' := by
  have hcap := h.cap
  have hbig := h.big
  unfold maxLen at hbig
  have HL := Lib.hid h
  have HLN := Lib.hid h.len
  have HS := Lib.hid hs
  have HSZ := Lib.hid (And.intro h0 h1)
  have hn' : (n : Int) ≤ 60 := by omega
  have h0' : ¬ size < 0 := by omega
  have h1' : ¬ 300 < size := by omega
  clear h hs
  go_enter Try.func4, Try.ntmps4
  go_wp2_with (first
    | (go_at_call 6; ((with_reducible refine (plaNew_is w.heap.size size w HSZ.out.1 (Int.le_trans HSZ.out.2 (by decide)) (Nat.le_refl _)).mono ?_); rintro e w1 ⟨t, F, rfl, h2, hF1, hb1⟩); have H1 := Lib.hid (show ∃ F, PlaAt w.heap.size w1 t size (rsOf size (l.take 0) []) F from ⟨F, h2⟩); have HB1 := Lib.hid hb1; have hs1 := hb1.size; clear h2 hb1 hF1))
  go_loopw [7] (fun i wr => ∃ k : Nat, k ≤ n ∧ i = .int .i64 k ∧ (∃ F, PlaAt w.heap.size wr t size (rsOf size (l.take k) []) F) ∧ Below w.heap.size w wr) (fun i _ => n - (intOf i).toNat)
  case atStart => exact ⟨0, by omega, rfl, H1.out, HB1.out⟩
  case round =>
    clear H1 HB1 hs1
    obtain ⟨k, hk, rfl, ht, hb⟩ := hrel
    have HTW := Lib.hid ht
    have HB := Lib.hid hb
    have hsz := hb.size
    have hRL := rsOf_len' size (l := l) (k := k) (by rw [HLN.out]; exact hk)
    by_cases hlt : k < n
    · have hlt' : (k : Int) < n := by omega
      have hkl : k < l.length := by rw [HLN.out]; exact hlt
      obtain ⟨b, off, rfl, d0, d1, d2⟩ := (HL.out.keep hb).wn hlt
      have hbl : b < w.heap.size := HL.out.lt (by omega) b off rfl
      have hRT := rsOf_take size hkl
      have hSM := HS.out (el l k) (by rw [← el_eq hkl]; exact List.getElem_mem _)
      obtain ⟨Mx, hM⟩ : ∃ Mx, el l k = Mx := ⟨_, rfl⟩
      obtain ⟨s, m, fl⟩ := Mx
      rw [hM] at d0 d1 d2 hRT hSM
      simp only at d0 d1 d2 hRT hSM
      obtain ⟨rs, hrs⟩ : ∃ rs, rsOf size (l.take k) [] = rs := ⟨_, rfl⟩
      rw [hrs] at HTW hRL hRT
      have HRT := Lib.hid hRT
      have HBL := Lib.hid hbl
      obtain ⟨F0, hF0⟩ := HTW.out
      have K1 := Lib.hid (fun W (h : PlaAt w.heap.size W t size rs F0) (h2 : SeesW b (off + k * 3) s m fl w W) => pone_all (s := s) (m := m) (k := fl) h hSM (by omega) h2.2.size)
      have hS0 : (wr.drew.cell? ⟨b, off + k * 3, none⟩ = some (.string s) ∧ wr.drew.cell? ⟨b, off + k * 3 + 1, none⟩ = some (.int .i64 m) ∧ wr.drew.cell? ⟨b, off + k * 3 + 2, none⟩ = some (.bool fl)) ∧ Below w.heap.size w wr.drew := ⟨⟨d0, d1, d2⟩, HB.out.drew⟩
      have HP := Lib.hid (hF0.keep (Below.refl wr.heap.size wr).drew)
      clear ht hb hRT hSM hRL hM hkl hrs hF0
      go_wp2
      go_region_held (fun W => (W.cell? ⟨b, off + k * 3, none⟩ = some (.string s) ∧ W.cell? ⟨b, off + k * 3 + 1, none⟩ = some (.int .i64 m) ∧ W.cell? ⟨b, off + k * 3 + 2, none⟩ = some (.bool fl)) ∧ Below w.heap.size w W)
        (first | with_reducible assumption)
        (first
          | (go_at_call 7; ((with_reducible refine (K1.out _ HP.out (by assumption)).mono ?_); rintro e w3 ⟨rfl, ht3, hb3⟩); have HP3 := Lib.hid ht3; have hS := seesW_on hS0 HBL.out hb3; clear ht3 hb3))
      go_wp2
      go_roundw
      case rel => exact ⟨k + 1, by omega, by go_num, by rw [HRT.out]; exact HP3.out, hS.2⟩
      case measure => simp [intOf]; omega
    · obtain rfl : n = k := by omega
      have HTK := Lib.hid (show l.take n = l by rw [← HLN.out, List.take_length])
      obtain ⟨rs, hrs⟩ : ∃ rs, rsOf size l [] = rs := ⟨_, rfl⟩
      rw [HTK.out, hrs] at HTW hRL
      obtain ⟨F0, hF0⟩ := HTW.out
      have hSd := hF0.sid
      obtain ⟨N, hN⟩ : ∃ z, rs.length = z := ⟨_, rfl⟩
      obtain ⟨N2, hN2⟩ : ∃ z, (secL rs).length = z := ⟨_, rfl⟩
      have hu := sec_len' hSd
      rw [hN2] at hu
      have hfit := hSd.fits
      rw [← hu] at hfit
      have hN60 : N ≤ 60 := by omega
      have R1 := fun W (h : Below wr.heap.size wr W) => pone_regs (hF0.keep h) hN (by omega)
      have R2 := fun W (h : Below wr.heap.size wr W) => pone_secs (hF0.keep h) hN2
      have R3 := fun W (h : Below wr.heap.size wr W) => pone_used (hF0.keep h)
      rw [← hu] at R3
      have HR1 := Lib.hid R1
      have HR2 := Lib.hid R2
      have HR3 := Lib.hid R3
      have HF0 := Lib.hid hF0
      have HSD := Lib.hid hSd
      have HN := Lib.hid hN
      have HN2 := Lib.hid hN2
      have HU := Lib.hid hu
      have e1 : ((N2 : Int) == (N2 : Int)) = true := by simp
      clear R1 R2 R3 ht hb hlt hrs hN hN2 hu hSd hF0 hRL
      go_upto_region 13 with (first
        | (go_at_call 16; ((with_reducible refine (HR1.out _ (Below.refl _ _)).mono ?_); rintro e w3 ⟨a3, c3, rfl, hE3, hb3⟩); have HE3 := Lib.hid hE3; have HB3 := Lib.hid hb3; clear hE3 hb3)
        | (go_at_call 18; ((with_reducible refine (HR2.out _ HB3.out).mono ?_); rintro e w4 ⟨a4, c4, rfl, hE4, hb4⟩); have HE4 := Lib.hid hE4; have HE3k := Lib.hid (HE3.out.keep hb4); have HB4 := Lib.hid (HB3.out.trans (hb4.mono HB3.out.size)); clear hE4 hb4)
        | (go_at_call 13; ((with_reducible refine (HR3.out _ HB4.out).mono ?_); rintro e w5 ⟨rfl, hb5⟩); have HE4k := Lib.hid (HE4.out.keep hb5); have HE3l := Lib.hid (HE3k.out.keep hb5); have HB5 := Lib.hid (HB4.out.trans (hb5.mono HB4.out.size)); clear hb5)
        | (go_at_call 13; ((with_reducible refine (HR3.out _ HB5.out).mono ?_); rintro e w6 ⟨rfl, hb6⟩); have HFD := Lib.hid (show Found w.heap.size w6 t size rs F0 a3 N c3 a4 N2 c4 from ⟨HF0.out.keep (HB5.out.trans (hb6.mono HB5.out.size)), HE3l.out.keep hb6, HE4k.out.keep hb6⟩); have HB6 := Lib.hid (HB5.out.trans (hb6.mono HB5.out.size)); clear hb6))
      have hs6 := HB6.out.size
      have hsz6 : size ≤ 300 := HSZ.out.2
      have HBW := Lib.hid (HB.out.trans (HB6.out.mono hsz))
      clear HR1 HR2 HR3 HF0 HTW
      go_wp2
      go_loopw [10] (fun i ws => ∃ x : Int, i = .int .i64 x ∧ -1 ≤ x ∧ x ≤ size + 1 ∧ Below w6.heap.size w6 ws) (fun i _ => (size + 1 - intOf i).toNat)
      case atStart => exact ⟨-1, rfl, by omega, by omega, Below.refl _ _⟩
      case round =>
        obtain ⟨x, rfl, hx1, hx2, hbx⟩ := hrel
        rename World => w7
        have HBX := Lib.hid hbx
        have HFX := Lib.hid (HFD.out.keep hbx)
        clear hbx
        by_cases hlx : x ≤ size
        · go_wp2
          go_loopw [11, 12] (fun i j ws => ∃ k : Nat, k ≤ N ∧ j = .int .i64 k ∧ i = .int .i64 (cntA x (rs.take k)) ∧ Below w7.heap.size w7 ws) (fun _ j _ => N - (intOf j).toNat)
          case atStart => exact ⟨0, by omega, rfl, rfl, Below.refl _ _⟩
          case round =>
            obtain ⟨k, hk, rfl, rfl, hbk⟩ := hrel
            have HBK := Lib.hid hbk
            have hE := HFX.out.regs.keep hbk
            have k1 := hE.cap
            have k2 := hE.big
            unfold maxLen at k2
            by_cases hlk : k < N
            · have hlk' : (k : Int) < N := by omega
              have hkl : k < rs.length := by rw [HN.out]; exact hlk
              obtain ⟨b3, o3, rfl, d0, d1, d2, d3⟩ := hE.rg hlk
              obtain ⟨p1, p2, p3, p4⟩ := HSD.out.one hkl
              have hcs := cnt_succ x hkl
              obtain ⟨q1, q2⟩ := cnt_bd x (rs.take k)
              have q3 : ((rs.take k).length : Int) ≤ 60 := by rw [List.length_take]; omega
              obtain ⟨r, hr⟩ : ∃ r, el rs k = r := ⟨_, rfl⟩
              rw [hr] at d0 d1 d2 d3 p1 p2 p3 hcs
              obtain ⟨r0, r1, r2, r3⟩ := r
              simp only at d0 d1 d2 d3 p1 p2 p3
              obtain ⟨cn, hcn⟩ : ∃ z, cntA x (rs.take k) = z := ⟨_, rfl⟩
              rw [hcn] at hcs q1 q2
              have p5 : r1 + r2 ≤ 2048 := by omega
              have q4 : cn ≤ 60 := by omega
              simp only [hcn]
              have HCS := Lib.hid hcs
              clear hbk hE d0 d3 p3 p4 hr hcn hcs q2 q3 hkl
              by_cases c1 : r1 ≤ x
              · have e5 : decide (r1 ≤ x) = true := decide_eq_true c1
                by_cases c2 : x < r1 + r2
                · have HHP := Lib.hid (has_yes (r := (r0, r1, r2, r3)) c1 c2)
                  go_wp2
                  go_quiet (fail)
                  go_wp2
                  go_roundw
                  case rel => exact ⟨k + 1, by omega, by go_num, by rw [HCS.out, HHP.out]; first | rfl | (congr 1), bel_drewN HBK.out _⟩
                  case measure => simp [intOf]; omega
                · have HHP := Lib.hid (has_no1 (r := (r0, r1, r2, r3)) (x := x) (by simp only; omega))
                  go_wp2
                  go_quiet (fail)
                  go_wp2
                  go_roundw
                  case rel => exact ⟨k + 1, by omega, by go_num, by rw [HCS.out, HHP.out]; simp, bel_drewN HBK.out _⟩
                  case measure => simp [intOf]; omega
              · have e5 : decide (r1 ≤ x) = false := decide_eq_false c1
                have HHP := Lib.hid (has_no2 (r := (r0, r1, r2, r3)) (x := x) (by simp only; omega))
                go_wp2
                go_quiet (fail)
                go_wp2
                go_roundw
                case rel => exact ⟨k + 1, by omega, by go_num, by rw [HCS.out, HHP.out]; simp, bel_drewN HBK.out _⟩
                case measure => simp [intOf]; omega
            · obtain rfl : N = k := by omega
              have hT : rs.take N = rs := by rw [← HN.out, List.take_length]
              rw [hT]
              clear hT hbk hE
              have HBK2 := Lib.hid HBK.out
              obtain ⟨ar, har⟩ : ∃ z, aV rs x = z := ⟨_, rfl⟩
              obtain ⟨ao, hao⟩ : ∃ z, aO rs x = z := ⟨_, rfl⟩
              obtain ⟨r0, r1, r2, r3⟩ := ar
              have CA0 := pone_at (HFX.out.keep HBK.out).pla x (by omega) (by omega)
              simp only [har, hao, rgV] at CA0
              obtain ⟨cn, hcn⟩ : ∃ z, cntA x rs = z := ⟨_, rfl⟩
              simp only [hcn]
              have KF := Lib.hid (fun W (q : Below wr.heap.size wr W) => (HFX.out.keep HBK.out).keep q)
              rcases (show x < 0 ∨ (0 ≤ x ∧ x < N2) ∨ (0 ≤ x ∧ (N2 : Int) ≤ x) by omega) with cx | ⟨cx, cy⟩ | ⟨cx, cy⟩
              · obtain ⟨f1, f2⟩ := HSD.out.free (x := x) (.inl cx)
                have f3 := HSD.out.cnt_free (x := x) (.inl cx)
                rw [hcn] at f3
                subst f3
                rw [f1] at CA0
                have CA := Lib.hid CA0
                clear CA0 f1 f2 har hao hcn
                go_upto_region 23 with (go_at_call 11; ((with_reducible refine (CA.out).mono ?_); rintro e w9 ⟨rfl, hb9⟩))
                have HKA := Lib.hid (hb9.alloc hb9.size (.cells #[.string r0, .int .i64 r1, .int .i64 r2, .bool r3] 37))
                have bq := BlkAt.new w9 37 #[.string r0, .int .i64 r1, .int .i64 r2, .bool r3]
                obtain ⟨W10, hW10⟩ : ∃ W, w9.alloc (.cells #[.string r0, .int .i64 r1, .int .i64 r2, .bool r3] 37) = W := ⟨_, rfl⟩
                obtain ⟨q, hq⟩ : ∃ q, w9.heap.size = q := ⟨_, rfl⟩
                rw [hW10] at HKA bq ⊢
                rw [hq] at bq
                simp only [hq]
                have HQL := Lib.hid bq.lt
                have HFY := Lib.hid (KF.out _ HKA.out)
                have KU0 := fun W (h : Below W10.heap.size W10 W) => pone_used (HFY.out.keep h).pla
                rw [← HU.out] at KU0
                have KU := Lib.hid KU0
                have c3 : W10.cell? ⟨q, 1, none⟩ = some (.int .i64 r1) := bq.cell 1
                have c4 : W10.cell? ⟨q, 3, none⟩ = some (.bool r3) := bq.cell 3
                have HB10 := Lib.hid (HBX.out.trans ((HBK.out.trans (HKA.out.mono HBK.out.size)).mono HBX.out.size))
                clear hb9 hW10 hq bq KU0
                have d5 : decide (0 ≤ x) = false := decide_eq_false (by omega)
                go_quiet (fail)
                go_wp2
                go_roundw
                case rel => exact ⟨x + 1, by go_num, by omega, by omega, bel_drewN HB10.out _⟩
                case measure => simp [intOf]; omega
              · obtain ⟨f1, f2, i, f3, f4, f5⟩ := HSD.out.used cx (by rw [← HU.out]; exact cy)
                have f6 := HSD.out.cnt_used cx (by rw [← HU.out]; exact cy)
                have f7 := sec_at HSD.out f3 f4
                have f8 := HSD.out.one f3
                rw [← f5, har] at f7 f8
                rw [har, hao] at f2
                simp only at f2 f7 f8
                rw [hcn] at f6
                subst f6
                obtain ⟨y, rfl⟩ := Int.eq_ofNat_of_zero_le cx
                rw [Int.toNat_natCast] at f7
                have cy' : y < N2 := by omega
                rw [f1] at CA0
                have CA := Lib.hid CA0
                obtain ⟨g1, g2, g3, g4⟩ := f8
                have HF7 := Lib.hid f7
                clear CA0 f1 f3 f4 f5 f7 har hao hcn g3 g4
                go_upto_region 23 with (go_at_call 11; ((with_reducible refine (CA.out).mono ?_); rintro e w9 ⟨rfl, hb9⟩))
                have HKA := Lib.hid (hb9.alloc hb9.size (.cells #[.string r0, .int .i64 r1, .int .i64 r2, .bool r3] 37))
                have bq := BlkAt.new w9 37 #[.string r0, .int .i64 r1, .int .i64 r2, .bool r3]
                obtain ⟨W10, hW10⟩ : ∃ W, w9.alloc (.cells #[.string r0, .int .i64 r1, .int .i64 r2, .bool r3] 37) = W := ⟨_, rfl⟩
                obtain ⟨q, hq⟩ : ∃ q, w9.heap.size = q := ⟨_, rfl⟩
                rw [hW10] at HKA bq ⊢
                rw [hq] at bq
                simp only [hq]
                have HQL := Lib.hid bq.lt
                have HFY := Lib.hid (KF.out _ HKA.out)
                have KU0 := fun W (h : Below W10.heap.size W10 W) => pone_used (HFY.out.keep h).pla
                rw [← HU.out] at KU0
                have KU := Lib.hid KU0
                have c3 : W10.cell? ⟨q, 1, none⟩ = some (.int .i64 r1) := bq.cell 1
                have c4 : W10.cell? ⟨q, 3, none⟩ = some (.bool r3) := bq.cell 3
                have HB10 := Lib.hid (HBX.out.trans ((HBK.out.trans (HKA.out.mono HBK.out.size)).mono HBX.out.size))
                clear hb9 hW10 hq bq KU0
                obtain ⟨sb, so, rfl, dS⟩ := HFY.out.secs.boo cy'
                rw [HF7.out] at dS
                have k5 := HFY.out.secs.cap
                have k6 := HFY.out.secs.big
                unfold maxLen at k6
                have HSL := Lib.hid (cell_lt dS)
                have HS0 := Lib.hid (show SeesQS q sb (so + y) r1 r3 W10 W10.drew from ⟨⟨c3, c4, dS⟩, (Below.refl _ _).drew⟩)
                have d6 : decide ((y : Int) < N2) = true := decide_eq_true cy
                have d7 : (((y : Nat) : Int) == (y : Int)) = true := by simp
                have d8 : (r3 == r3) = true := by simp
                have d9 : IntKind.i64.wrap ((y : Nat) : Int) = (y : Int) := by rw [IntKind.wrap_i64]; omega
                have d10 : (((y : Nat) : Int) != (y : Int)) = false := by simp
                refine wp_region_seq [(0, 0, 116, 32768), (1, 0, 117, 1024), (2, 2, 118, 83076749736557242056487941267521536), (3, 4, 119, 166153499473114484112975882535043072), (4, 8, 120, 332306998946228968225951765070087168), (5, 8, 121, 332306998946228968225951765070086176), (6, 40, 122, 1661534994731144841129758825350430720), (7, 88, 123, 3655376988408518650485469415770947584), (8, 136, 124, 5649218982085892459841180006191464448), (9, 257, 125, 10675362341147605604258700452876517376), (10, 576, 126, 21267647932558653966460912964485513216), (11, 1024, 127, 42535295865117307932921825928971059200), (12, 1024, 128, 42535295865117307932921825928971028480), (13, 5120, 129, 212676479325586539664609129644855132160), (14, 11264, 130, 467888254516290387262140085218681290752), (15, 17408, 131, 723100029706994234859671040792507449344), (16, 33792, 132, 1361129467683753853853498429727072845824), (17, 65536, 133, 2722258935367507707706996859454145693696), (18, 196608, 134, 8166776806102523123120990578362437074944), (19, 327680, 135, 13611294676837538538534984297270728458240), (20, 589824, 136, 21778071482940061661655974875633165533184), (21, 1048576, 137, 43556142965880123323311949751266331099136), (22, 3145728, 138, 130668428897640369969935849253798993199104), (23, 4194304, 139, 174224571863520493293247799005065324273664), (24, 12582912, 140, 522673715590561479879743397015195972796416), (25, 4194304, 141, 174224571863520493293247799005065324281856), (26, 54525952, 142, 2264919434225766412812221387065849215451136), (27, 4194304, 143, 174224571863520493293247799005065324266496), (28, 205520896, 144, 8537004021312504171369142151248200889008128), (29, 272629760, 145, 11324597171128832064061106935329246077255680), (30, 536870912, 146, 22300745198530623141535718272648361505988608), (31, 1610612736, 147, 66902235595591869424607154817945084517941248), (32, 536870912, 148, 22300745198530623141535718272648361505980928), (33, 536870912, 149, 22300745198530623141535718272648361505981440), (34, 13421772800, 150, 557518629963265578538392956816209037649510400), (35, 17716740096, 151, 735924591551510563670678702997395929697353728), (36, 37044092928, 152, 1538751418698612996765964560812736943912648704), (37, 69260541952, 153, 2876970355182313905751400904970643699595739136), (38, 137444196352, 154, 5709208551538668924849760437546736877186318336), (39, 274878955520, 155, 11418025097790644928589611067545712357393039360)] [(true, 0, 1), (true, 1, 3), (true, 2, 7), (true, 3, 15), (true, 4, 31), (true, 5, 63), (false, 6, 127), (true, 7, 255), (true, 8, 511), (true, 9, 1023), (true, 10, 2047), (true, 11, 4095), (true, 12, 8191), (true, 13, 16383), (true, 14, 32767), (true, 15, 65535), (true, 16, 131071), (true, 17, 262143), (true, 18, 524287), (true, 19, 1048575), (true, 20, 2097151), (true, 21, 4194303), (true, 22, 8388607), (true, 23, 16777215), (true, 24, 33554431), (true, 25, 67108863), (true, 26, 134217727), (true, 27, 268435455), (true, 28, 536870911), (true, 29, 1073741823), (true, 30, 2147483647), (true, 31, 4294967295), (true, 32, 8589934591), (true, 33, 17179869183), (true, 34, 34359738367), (true, 35, 68719476735), (true, 36, 137438953471), (true, 37, 274877906943), (true, 38, 549755813887), (true, 39, 1099511627775)] (fun W => (W.cell? ⟨q, 1, none⟩ = some (.int .i64 r1) ∧ W.cell? ⟨q, 3, none⟩ = some (.bool r3) ∧ W.cell? ⟨sb, so + y, none⟩ = some (.bool r3)) ∧ Below W10.heap.size W10 W) (by kernel_rfl) (by kernel_rfl) (by kernel_rfl) (by kernel_rfl) (by kernel_rfl) (HS0.out) ?_
                (refine SeqH.take (v := ?_) rfl rfl ?_ ?_; rotate_left; (intro w' hw'; (try dsimp only at hw'); go_simp; try with_reducible rfl); go_simp)
                (refine SeqH.take (v := ?_) rfl rfl ?_ ?_; rotate_left; (intro w' hw'; (try dsimp only at hw'); go_simp; try with_reducible rfl); go_simp)
                (refine SeqH.take (v := ?_) rfl rfl ?_ ?_; rotate_left; (intro w' hw'; (try dsimp only at hw'); go_simp; try with_reducible rfl); go_simp)
                (refine SeqH.take (v := ?_) rfl rfl ?_ ?_; rotate_left; (intro w' hw'; (try dsimp only at hw'); go_simp; try with_reducible rfl); go_simp)
                (refine SeqH.take (v := ?_) rfl rfl ?_ ?_; rotate_left; (intro w' hw'; (try dsimp only at hw'); go_simp; try with_reducible rfl); go_simp)
                (refine SeqH.take (v := ?_) rfl rfl ?_ ?_; rotate_left; (intro w' hw'; (try dsimp only at hw'); go_simp; try with_reducible rfl); go_simp)
                refine SeqH.step rfl rfl (fun KK hKK => ?_)
                go_simp
                refine (KU.out _ HS0.out.2).mono ?_
                rintro e w11 ⟨rfl, hb11⟩
                (try dsimp only)
                refine hKK _ _ (sees_qs HS0.out HQL.out HSL.out hb11) ?_
                have HB11 := Lib.hid (HS0.out.2.trans (hb11.mono HS0.out.2.size))
                clear hKK KK hb11
                (refine SeqH.take (v := ?_) rfl rfl ?_ ?_; rotate_left; (intro w' hw'; (try dsimp only at hw'); go_simp; try with_reducible rfl); go_simp)
                (refine SeqH.take (v := ?_) rfl rfl ?_ ?_; rotate_left; (intro w' hw'; (try dsimp only at hw'); go_simp; try with_reducible rfl); go_simp)
                (refine SeqH.take (v := ?_) rfl rfl ?_ ?_; rotate_left; (intro w' hw'; (try dsimp only at hw'); go_simp; try with_reducible rfl); go_simp)
                (refine SeqH.take (v := ?_) rfl rfl ?_ ?_; rotate_left; (intro w' hw'; (try dsimp only at hw'); go_simp; try with_reducible rfl); go_simp)
                (refine SeqH.take (v := ?_) rfl rfl ?_ ?_; rotate_left; (intro w' hw'; (try dsimp only at hw'); go_simp; try with_reducible rfl); go_simp)
                (refine SeqH.take (v := ?_) rfl rfl ?_ ?_; rotate_left; (intro w' hw'; (try dsimp only at hw'); go_simp; try with_reducible rfl); go_simp)
                (refine SeqH.take (v := ?_) rfl rfl ?_ ?_; rotate_left; (intro w' hw'; (try dsimp only at hw'); go_simp; try with_reducible rfl); go_simp)
                (refine SeqH.take (v := ?_) rfl rfl ?_ ?_; rotate_left; (intro w' hw'; (try dsimp only at hw'); go_simp; try with_reducible rfl); go_simp)
                (refine SeqH.take (v := ?_) rfl rfl ?_ ?_; rotate_left; (intro w' hw'; (try dsimp only at hw'); go_simp; try with_reducible rfl); go_simp)
                (refine SeqH.take (v := ?_) rfl rfl ?_ ?_; rotate_left; (intro w' hw'; (try dsimp only at hw'); go_simp; try with_reducible rfl); go_simp)
                (refine SeqH.take (v := ?_) rfl rfl ?_ ?_; rotate_left; (intro w' hw'; (try dsimp only at hw'); go_simp; try with_reducible rfl); go_simp)
                (refine SeqH.take (v := ?_) rfl rfl ?_ ?_; rotate_left; (intro w' hw'; (try dsimp only at hw'); go_simp; try with_reducible rfl); go_simp)
                (refine SeqH.take (v := ?_) rfl rfl ?_ ?_; rotate_left; (intro w' hw'; (try dsimp only at hw'); go_simp; try with_reducible rfl); go_simp)
                (refine SeqH.take (v := ?_) rfl rfl ?_ ?_; rotate_left; (intro w' hw'; (try dsimp only at hw'); go_simp; try with_reducible rfl); go_simp)
                (refine SeqH.take (v := ?_) rfl rfl ?_ ?_; rotate_left; (intro w' hw'; (try dsimp only at hw'); go_simp; try with_reducible rfl); go_simp)
                (refine SeqH.take (v := ?_) rfl rfl ?_ ?_; rotate_left; (intro w' hw'; (try dsimp only at hw'); go_simp; try with_reducible rfl); go_simp)
                (refine SeqH.take (v := ?_) rfl rfl ?_ ?_; rotate_left; (intro w' hw'; (try dsimp only at hw'); go_simp; try with_reducible rfl); go_simp)
                (refine SeqH.take (v := ?_) rfl rfl ?_ ?_; rotate_left; (intro w' hw'; (try dsimp only at hw'); go_simp; try with_reducible rfl); go_simp)
                (refine SeqH.take (v := ?_) rfl rfl ?_ ?_; rotate_left; (intro w' hw'; (try dsimp only at hw'); go_simp; try with_reducible rfl); go_simp)
                (refine SeqH.take (v := ?_) rfl rfl ?_ ?_; rotate_left; (intro w' hw'; (try dsimp only at hw'); go_simp; try with_reducible rfl); go_simp)
                (refine SeqH.take (v := ?_) rfl rfl ?_ ?_; rotate_left; (intro w' hw'; (try dsimp only at hw'); go_simp; try with_reducible rfl); go_simp)
                (refine SeqH.take (v := ?_) rfl rfl ?_ ?_; rotate_left; (intro w' hw'; (try dsimp only at hw'); go_simp; try with_reducible rfl); go_simp)
                (refine SeqH.take (v := ?_) rfl rfl ?_ ?_; rotate_left; (intro w' hw'; (try dsimp only at hw'); go_simp; try with_reducible rfl); go_simp)
                (refine SeqH.take (v := ?_) rfl rfl ?_ ?_; rotate_left; (intro w' hw'; (try dsimp only at hw'); go_simp; try with_reducible rfl); go_simp)
                (refine SeqH.take (v := ?_) rfl rfl ?_ ?_; rotate_left; (intro w' hw'; (try dsimp only at hw'); go_simp; try with_reducible rfl); go_simp)
                (refine SeqH.take (v := ?_) rfl rfl ?_ ?_; rotate_left; (intro w' hw'; (try dsimp only at hw'); go_simp; try with_reducible rfl); go_simp)
                (refine SeqH.take (v := ?_) rfl rfl ?_ ?_; rotate_left; (intro w' hw'; (try dsimp only at hw'); go_simp; try with_reducible rfl); go_simp)
                (refine SeqH.take (v := ?_) rfl rfl ?_ ?_; rotate_left; (intro w' hw'; (try dsimp only at hw'); go_simp; try with_reducible rfl); go_simp)
                (refine SeqH.take (v := ?_) rfl rfl ?_ ?_; rotate_left; (intro w' hw'; (try dsimp only at hw'); go_simp; try with_reducible rfl); go_simp)
                (refine SeqH.take (v := ?_) rfl rfl ?_ ?_; rotate_left; (intro w' hw'; (try dsimp only at hw'); go_simp; try with_reducible rfl); go_simp)
                (refine SeqH.take (v := ?_) rfl rfl ?_ ?_; rotate_left; (intro w' hw'; (try dsimp only at hw'); go_simp; try with_reducible rfl); go_simp)
                (refine SeqH.take (v := ?_) rfl rfl ?_ ?_; rotate_left; (intro w' hw'; (try dsimp only at hw'); go_simp; try with_reducible rfl); go_simp)
                (refine SeqH.take (v := ?_) rfl rfl ?_ ?_; rotate_left; (intro w' hw'; (try dsimp only at hw'); go_simp; try with_reducible rfl); go_simp)
                refine SeqH.done (NoPanic.normal ?_)
                go_wp2
                go_roundw
                case rel => exact ⟨(y : Int) + 1, by go_num, by omega, by omega, HB10.out.trans (HB11.out.mono HB10.out.size)⟩
                case measure => simp [intOf]; omega
              · obtain ⟨f1, f2⟩ := HSD.out.free (x := x) (.inr (by rw [← HU.out]; exact cy))
                have f3 := HSD.out.cnt_free (x := x) (.inr (by rw [← HU.out]; exact cy))
                rw [hcn] at f3
                subst f3
                rw [f1] at CA0
                have CA := Lib.hid CA0
                clear CA0 f1 f2 har hao hcn
                go_upto_region 23 with (go_at_call 11; ((with_reducible refine (CA.out).mono ?_); rintro e w9 ⟨rfl, hb9⟩))
                have HKA := Lib.hid (hb9.alloc hb9.size (.cells #[.string r0, .int .i64 r1, .int .i64 r2, .bool r3] 37))
                have bq := BlkAt.new w9 37 #[.string r0, .int .i64 r1, .int .i64 r2, .bool r3]
                obtain ⟨W10, hW10⟩ : ∃ W, w9.alloc (.cells #[.string r0, .int .i64 r1, .int .i64 r2, .bool r3] 37) = W := ⟨_, rfl⟩
                obtain ⟨q, hq⟩ : ∃ q, w9.heap.size = q := ⟨_, rfl⟩
                rw [hW10] at HKA bq ⊢
                rw [hq] at bq
                simp only [hq]
                have HQL := Lib.hid bq.lt
                have HFY := Lib.hid (KF.out _ HKA.out)
                have KU0 := fun W (h : Below W10.heap.size W10 W) => pone_used (HFY.out.keep h).pla
                rw [← HU.out] at KU0
                have KU := Lib.hid KU0
                have c3 : W10.cell? ⟨q, 1, none⟩ = some (.int .i64 r1) := bq.cell 1
                have c4 : W10.cell? ⟨q, 3, none⟩ = some (.bool r3) := bq.cell 3
                have HB10 := Lib.hid (HBX.out.trans ((HBK.out.trans (HKA.out.mono HBK.out.size)).mono HBX.out.size))
                clear hb9 hW10 hq bq KU0
                have HS0 := Lib.hid (show SeesQ q r1 r3 W10 W10.drew from ⟨⟨c3, c4⟩, (Below.refl _ _).drew⟩)
                have d6 : decide (x < N2) = false := decide_eq_false (by omega)
                have d7 : decide (0 ≤ x) = true := decide_eq_true cx
                refine wp_region_seq [(0, 0, 116, 32768), (1, 0, 117, 1024), (2, 2, 118, 83076749736557242056487941267521536), (3, 4, 119, 166153499473114484112975882535043072), (4, 8, 120, 332306998946228968225951765070087168), (5, 8, 121, 332306998946228968225951765070086176), (6, 40, 122, 1661534994731144841129758825350430720), (7, 88, 123, 3655376988408518650485469415770947584), (8, 136, 124, 5649218982085892459841180006191464448), (9, 257, 125, 10675362341147605604258700452876517376), (10, 576, 126, 21267647932558653966460912964485513216), (11, 1024, 127, 42535295865117307932921825928971059200), (12, 1024, 128, 42535295865117307932921825928971028480), (13, 5120, 129, 212676479325586539664609129644855132160), (14, 11264, 130, 467888254516290387262140085218681290752), (15, 17408, 131, 723100029706994234859671040792507449344), (16, 33792, 132, 1361129467683753853853498429727072845824), (17, 65536, 133, 2722258935367507707706996859454145693696), (18, 196608, 134, 8166776806102523123120990578362437074944), (19, 327680, 135, 13611294676837538538534984297270728458240), (20, 589824, 136, 21778071482940061661655974875633165533184), (21, 1048576, 137, 43556142965880123323311949751266331099136), (22, 3145728, 138, 130668428897640369969935849253798993199104), (23, 4194304, 139, 174224571863520493293247799005065324273664), (24, 12582912, 140, 522673715590561479879743397015195972796416), (25, 4194304, 141, 174224571863520493293247799005065324281856), (26, 54525952, 142, 2264919434225766412812221387065849215451136), (27, 4194304, 143, 174224571863520493293247799005065324266496), (28, 205520896, 144, 8537004021312504171369142151248200889008128), (29, 272629760, 145, 11324597171128832064061106935329246077255680), (30, 536870912, 146, 22300745198530623141535718272648361505988608), (31, 1610612736, 147, 66902235595591869424607154817945084517941248), (32, 536870912, 148, 22300745198530623141535718272648361505980928), (33, 536870912, 149, 22300745198530623141535718272648361505981440), (34, 13421772800, 150, 557518629963265578538392956816209037649510400), (35, 17716740096, 151, 735924591551510563670678702997395929697353728), (36, 37044092928, 152, 1538751418698612996765964560812736943912648704), (37, 69260541952, 153, 2876970355182313905751400904970643699595739136), (38, 137444196352, 154, 5709208551538668924849760437546736877186318336), (39, 274878955520, 155, 11418025097790644928589611067545712357393039360)] [(true, 0, 1), (true, 1, 3), (true, 2, 7), (true, 3, 15), (true, 4, 31), (true, 5, 63), (false, 6, 127), (true, 7, 255), (true, 8, 511), (true, 9, 1023), (true, 10, 2047), (true, 11, 4095), (true, 12, 8191), (true, 13, 16383), (true, 14, 32767), (true, 15, 65535), (true, 16, 131071), (true, 17, 262143), (true, 18, 524287), (true, 19, 1048575), (true, 20, 2097151), (true, 21, 4194303), (true, 22, 8388607), (true, 23, 16777215), (true, 24, 33554431), (true, 25, 67108863), (true, 26, 134217727), (true, 27, 268435455), (true, 28, 536870911), (true, 29, 1073741823), (true, 30, 2147483647), (true, 31, 4294967295), (true, 32, 8589934591), (true, 33, 17179869183), (true, 34, 34359738367), (true, 35, 68719476735), (true, 36, 137438953471), (true, 37, 274877906943), (true, 38, 549755813887), (true, 39, 1099511627775)] (fun W => (W.cell? ⟨q, 1, none⟩ = some (.int .i64 r1) ∧ W.cell? ⟨q, 3, none⟩ = some (.bool r3)) ∧ Below W10.heap.size W10 W) (by kernel_rfl) (by kernel_rfl) (by kernel_rfl) (by kernel_rfl) (by kernel_rfl) (HS0.out) ?_
                (refine SeqH.take (v := ?_) rfl rfl ?_ ?_; rotate_left; (intro w' hw'; (try dsimp only at hw'); go_simp; try with_reducible rfl); go_simp)
                (refine SeqH.take (v := ?_) rfl rfl ?_ ?_; rotate_left; (intro w' hw'; (try dsimp only at hw'); go_simp; try with_reducible rfl); go_simp)
                (refine SeqH.take (v := ?_) rfl rfl ?_ ?_; rotate_left; (intro w' hw'; (try dsimp only at hw'); go_simp; try with_reducible rfl); go_simp)
                (refine SeqH.take (v := ?_) rfl rfl ?_ ?_; rotate_left; (intro w' hw'; (try dsimp only at hw'); go_simp; try with_reducible rfl); go_simp)
                (refine SeqH.take (v := ?_) rfl rfl ?_ ?_; rotate_left; (intro w' hw'; (try dsimp only at hw'); go_simp; try with_reducible rfl); go_simp)
                (refine SeqH.take (v := ?_) rfl rfl ?_ ?_; rotate_left; (intro w' hw'; (try dsimp only at hw'); go_simp; try with_reducible rfl); go_simp)
                refine SeqH.step rfl rfl (fun KK hKK => ?_)
                go_simp
                refine (KU.out _ HS0.out.2).mono ?_
                rintro e w11 ⟨rfl, hb11⟩
                (try dsimp only)
                refine hKK _ _ (sees_q HS0.out HQL.out hb11) ?_
                have HB11 := Lib.hid (HS0.out.2.trans (hb11.mono HS0.out.2.size))
                clear hKK KK hb11
                (refine SeqH.take (v := ?_) rfl rfl ?_ ?_; rotate_left; (intro w' hw'; (try dsimp only at hw'); go_simp; try with_reducible rfl); go_simp)
                (refine SeqH.take (v := ?_) rfl rfl ?_ ?_; rotate_left; (intro w' hw'; (try dsimp only at hw'); go_simp; try with_reducible rfl); go_simp)
                (refine SeqH.take (v := ?_) rfl rfl ?_ ?_; rotate_left; (intro w' hw'; (try dsimp only at hw'); go_simp; try with_reducible rfl); go_simp)
                (refine SeqH.take (v := ?_) rfl rfl ?_ ?_; rotate_left; (intro w' hw'; (try dsimp only at hw'); go_simp; try with_reducible rfl); go_simp)
                (refine SeqH.take (v := ?_) rfl rfl ?_ ?_; rotate_left; (intro w' hw'; (try dsimp only at hw'); go_simp; try with_reducible rfl); go_simp)
                (refine SeqH.take (v := ?_) rfl rfl ?_ ?_; rotate_left; (intro w' hw'; (try dsimp only at hw'); go_simp; try with_reducible rfl); go_simp)
                (refine SeqH.take (v := ?_) rfl rfl ?_ ?_; rotate_left; (intro w' hw'; (try dsimp only at hw'); go_simp; try with_reducible rfl); go_simp)
                (refine SeqH.take (v := ?_) rfl rfl ?_ ?_; rotate_left; (intro w' hw'; (try dsimp only at hw'); go_simp; try with_reducible rfl); go_simp)
                (refine SeqH.take (v := ?_) rfl rfl ?_ ?_; rotate_left; (intro w' hw'; (try dsimp only at hw'); go_simp; try with_reducible rfl); go_simp)
                (refine SeqH.take (v := ?_) rfl rfl ?_ ?_; rotate_left; (intro w' hw'; (try dsimp only at hw'); go_simp; try with_reducible rfl); go_simp)
                (refine SeqH.take (v := ?_) rfl rfl ?_ ?_; rotate_left; (intro w' hw'; (try dsimp only at hw'); go_simp; try with_reducible rfl); go_simp)
                (refine SeqH.take (v := ?_) rfl rfl ?_ ?_; rotate_left; (intro w' hw'; (try dsimp only at hw'); go_simp; try with_reducible rfl); go_simp)
                (refine SeqH.take (v := ?_) rfl rfl ?_ ?_; rotate_left; (intro w' hw'; (try dsimp only at hw'); go_simp; try with_reducible rfl); go_simp)
                (refine SeqH.take (v := ?_) rfl rfl ?_ ?_; rotate_left; (intro w' hw'; (try dsimp only at hw'); go_simp; try with_reducible rfl); go_simp)
                (refine SeqH.take (v := ?_) rfl rfl ?_ ?_; rotate_left; (intro w' hw'; (try dsimp only at hw'); go_simp; try with_reducible rfl); go_simp)
                (refine SeqH.take (v := ?_) rfl rfl ?_ ?_; rotate_left; (intro w' hw'; (try dsimp only at hw'); go_simp; try with_reducible rfl); go_simp)
                (refine SeqH.pass rfl rfl ?_; go_simp)
                (refine SeqH.pass rfl rfl ?_; go_simp)
                (refine SeqH.pass rfl rfl ?_; go_simp)
                (refine SeqH.pass rfl rfl ?_; go_simp)
                (refine SeqH.pass rfl rfl ?_; go_simp)
                (refine SeqH.pass rfl rfl ?_; go_simp)
                (refine SeqH.pass rfl rfl ?_; go_simp)
                (refine SeqH.pass rfl rfl ?_; go_simp)
                (refine SeqH.pass rfl rfl ?_; go_simp)
                (refine SeqH.pass rfl rfl ?_; go_simp)
                (refine SeqH.pass rfl rfl ?_; go_simp)
                (refine SeqH.pass rfl rfl ?_; go_simp)
                (refine SeqH.pass rfl rfl ?_; go_simp)
                (refine SeqH.pass rfl rfl ?_; go_simp)
                (refine SeqH.pass rfl rfl ?_; go_simp)
                (refine SeqH.take (v := ?_) rfl rfl ?_ ?_; rotate_left; (intro w' hw'; (try dsimp only at hw'); go_simp; try with_reducible rfl); go_simp)
                (refine SeqH.take (v := ?_) rfl rfl ?_ ?_; rotate_left; (intro w' hw'; (try dsimp only at hw'); go_simp; try with_reducible rfl); go_simp)
                refine SeqH.done (NoPanic.normal ?_)
                go_wp2
                go_roundw
                case rel => exact ⟨x + 1, by go_num, by omega, by omega, HB10.out.trans (HB11.out.mono HB10.out.size)⟩
                case measure => simp [intOf]; omega
        · have hx3 : x = size + 1 := by omega
          subst hx3
          have hnl : ¬ size + 1 ≤ size := by omega
          go_wp2_with (go_at_call 5; ((with_reducible refine (plaAwake_is _).mono ?_); rintro e w9 ⟨rfl, hb9⟩); have HB9 := Lib.hid (HBX.out.trans (hb9.mono HBX.out.size)); clear hb9)
          go_ret
          exact ⟨rfl, HBW.out.trans (HB9.out.mono HBW.out.size)⟩
set_option maxRecDepth 100000 in
set_option maxHeartbeats 1000000 in
theorem walk (size : Int) (a : Option Addr) (n c : Nat) (l : List Wn) (w : World) (_hz : (Lit.int .i64 size).wf = true) (h : ElAt wnK w a n c l ∧ ∀ x ∈ l, x.1.size ≤ maxLen) :
    Calls Try.prog 4 #[.int .i64 size, .slice a n c] w fun e w' => e = .returned (.bool true) ∧ Below w.heap.size w w' := by
  have hcap := h.1.cap
  have hbig := h.1.big
  unfold maxLen at hbig
  by_cases hn : n ≤ 60
  · by_cases h0 : 0 ≤ size
    · by_cases h1 : size ≤ 300
      · exact within size a n c l w h.1 h.2 hn h0 h1
      · have hn' : (n : Int) ≤ 60 := by omega
        have h0' : ¬ size < 0 := by omega
        have h1' : 300 < size := by omega
        clear h hn h0 h1
        go_enter Try.func4, Try.ntmps4
        go_wp2_with (go_at_call 5; ((with_reducible refine (plaAwake_is _).mono ?_); rintro e w9 ⟨rfl, hb9⟩); have HB9 := Lib.hid hb9; clear hb9)
        go_ret
        exact ⟨rfl, HB9.out⟩
    · have hn' : (n : Int) ≤ 60 := by omega
      have h0' : size < 0 := by omega
      clear h hn h0
      go_enter Try.func4, Try.ntmps4
      go_wp2_with (go_at_call 5; ((with_reducible refine (plaAwake_is _).mono ?_); rintro e w9 ⟨rfl, hb9⟩); have HB9 := Lib.hid hb9; clear hb9)
      go_ret
      exact ⟨rfl, HB9.out⟩
  · have hn' : (60 : Int) < n := by omega
    clear h hn
    go_enter Try.func4, Try.ntmps4
    go_wp2_with (go_at_call 5; ((with_reducible refine (plaAwake_is _).mono ?_); rintro e w9 ⟨rfl, hb9⟩); have HB9 := Lib.hid hb9; clear hb9)
    go_ret
    exact ⟨rfl, HB9.out⟩
end planSides
end Go.Proofs.Ytpgjdbnhbkggpaa
