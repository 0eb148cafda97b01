/- The walk of the law CrcJoins: it returns true and writes nothing that was there. -/
import Derived.Test.YtmeflfilfciehaaDoorCrcK
namespace Go.Proofs.YtmeflfilfciehaaDoor.crcJoins
open Go.RowKit Go.ChangeShapes Go.OpenShut

theorem run_min4 {P : Program} (w : World) (ts : Array TypeId) (t : TypeId) (k : IntKind) (x y z u v : Int) (hv : v = min (min (min x y) z) u) :
    (Builtin.min_ ts t #[.int k x, .int k y, .int k z, .int k u]).run P w = .ok (.int k v) w := by
  have h : (Builtin.min_ ts t #[.int k x, .int k y, .int k z, .int k u]).run P w = .ok (.int k (if u < (if z < (if y < x then y else x) then z else (if y < x then y else x)) then u else (if z < (if y < x then y else x) then z else (if y < x then y else x)))) w := by
    simp [Builtin.min_, Builtin.min2]
  rw [h, hv]
  congr 2
  repeat' split
  all_goals omega

set_option maxHeartbeats 4000000 in
theorem within (a0 a1 a2 : Option Addr) (n0 c0 n1 c1 n2 c2 : Nat) (l0 l1 l2 : List Int) (w : World) (h0 : By w a0 n0 c0 l0) (h1 : By w a1 n1 c1 l1) (h2 : By w a2 n2 c2 l2) (hL : FoursLaid w) :
    Calls Tryd.prog 6 #[.slice a0 n0 c0, .slice a1 n1 c1, .slice a2 n2 c2] w fun e w' => e = .returned (.bool true) ∧ Below w.heap.size w w' := by
  obtain ⟨i0, hi, hz0, hz1, hz2⟩ := info_parts infoU8
  have H0 := Lib.hid h0
  have H1 := Lib.hid h1
  have H2 := Lib.hid h2
  have HL := Lib.hid hL
  have L0 := h0.len; have L1 := h1.len; have L2 := h2.len
  obtain ⟨N, hN⟩ : ∃ N : Nat, (N : Int) = min (min (min (n0 : Int) n1) n2) 600 := ⟨(min (min (min (n0 : Int) n1) n2) 600).toNat, by omega⟩
  have hmin := fun w => run_min4 (P := Tryd.prog) w #[3, 3, 3, 3] 3 .i64 n0 n1 n2 600 N hN
  have g0 : N ≤ n0 := by omega
  have g1 : N ≤ n1 := by omega
  have g2 : N ≤ n2 := by omega
  have g6 : N ≤ 600 := by omega
  have k0 := h0.cap; have k1 := h1.cap; have k2 := h2.cap
  have J := Lib.hid (wOn_join3 l0 l1 l2 N (by omega) (by omega) (by omega))
  have HX := Lib.hid L0
  have HY := Lib.hid L1
  have HZ := Lib.hid L2
  clear h0 h1 h2 hL hN L0 L1 L2
  go_enter Tryd.func6, Tryd.ntmps6
  go_wp2
  go_loopw [8, 9] (fun v i wr => ∃ k : Nat, k ≤ N ∧ i = .int .i64 k ∧ Own wr w.heap.size 5 v (join3 l0 l1 l2 k) ∧ Below w.heap.size w wr) (fun _ i _ => N - (intOf i).toNat)
  case atStart => exact ⟨0, by omega, rfl, Own.nil _ _ _, Below.refl _ _⟩
  case round =>
    obtain ⟨k, hk, rfl, hown, hb⟩ := hrel
    have hz := hb.size
    by_cases hlt : k < N
    · have x0 := H0.out.bd.at (i := k) (by have := HX.out; omega)
      have x1 := H1.out.bd.at (i := k) (by have := HY.out; omega)
      have x2 := H2.out.bd.at (i := k) (by have := HZ.out; omega)
      obtain ⟨b0, o0, rfl, p0⟩ := H0.out.lie (by omega)
      obtain ⟨b1, o1, rfl, p1⟩ := H1.out.lie (by omega)
      obtain ⟨b2, o2, rfl, p2⟩ := H2.out.lie (by omega)
      have q0 := p0 k (by omega)
      have q1 := p1 k (by omega)
      have q2 := p2 k (by omega)
      have r0 : (0 : Int) ≤ (k : Int) := by omega
      have r1 : (k : Int) < (n0 : Int) := by omega
      have r2 : (k : Int) < (n1 : Int) := by omega
      have r3 : (k : Int) < (n2 : Int) := by omega
      have HF := Lib.hid (fun (w' : World) (hw : Below w.heap.size w w') => (⟨(hw.cell (p := ⟨b0, o0 + k, none⟩) (cell_lt q0)).trans q0, (hw.cell (p := ⟨b1, o1 + k, none⟩) (cell_lt q1)).trans q1, (hw.cell (p := ⟨b2, o2 + k, none⟩) (cell_lt q2)).trans q2⟩ :
        w'.cell? ⟨b0, o0 + k, none⟩ = some (.int .u8 (byAt l0 k)) ∧ w'.cell? ⟨b1, o1 + k, none⟩ = some (.int .u8 (byAt l1 k)) ∧ w'.cell? ⟨b2, o2 + k, none⟩ = some (.int .u8 (byAt l2 k))))
      have HS := Lib.hid (join3_succ l0 l1 l2 k)
      have HK := Lib.hid (join3_len l0 l1 l2 k)
      clear p0 p1 p2 q0 q1 q2
      generalize byAt l0 k = x at *
      generalize byAt l1 k = y at *
      generalize byAt l2 k = z at *
      have e := @bits_u8_xor x y
      have e2 := @bits_u8_xor (x8 x y) z
      have HO := Lib.hid hown
      have HD := Lib.hid (show Bd8 [x8 (x8 x y) z] from Bd8.cons (x8_bd _ _).1 (x8_bd _ _).2 Bd8.nil)
      generalize x8 (x8 x y) z = xyz at *
      clear hown
      go_wp2
      go_region_held3 (fun w' => w'.cell? ⟨b0, o0 + k, none⟩ = some (.int .u8 x) ∧ w'.cell? ⟨b1, o1 + k, none⟩ = some (.int .u8 y) ∧ w'.cell? ⟨b2, o2 + k, none⟩ = some (.int .u8 z))
        (first | with_reducible assumption | exact HF.out _ hb | exact HF.out _ hb.drew | exact HF.out _ (hb.alloc hz _).drew | exact HF.out _ (hb.alloc hz _) | exact HF.out _ hb')
        (first | (refine step_append_by rfl (.tmp 22) (.tmp 37) 22 rfl w.heap.size 5 i0 (.int .u8 0) Tryd.underlying22 hi hz0 hz1 hz2 rfl rfl (HO.out.below ((Below.refl _ _).alloc (Nat.le_refl _) _).drew (Nat.le_refl _)) rfl ((By.lit _ 5 rfl (by unfold maxLen; simp) HD.out rfl).keep (Below.refl _ _).drew (Nat.le_refl _)) (by rw [HK.out]; simp; omega) (by simp; omega) (hb.alloc hz _).drew ?_; intro v' w1 hown' hb' hS'))
      go_wp2
      rw [← HS.out] at hown'
      go_roundw
      case rel => exact ⟨k + 1, by omega, by go_num, hown', hb'⟩
      case measure => simp [intOf]; omega
    · obtain rfl : k = N := by omega
      have T0 := Lib.hid (H0.out.pre (k := k) (by omega))
      have T1 := Lib.hid (H1.out.pre (k := k) (by omega))
      have T2 := Lib.hid (H2.out.pre (k := k) (by omega))
      have B0 := wOn_bd (c := 65535) (by decide) (by decide) (l0.take k)
      have B1 := wOn_bd (c := 65535) (by decide) (by decide) (l1.take k)
      have B2 := wOn_bd (c := 65535) (by decide) (by decide) (l2.take k)
      have s0 : (0 : Int) ≤ (k : Int) := by omega
      have s1 : (k : Int) ≤ (c0 : Int) := by omega
      have s2 : (k : Int) ≤ (c1 : Int) := by omega
      have s3 : (k : Int) ≤ (c2 : Int) := by omega
      obtain ⟨t0, ht0⟩ : ∃ t, wOn 65535 (l0.take k) = t := ⟨_, rfl⟩
      obtain ⟨t1, ht1⟩ : ∃ t, wOn 65535 (l1.take k) = t := ⟨_, rfl⟩
      obtain ⟨t2, ht2⟩ : ∃ t, wOn 65535 (l2.take k) = t := ⟨_, rfl⟩
      have J' := J.out
      rw [ht0, ht1, ht2] at J'
      rw [ht0] at B0; rw [ht1] at B1; rw [ht2] at B2
      have E0 := Lib.hid ht0; have E1 := Lib.hid ht1; have E2 := Lib.hid ht2
      have bx := wXr_bd t0 t1
      have x1 := wXr_i32 B0.1 B0.2 B1.1 B1.2
      have x2 := wXr_i32 bx.1 bx.2 B2.1 B2.2
      generalize wXr t0 t1 = t01 at *
      generalize wXr t01 t2 = tt at *
      have EJ := Lib.hid J'
      clear ht0 ht1 ht2 J'
      obtain ⟨aj, nj, cj, rfl, hnj, hBj⟩ := hown.byn (join3_bd l0 l1 l2 k)
      have HBJ := Lib.hid hBj
      clear hnj hBj hown
      go_wp2
      go_region_held (fun w' => Below wr.heap.size wr w')
        (first | with_reducible assumption | exact Below.refl _ _ | exact (Below.refl _ _).drew)
        (first
          | (go_at_call 12; (with_reducible refine (below_at (crcOf_to EJ.out (HBJ.out.keep (by assumption) (Nat.le_refl _)) ((HL.out.below hb HL.out.lt).below (by assumption) (Nat.lt_of_lt_of_le HL.out.lt hz))) (by assumption)).mono ?_); rintro e w3 ⟨rfl, hS⟩)
          | (go_at_call 12; (with_reducible refine (below_at (crcOf_to E0.out ((T0.out.keep hb (Nat.le_refl _)).keep (by assumption) (Nat.le_refl _)) ((HL.out.below hb HL.out.lt).below (by assumption) (Nat.lt_of_lt_of_le HL.out.lt hz))) (by assumption)).mono ?_); rintro e w3 ⟨rfl, hS⟩)
          | (go_at_call 12; (with_reducible refine (below_at (crcOf_to E1.out ((T1.out.keep hb (Nat.le_refl _)).keep (by assumption) (Nat.le_refl _)) ((HL.out.below hb HL.out.lt).below (by assumption) (Nat.lt_of_lt_of_le HL.out.lt hz))) (by assumption)).mono ?_); rintro e w3 ⟨rfl, hS⟩)
          | (go_at_call 12; (with_reducible refine (below_at (crcOf_to E2.out ((T2.out.keep hb (Nat.le_refl _)).keep (by assumption) (Nat.le_refl _)) ((HL.out.below hb HL.out.lt).below (by assumption) (Nat.lt_of_lt_of_le HL.out.lt hz))) (by assumption)).mono ?_); rintro e w3 ⟨rfl, hS⟩)
          | (go_at_call 7; (with_reducible refine (below_at (crcAwake_is _ ((HL.out.below hb HL.out.lt).below (by assumption) (Nat.lt_of_lt_of_le HL.out.lt hz))) (by assumption)).mono ?_); rintro e w3 ⟨rfl, hS⟩))
      all_goals go_wp2
      all_goals go_ret
      all_goals exact ⟨rfl, hb.trans (hS.mono hz)⟩

theorem walk (a0 : Option Addr) (len0 cap0 : Nat) (z0 : List Int) (a1 : Option Addr) (len1 cap1 : Nat) (z1 : List Int) (a2 : Option Addr) (len2 cap2 : Nat) (z2 : List Int) (w : World) (w0 : IsRow .u8 w a0 len0 cap0 z0) (w1 : IsRow .u8 w a1 len1 cap1 z1) (w2 : IsRow .u8 w a2 len2 cap2 z2) (hL : FoursLaid w) :
    Calls Tryd.prog 6 #[.slice a0 len0 cap0, .slice a1 len1 cap1, .slice a2 len2 cap2] w fun e w' => e = .returned (.bool true) ∧ Below w.heap.size w w' :=
  within a0 a1 a2 len0 cap0 len1 cap1 len2 cap2 _ _ _ w (By.of_row w0) (By.of_row w1) (By.of_row w2) hL
end Go.Proofs.YtmeflfilfciehaaDoor.crcJoins
