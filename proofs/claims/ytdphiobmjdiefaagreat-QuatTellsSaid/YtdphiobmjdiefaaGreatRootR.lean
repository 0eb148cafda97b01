/- What the document's own plain answers for roots (package astrolaberef08) give. Conditions: the numbers are of the kind int32. -/
import Derived.Test.YtdphiobmjdiefaaGreatRootN
import Derived.Test.YtdphiobmjdiefaaGreatRefs
import Derived.Test.YtdphiobmjdiefaaGreatFixR
import Derived.Test.YtdphiobmjdiefaaGreatNum
namespace Go.Proofs.YtdphiobmjdiefaaGreat
open Go.RowKit

def rsI (u : Int) : Nat → Int
  | 0 => wRs0 u
  | k + 1 => wRsZ u (rsI u k)
theorem rsI_4 (u : Int) : rsI u 4 = wRs u := rfl
theorem rsI_bd (u : Int) (k : Nat) : -2147483648 ≤ rsI u k ∧ rsI u k ≤ 2147483647 := by
  cases k
  · exact wRs0_bd u
  · exact wRsZ_bd u _
def rcI (v : Int) : Nat → Int
  | 0 => wRc0 v
  | k + 1 => wRcZ v (rcI v k)
theorem rcI_4 (v : Int) : rcI v 4 = wRc v := rfl
theorem rcI_bd (v : Int) (k : Nat) : -2147483648 ≤ rcI v k ∧ rcI v k ≤ 2147483647 := by
  cases k
  · exact wRc0_bd v
  · exact wRcZ_bd v _

theorem refLevel_is (x : Int) (w : World) (x1 : -2147483648 ≤ x) (x2 : x ≤ 2147483647) :
    Calls Tryz.prog 38 #[.int .i32 x] w fun e w' => e = .returned (.tuple #[.int .i32 (wLvU x), .int .i32 (wLvH x)]) ∧ Below w.heap.size w w' := by
  have hb := Below.refl w.heap.size w
  have hB := Nat.le_refl w.heap.size
  have l1 : (-2147483648 : Int) ≤ 1 := by decide
  have l2 : (1 : Int) ≤ 2147483647 := by decide
  have l3 : (-2147483648 : Int) ≤ 2 := by decide
  have l4 : (2 : Int) ≤ 2147483647 := by decide
  have l5 : (-2147483648 : Int) ≤ 1073741824 := by decide
  have l6 : (1073741824 : Int) ≤ 2147483647 := by decide
  obtain ⟨c1, c2⟩ := wClz_bd x
  have EU := Lib.hid (show wShr (wShl x (wLvT x)) 2 = wLvU x from rfl)
  have EH := Lib.hid (show wLvT x / 2 = wLvH x from rfl)
  have q := wLvT_bd x
  obtain ⟨s1, s2⟩ := wShl_bd x (wLvT x)
  by_cases h : wClz x = 32
  · have ET : wLvT x = 0 := by unfold wLvT; rw [h]; rfl
    rw [h] at c1 c2
    rw [ET] at EU EH s1 s2
    have l7 : (-2147483648 : Int) ≤ 0 := by decide
    have l8 : (0 : Int) ≤ 2147483647 := by decide
    have HC := Lib.hid h
    clear h ET q
    go_enter Tryz.func38, Tryz.ntmps38
    go_wp2_with (first
      | (go_at_call 45; refine (keep (refClz_is _ _ x1 x2) hb hB).mono ?_; rw [HC.out]; rintro e w1 ⟨rfl, hb, hB⟩)
      | (go_at_call 23; refine (refMulq_is _ _ _ (by assumption) (by assumption) (by assumption) (by assumption)).mono ?_; rintro e w1 ⟨rfl, rfl⟩)
      | (go_at_call 39; refine (keep (refShl_is _ _ _ (by assumption) (by assumption) (by assumption) (by assumption)) hb hB).mono ?_; rintro e w1 ⟨rfl, hb, hB⟩)
      | (go_at_call 46; refine (keep (refShr_is _ _ _ (by assumption) (by assumption) (by assumption) (by assumption)) hb hB).mono ?_; rintro e w1 ⟨rfl, hb, hB⟩)
      | (go_at_call 40; refine (refSar_is _ _ _ (by assumption) (by assumption) (by assumption) (by assumption)).mono ?_; rintro e w1 ⟨rfl, rfl⟩)
      | (go_at_call 17; refine (refSub_is _ _ _ (by assumption) (by assumption) (by assumption) (by assumption)).mono ?_; rintro e w1 ⟨rfl, rfl⟩)
      | (go_at_call 19; refine (refAdd_is _ _ _ (by assumption) (by assumption) (by assumption) (by assumption)).mono ?_; rintro e w1 ⟨rfl, rfl⟩)
      | (go_at_call 45; refine (keep (refClz_is _ _ (by assumption) (by assumption)) hb hB).mono ?_; rintro e w1 ⟨rfl, hb, hB⟩))
    go_returns
    exact ⟨by rw [EU.out, ← EH.out]; rfl, hb⟩
  · have ET := Lib.hid (show wClz x - wClz x % 2 = wLvT x by unfold wLvT; omega)
    have q1 : -2147483648 ≤ wClz x - wClz x % 2 := by omega
    have q2 : wClz x - wClz x % 2 ≤ 2147483647 := by omega
    have q3 : 0 ≤ wClz x - wClz x % 2 := by omega
    have k : wClz x < 32 := by omega
    rw [← ET.out] at s1 s2
    clear h q
    go_enter Tryz.func38, Tryz.ntmps38
    go_wp2_with (first
      | (go_at_call 23; refine (refMulq_is _ _ _ (by assumption) (by assumption) (by assumption) (by assumption)).mono ?_; rintro e w1 ⟨rfl, rfl⟩)
      | (go_at_call 39; refine (keep (refShl_is _ _ _ (by assumption) (by assumption) (by assumption) (by assumption)) hb hB).mono ?_; rintro e w1 ⟨rfl, hb, hB⟩)
      | (go_at_call 46; refine (keep (refShr_is _ _ _ (by assumption) (by assumption) (by assumption) (by assumption)) hb hB).mono ?_; rintro e w1 ⟨rfl, hb, hB⟩)
      | (go_at_call 40; refine (refSar_is _ _ _ (by assumption) (by assumption) (by assumption) (by assumption)).mono ?_; rintro e w1 ⟨rfl, rfl⟩)
      | (go_at_call 17; refine (refSub_is _ _ _ (by assumption) (by assumption) (by assumption) (by assumption)).mono ?_; rintro e w1 ⟨rfl, rfl⟩)
      | (go_at_call 19; refine (refAdd_is _ _ _ (by assumption) (by assumption) (by assumption) (by assumption)).mono ?_; rintro e w1 ⟨rfl, rfl⟩)
      | (go_at_call 45; refine (keep (refClz_is _ _ (by assumption) (by assumption)) hb hB).mono ?_; rintro e w1 ⟨rfl, hb, hB⟩))
    go_returns
    exact ⟨by rw [ET.out, EU.out, ← EH.out]; rfl, hb⟩

theorem refScale_is (v z h : Int) (w : World) (v1 : -2147483648 ≤ v) (v2 : v ≤ 2147483647) (z1 : -2147483648 ≤ z) (z2 : z ≤ 2147483647) (h1 : -2147483648 ≤ h) (h2 : h ≤ 2147483647) :
    Calls Tryz.prog 27 #[.int .i32 v, .int .i32 z, .int .i32 h] w fun e w' => e = .returned (.int .i32 (wScale v z h)) ∧ Below w.heap.size w w' := by
  have hb := Below.refl w.heap.size w
  have hB := Nat.le_refl w.heap.size
  obtain ⟨p1, p2⟩ := wMulq_bd v z
  go_enter Tryz.func27, Tryz.ntmps27
  go_wp2_with (first
    | (go_at_call 23; refine (refMulq_is _ _ _ (by assumption) (by assumption) (by assumption) (by assumption)).mono ?_; rintro e w1 ⟨rfl, rfl⟩)
    | (go_at_call 39; refine (keep (refShl_is _ _ _ (by assumption) (by assumption) (by assumption) (by assumption)) hb hB).mono ?_; rintro e w1 ⟨rfl, hb, hB⟩)
    | (go_at_call 46; refine (keep (refShr_is _ _ _ (by assumption) (by assumption) (by assumption) (by assumption)) hb hB).mono ?_; rintro e w1 ⟨rfl, hb, hB⟩)
    | (go_at_call 40; refine (refSar_is _ _ _ (by assumption) (by assumption) (by assumption) (by assumption)).mono ?_; rintro e w1 ⟨rfl, rfl⟩)
    | (go_at_call 17; refine (refSub_is _ _ _ (by assumption) (by assumption) (by assumption) (by assumption)).mono ?_; rintro e w1 ⟨rfl, rfl⟩)
    | (go_at_call 19; refine (refAdd_is _ _ _ (by assumption) (by assumption) (by assumption) (by assumption)).mono ?_; rintro e w1 ⟨rfl, rfl⟩)
    | (go_at_call 45; refine (keep (refClz_is _ _ (by assumption) (by assumption)) hb hB).mono ?_; rintro e w1 ⟨rfl, hb, hB⟩))
  go_ret
  exact ⟨rfl, hb⟩

theorem refLevel_v (x u h : Int) (w : World) (x1 : -2147483648 ≤ x) (x2 : x ≤ 2147483647) (hu : wLvU x = u) (hh : wLvH x = h) :
    Calls Tryz.prog 38 #[.int .i32 x] w fun e w' => e = .returned (.tuple #[.int .i32 u, .int .i32 h]) ∧ Below w.heap.size w w' := by
  subst hu hh; exact refLevel_is x w x1 x2
set_option maxHeartbeats 1000000 in
theorem refRsqrt_is (x : Int) (w : World) (x1 : -2147483648 ≤ x) (x2 : x ≤ 2147483647) :
    Calls Tryz.prog 26 #[.int .i32 x] w fun e w' => e = .returned (.tuple #[.int .i32 (wRs (wLvU x)), .int .i32 (wLvH x)]) ∧ Below w.heap.size w w' := by
  have hb := Below.refl w.heap.size w
  have hB := Nat.le_refl w.heap.size
  obtain ⟨u1, u2⟩ := wLvU_bd x
  obtain ⟨u, hu⟩ : ∃ u, wLvU x = u := ⟨_, rfl⟩
  obtain ⟨h, hh⟩ : ∃ h, wLvH x = h := ⟨_, rfl⟩
  rw [hu] at u1 u2
  rw [hu, hh]
  have HU := Lib.hid hu
  have HH := Lib.hid hh
  clear hu hh
  have B0 := Lib.hid (wMulq_bd 715827883 u)
  go_enter Tryz.func26, Tryz.ntmps26
  go_wp2_with (first
    | (go_at_call 38; refine (keep (refLevel_v _ u h _ x1 x2 HU.out HH.out) hb hB).mono ?_; rintro e w1 ⟨rfl, hb, hB⟩)
    | (go_at_call 23; refine (refMulq_is _ _ _ (by decide) (by decide) u1 u2).mono ?_; rintro e w1 ⟨rfl, rfl⟩)
    | (go_at_call 17; refine (refSub_is _ _ _ (by decide) (by decide) B0.out.1 B0.out.2).mono ?_; rintro e w1 ⟨rfl, rfl⟩))
  go_loopw [6, 7] (fun z i wr => ∃ k : Nat, k ≤ 4 ∧ i = .int .i64 k ∧ z = .int .i32 (rsI u k) ∧ Below w.heap.size w wr ∧ w.heap.size ≤ wr.heap.size) (fun _ i _ => 4 - (intOf i).toNat)
  case atStart => exact ⟨0, by omega, rfl, rfl, hb, hB⟩
  case round =>
    obtain ⟨k, hk, rfl, rfl, hb, hB⟩ := hrel
    by_cases hlt : k < 4
    · have hlt' : (k : Int) < 4 := by omega
      have S := Lib.hid (show rsI u (k + 1) = wRsZ u (rsI u k) from rfl)
      obtain ⟨z1, z2⟩ := rsI_bd u k
      generalize rsI u k = z at *
      have B1 := Lib.hid (wMulq_bd z z)
      have B2 := Lib.hid (wMulq_bd u (wMulq z z))
      have B3 := Lib.hid (wShl_bd (wMulq u (wMulq z z)) 2)
      have EE := Lib.hid (show wCut (1073741824 - wShl (wMulq u (wMulq z z)) 2) = wRsE u z from rfl)
      have B4 := Lib.hid (wRsE_bd u z)
      have B5 := Lib.hid (wMulq_bd z (wRsE u z))
      have B6 := Lib.hid (wSar_bd (wMulq z (wRsE u z)) 1)
      have EZ := Lib.hid (show wCut (z + wSar (wMulq z (wRsE u z)) 1) = wRsZ u z from rfl)
      go_wp2_with (first
        | (go_at_call 23; with_reducible refine (refMulq_is z z _ z1 z2 z1 z2).mono ?_; rintro e w1 ⟨rfl, rfl⟩)
        | (go_at_call 23; with_reducible refine (refMulq_is u (wMulq z z) _ u1 u2 B1.out.1 B1.out.2).mono ?_; rintro e w1 ⟨rfl, rfl⟩)
        | (go_at_call 39; with_reducible refine (keep (refShl_is _ _ _ B2.out.1 B2.out.2 (by decide) (by decide)) hb hB).mono ?_; rintro e w1 ⟨rfl, hb, hB⟩)
        | (go_at_call 17; with_reducible refine (refSub_is _ _ _ (by decide) (by decide) B3.out.1 B3.out.2).mono ?_; rw [EE.out]; rintro e w1 ⟨rfl, rfl⟩)
        | (go_at_call 23; with_reducible refine (refMulq_is z (wRsE u z) _ z1 z2 B4.out.1 B4.out.2).mono ?_; rintro e w1 ⟨rfl, rfl⟩)
        | (go_at_call 40; with_reducible refine (refSar_is _ _ _ B5.out.1 B5.out.2 (by decide) (by decide)).mono ?_; rintro e w1 ⟨rfl, rfl⟩)
        | (go_at_call 19; with_reducible refine (refAdd_is _ _ _ z1 z2 B6.out.1 B6.out.2).mono ?_; rw [EZ.out]; rintro e w1 ⟨rfl, rfl⟩))
      go_roundw
      case rel => exact ⟨k + 1, by omega, by go_num, by rw [S.out], hb, hB⟩
      case measure => simp [intOf]; omega
    · obtain rfl : k = 4 := by omega
      go_wp2
      go_returns
      exact ⟨rfl, hb⟩

theorem refRsqrt_v (x z h : Int) (w : World) (x1 : -2147483648 ≤ x) (x2 : x ≤ 2147483647) (hz : wRs (wLvU x) = z) (hh : wLvH x = h) :
    Calls Tryz.prog 26 #[.int .i32 x] w fun e w' => e = .returned (.tuple #[.int .i32 z, .int .i32 h]) ∧ Below w.heap.size w w' := by
  subst hz hh; exact refRsqrt_is x w x1 x2
end Go.Proofs.YtdphiobmjdiefaaGreat
