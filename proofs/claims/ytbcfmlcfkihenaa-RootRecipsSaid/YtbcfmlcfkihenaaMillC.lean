/- The steps of layer 8 upon package mill's mill of words: the root, and 1 by a word. Conditions: the numbers are of the kinds of the parameters. -/
import Derived.Test.YtbcfmlcfkihenaaMillB
namespace Go.Proofs.Ytbcfmlcfkihenaa
open Go.RowKit

theorem mSqrt_v (x s : Int) (w : World) (x1 : -2147483648 ≤ x) (x2 : x ≤ 2147483647) (hs : wSqrt x = s) :
    Calls Try.prog 32 #[.agg #[.iface 41 (.agg #[])], .int .i32 x] w fun e w' => e = .returned (.int .i32 s) ∧ Below w.heap.size w w' := by
  have hb := fun o => ((Below.refl w.heap.size w).alloc (Nat.le_refl _) o)
  have hB : ∀ o, w.heap.size ≤ (w.alloc o).heap.size := fun o => (hb o).size
  obtain ⟨h1, h2⟩ := wLvH_bd x
  have zb := wRs_bd (wLvU x)
  unfold wSqrt at hs
  obtain ⟨z, hz⟩ : ∃ z, wRs (wLvU x) = z := ⟨_, rfl⟩
  obtain ⟨h, hh⟩ : ∃ h, wLvH x = h := ⟨_, rfl⟩
  rw [hz] at zb hs
  rw [hh] at h1 h2 hs
  have HZ := Lib.hid hz
  have HH := Lib.hid hh
  have HS := Lib.hid hs
  clear hz hh hs
  have hS1 : ∀ o, o = Obj.cells #[Value.iface 41 (.agg #[])] 37 → (w.alloc o).cell? ⟨w.heap.size, 0, none⟩ = some (.iface 41 (.agg #[])) ∧ Below w.heap.size w (w.alloc o) ∧ w.heap.size + 1 ≤ (w.alloc o).heap.size := fun o ho => ⟨by subst ho; go_cell, hb _, by simp⟩
  go_enter Try.func32, Try.ntmps32
  go_wp2_with (go_at_call 26; with_reducible refine (keepS (mRsqrt_v x z h _ x1 x2 HZ.out HH.out) (hS1 _ rfl)).mono ?_; rintro e w1 ⟨rfl, hS⟩)
  have hC := hS.1
  go_wp2_with (go_at_call 31; with_reducible refine (keepS (mScale_v x z h s _ x1 x2 zb.1 zb.2 (by omega) (by omega) HS.out) hS).mono ?_; rintro e w1 ⟨rfl, hS⟩)
  go_ret
  exact ⟨rfl, hS.2.1⟩

theorem sub_one {t : Int} (h1 : 0 ≤ t) (h2 : t ≤ 32) : wTwo 2 t 1 = t - 1 := by
  obtain ⟨n, rfl⟩ : ∃ n : Nat, t = n := ⟨t.toNat, by omega⟩
  have : ((List.range 33).all fun i => decide (wTwo 2 (i : Int) 1 = (i : Int) - 1)) = true := by decide +kernel
  simpa using List.all_eq_true.1 this n (List.mem_range.2 (by omega))

set_option maxHeartbeats 2000000 in
theorem mRecip_v (x z h : Int) (w : World) (x1 : -2147483648 ≤ x) (x2 : x ≤ 2147483647) (hz : wRc (wRcV x) = z) (hh : wClz x - 1 = h) :
    Calls Try.prog 33 #[.agg #[.iface 41 (.agg #[])], .int .i32 x] w fun e w' => e = .returned (.tuple #[.int .i32 z, .int .i32 h]) ∧ Below w.heap.size w w' := by
  have hb := fun o => ((Below.refl w.heap.size w).alloc (Nat.le_refl _) o)
  have hB : ∀ o, w.heap.size ≤ (w.alloc o).heap.size := fun o => (hb o).size
  obtain ⟨c1, c2⟩ := wClz_bd x
  have V := Lib.hid (wRcV_bd x)
  have V1 := Lib.hid (show wDo 24 x 0 = wClz x from (do_one (by decide) (by decide)))
  have V2 := Lib.hid (show wShr (wShl x (wClz x)) 2 = wRcV x from rfl)
  have V4 := Lib.hid (show wDo 4 1564549212 (wRcV x) = rcI (wRcV x) 0 from (do_two (by decide) (by decide)))
  have V5 := Lib.hid (show wDo 2 (wClz x) 1 = h from ((do_two (by decide) (by decide)) : wDo 2 (wClz x) 1 = wTwo 2 (wClz x) 1).trans ((sub_one c1 c2).trans hh))
  have HZ := Lib.hid hz
  clear hh hz
  generalize wClz x = t at *
  generalize wRcV x = v at *
  have hS1 : ∀ o, o = Obj.cells #[Value.iface 41 (.agg #[])] 37 → (w.alloc o).cell? ⟨w.heap.size, 0, none⟩ = some (.iface 41 (.agg #[])) ∧ Below w.heap.size w (w.alloc o) ∧ w.heap.size + 1 ≤ (w.alloc o).heap.size := fun o ho => ⟨by subst ho; go_cell, hb _, by simp⟩
  go_enter Try.func33, Try.ntmps33
  go_wp2_with (go_at_call 62; with_reducible refine (keepS (words_one 24 x t _ x1 x2 V1.out) (hS1 _ rfl)).mono ?_; rintro e w1 ⟨rfl, hS⟩)
  have hC := hS.1
  go_wp2_with (go_at_call 34; with_reducible refine (keepS (lift_v x t v _ x1 x2 (by omega) (by omega) V2.out) hS).mono ?_; rintro e w1 ⟨rfl, hS⟩)
  go_region_held3 (fun w' => w'.cell? ⟨w.heap.size, 0, none⟩ = some (.iface 41 (.agg #[])) ∧ Below w.heap.size w w' ∧ w.heap.size + 1 ≤ w'.heap.size)
    (first | assumption | exact ⟨by go_cell, (hb _).drew, by simp⟩ | exact ⟨by simpa using hS.1, hS.2.1.drew, by simpa using hS.2.2⟩)
    (first
      | (go_at_call 64; with_reducible refine (keepS (words_word _ _) (by assumption)).mono ?_; rintro e w1 ⟨rfl, hS⟩)
      | (go_at_call 63; with_reducible refine (keepS (words_two 4 1564549212 v _ _ (by decide) (by decide) V.out.1 V.out.2 V4.out) (by assumption)).mono ?_; rintro e w1 ⟨rfl, hS⟩))
  go_wp2
  go_loopw [4, 8, 27] (fun z e i wr => ∃ k : Nat, k ≤ 4 ∧ i = .int .i64 k ∧ z = .int .i32 (rcI v k) ∧ wr.cell? ⟨w.heap.size, 0, none⟩ = some (.iface 41 (.agg #[])) ∧ Below w.heap.size w wr ∧ w.heap.size + 1 ≤ wr.heap.size) (fun _ _ i _ => 4 - (intOf i).toNat)
  case atStart => exact ⟨0, by omega, rfl, rfl, hS⟩
  case round =>
    obtain ⟨k, hk, rfl, rfl, hS⟩ := hrel
    by_cases hlt : k < 4
    · have hlt' : (k : Int) < 4 := by omega
      have S := Lib.hid (show rcI v (k + 1) = wRcZ v (rcI v k) from rfl)
      obtain ⟨z1, z2⟩ := rcI_bd v k
      generalize rcI v k = z at *
      have B1 := Lib.hid (wMulq_bd v z)
      have B2 := Lib.hid (wShl_bd (wMulq v z) 1)
      have B3 := Lib.hid (wRcE_bd v z)
      have B4 := Lib.hid (wMulq_bd z (wRcE v z))
      have V3 := Lib.hid (show wDo 9 (wMulq v z) 1 = wShl (wMulq v z) 1 from (do_two (by decide) (by decide)))
      have V4 := Lib.hid (show wCut (1073741824 - wShl (wMulq v z) 1) = wRcE v z from rfl)
      have V7 := Lib.hid (show wDo 3 z (wMulq z (wRcE v z)) = wRcZ v z from (do_two (by decide) (by decide)))
      go_wp2
      go_region_held3 (fun w' => w'.cell? ⟨w.heap.size, 0, none⟩ = some (.iface 41 (.agg #[])) ∧ Below w.heap.size w w' ∧ w.heap.size + 1 ≤ w'.heap.size)
        (first | assumption | exact ⟨by go_cell, (hb _).drew, by simp⟩ | exact ⟨by simpa using hS.1, hS.2.1.drew, by simpa using hS.2.2⟩)
        (first
          | (go_at_call 39; with_reducible refine (keepS (mulq_v v z _ _ V.out.1 V.out.2 z1 z2 rfl) (by assumption)).mono ?_; rintro e w1 ⟨rfl, hS⟩)
          | (go_at_call 35; with_reducible refine (keepS (by_v 9 (wMulq v z) 1 _ _ B1.out.1 B1.out.2 (by decide) (by decide) V3.out) (by assumption)).mono ?_; rintro e w1 ⟨rfl, hS⟩)
          | (go_at_call 40; with_reducible refine (keepS (lack_v (wShl (wMulq v z) 1) (wRcE v z) _ B2.out.1 B2.out.2 V4.out) (by assumption)).mono ?_; rintro e w1 ⟨rfl, hS⟩))
      go_wp2
      go_region_held3 (fun w' => w'.cell? ⟨w.heap.size, 0, none⟩ = some (.iface 41 (.agg #[])) ∧ Below w.heap.size w w' ∧ w.heap.size + 1 ≤ w'.heap.size)
        (first | assumption | exact ⟨by go_cell, (hb _).drew, by simp⟩ | exact ⟨by simpa using hS.1, hS.2.1.drew, by simpa using hS.2.2⟩)
        (first
          | (go_at_call 39; with_reducible refine (keepS (mulq_v z (wRcE v z) _ _ z1 z2 B3.out.1 B3.out.2 rfl) (by assumption)).mono ?_; rintro e w1 ⟨rfl, hS⟩)
          | (go_at_call 63; with_reducible refine (keepS (words_two 3 z (wMulq z (wRcE v z)) _ _ z1 z2 B4.out.1 B4.out.2 V7.out) (by assumption)).mono ?_; rintro e w1 ⟨rfl, hS⟩))
      go_wp2
      go_roundw
      case rel => exact ⟨k + 1, by omega, by go_num, by rw [S.out], hS⟩
      case measure => simp [intOf]; omega
    · obtain rfl : k = 4 := by omega
      have hC := hS.1
      go_wp2_with (go_at_call 35; with_reducible refine (keepS (by_v 2 t 1 h _ (by omega) (by omega) (by decide) (by decide) V5.out) hS).mono ?_; rintro e w1 ⟨rfl, hS⟩)
      go_returns
      exact ⟨by rw [← HZ.out]; rfl, hS.2.1⟩

end Go.Proofs.Ytbcfmlcfkihenaa
