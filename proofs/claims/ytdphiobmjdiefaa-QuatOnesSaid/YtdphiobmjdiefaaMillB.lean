/- The steps of layer 8 upon package mill's mill of words: 1 by the root, the root, 1 by a word. Conditions: the numbers are of the kinds of the parameters. -/
import Derived.Test.YtdphiobmjdiefaaMillR
namespace Go.Proofs.Ytdphiobmjdiefaa
open Go.RowKit

set_option maxHeartbeats 2000000 in
theorem mRsqrt_v (x z h : Int) (w : World) (x1 : -2147483648 ≤ x) (x2 : x ≤ 2147483647) (hz : wRs (wLvU x) = z) (hh : wLvH x = h) :
    Calls Try.prog 22 #[.agg #[.iface 45 (.agg #[])], .int .i32 x] w fun e w' => e = .returned (.tuple #[.int .i32 z, .int .i32 h]) ∧ Below w.heap.size w w' := by
  have hb := fun o => ((Below.refl w.heap.size w).alloc (Nat.le_refl _) o)
  have hB : ∀ o, w.heap.size ≤ (w.alloc o).heap.size := fun o => (hb o).size
  obtain ⟨u1, u2⟩ := wLvU_bd x
  obtain ⟨u, hu⟩ : ∃ u, wLvU x = u := ⟨_, rfl⟩
  rw [hu] at u1 u2 hz
  have HU := Lib.hid hu
  have HH := Lib.hid hh
  have HZ := Lib.hid hz
  clear hu hh hz
  have B0 := Lib.hid (wMulq_bd 715827883 u)
  have V2 := Lib.hid (show wDo 4 1184766729 (wMulq 715827883 u) = rsI u 0 from (do_two (by decide) (by decide)))
  have hS1 : ∀ o, o = Obj.cells #[Value.iface 45 (.agg #[])] 36 → (w.alloc o).cell? ⟨w.heap.size, 0, none⟩ = some (.iface 45 (.agg #[])) ∧ Below w.heap.size w (w.alloc o) ∧ w.heap.size + 1 ≤ (w.alloc o).heap.size := fun o ho => ⟨by subst ho; go_cell, hb _, by simp⟩
  go_enter Try.func22, Try.ntmps22
  go_wp2_with (go_at_call 25; with_reducible refine (keepS (mLevel_v x u h _ x1 x2 HU.out HH.out) (hS1 _ rfl)).mono ?_; rintro e w1 ⟨rfl, hS⟩)
  go_region_held3 (fun w' => w'.cell? ⟨w.heap.size, 0, none⟩ = some (.iface 45 (.agg #[])) ∧ Below w.heap.size w w' ∧ w.heap.size + 1 ≤ w'.heap.size)
    (first | assumption | exact ⟨by go_cell, (hb _).drew, by simp⟩ | exact ⟨by simpa using hS.1, hS.2.1.drew, by simpa using hS.2.2⟩)
    (first
      | (go_at_call 47; with_reducible refine (keepS (words_word _ _) (by assumption)).mono ?_; rintro e w1 ⟨rfl, hS⟩)
      | (go_at_call 20; with_reducible refine (keepS (mulq_v 715827883 u _ _ (by decide) (by decide) u1 u2 rfl) (by assumption)).mono ?_; rintro e w1 ⟨rfl, hS⟩)
      | (go_at_call 46; with_reducible refine (keepS (words_two 4 1184766729 (wMulq 715827883 u) _ _ (by decide) (by decide) B0.out.1 B0.out.2 V2.out) (by assumption)).mono ?_; rintro e w1 ⟨rfl, hS⟩))
  go_wp2
  go_loopw [4, 7, 28] (fun z e i wr => ∃ k : Nat, k ≤ 4 ∧ i = .int .i64 k ∧ z = .int .i32 (rsI u k) ∧ wr.cell? ⟨w.heap.size, 0, none⟩ = some (.iface 45 (.agg #[])) ∧ Below w.heap.size w wr ∧ w.heap.size + 1 ≤ wr.heap.size) (fun _ _ i _ => 4 - (intOf i).toNat)
  case atStart => exact ⟨0, by omega, rfl, rfl, hS⟩
  case round =>
    obtain ⟨k, hk, rfl, rfl, hS⟩ := hrel
    by_cases hlt : k < 4
    · have hlt' : (k : Int) < 4 := by omega
      have S := Lib.hid (show rsI u (k + 1) = wRsZ u (rsI u k) from rfl)
      obtain ⟨z1, z2⟩ := rsI_bd u k
      generalize rsI u k = z at *
      have B1 := Lib.hid (wMulq_bd z z)
      have B2 := Lib.hid (wMulq_bd u (wMulq z z))
      have B3 := Lib.hid (wShl_bd (wMulq u (wMulq z z)) 2)
      have B4 := Lib.hid (wRsE_bd u z)
      have B5 := Lib.hid (wMulq_bd z (wRsE u z))
      have B6 := Lib.hid (wSar_bd (wMulq z (wRsE u z)) 1)
      have V3 := Lib.hid (show wDo 9 (wMulq u (wMulq z z)) 2 = wShl (wMulq u (wMulq z z)) 2 from (do_two (by decide) (by decide)))
      have V4 := Lib.hid (show wCut (1073741824 - wShl (wMulq u (wMulq z z)) 2) = wRsE u z from rfl)
      have V6 := Lib.hid (show wDo 11 (wMulq z (wRsE u z)) 1 = wSar (wMulq z (wRsE u z)) 1 from (do_two (by decide) (by decide)))
      have V7 := Lib.hid (show wDo 3 z (wSar (wMulq z (wRsE u z)) 1) = wRsZ u z from (do_two (by decide) (by decide)))
      go_wp2
      go_region_held3 (fun w' => w'.cell? ⟨w.heap.size, 0, none⟩ = some (.iface 45 (.agg #[])) ∧ Below w.heap.size w w' ∧ w.heap.size + 1 ≤ w'.heap.size)
        (first | assumption | exact ⟨by go_cell, (hb _).drew, by simp⟩ | exact ⟨by simpa using hS.1, hS.2.1.drew, by simpa using hS.2.2⟩)
        (first
          | (go_at_call 20; with_reducible refine (keepS (mulq_v z z _ _ z1 z2 z1 z2 rfl) (by assumption)).mono ?_; rintro e w1 ⟨rfl, hS⟩)
          | (go_at_call 20; with_reducible refine (keepS (mulq_v u (wMulq z z) _ _ u1 u2 B1.out.1 B1.out.2 rfl) (by assumption)).mono ?_; rintro e w1 ⟨rfl, hS⟩)
          | (go_at_call 27; with_reducible refine (keepS (by_v 9 (wMulq u (wMulq z z)) 2 _ _ B2.out.1 B2.out.2 (by decide) (by decide) V3.out) (by assumption)).mono ?_; rintro e w1 ⟨rfl, hS⟩)
          | (go_at_call 26; with_reducible refine (keepS (lack_v (wShl (wMulq u (wMulq z z)) 2) (wRsE u z) _ B3.out.1 B3.out.2 V4.out) (by assumption)).mono ?_; rintro e w1 ⟨rfl, hS⟩))
      go_wp2
      go_region_held3 (fun w' => w'.cell? ⟨w.heap.size, 0, none⟩ = some (.iface 45 (.agg #[])) ∧ Below w.heap.size w w' ∧ w.heap.size + 1 ≤ w'.heap.size)
        (first | assumption | exact ⟨by go_cell, (hb _).drew, by simp⟩ | exact ⟨by simpa using hS.1, hS.2.1.drew, by simpa using hS.2.2⟩)
        (first
          | (go_at_call 20; with_reducible refine (keepS (mulq_v z (wRsE u z) _ _ z1 z2 B4.out.1 B4.out.2 rfl) (by assumption)).mono ?_; rintro e w1 ⟨rfl, hS⟩)
          | (go_at_call 27; with_reducible refine (keepS (by_v 11 (wMulq z (wRsE u z)) 1 _ _ B5.out.1 B5.out.2 (by decide) (by decide) V6.out) (by assumption)).mono ?_; rintro e w1 ⟨rfl, hS⟩)
          | (go_at_call 46; with_reducible refine (keepS (words_two 3 z (wSar (wMulq z (wRsE u z)) 1) _ _ z1 z2 B6.out.1 B6.out.2 V7.out) (by assumption)).mono ?_; rintro e w1 ⟨rfl, hS⟩))
      go_wp2
      go_roundw
      case rel => exact ⟨k + 1, by omega, by go_num, by rw [S.out], hS⟩
      case measure => simp [intOf]; omega
    · obtain rfl : k = 4 := by omega
      go_wp2
      go_returns
      exact ⟨by rw [← HZ.out]; rfl, hS.2.1⟩

end Go.Proofs.Ytdphiobmjdiefaa
