/- Layer 19's own example, and who is nobody. Condition: errors.errorType is what start-up lays. -/
import Derived.Test.YthaccdalciihpaaDoorLabF
import Derived.Test.YthaccdalciihpaaDoorLabH
namespace Go.Proofs.YthaccdalciihpaaDoor
open Go.RowKit Go.Maps Go.IntWalk

def txa : ByteArray := ⟨#[97]⟩
theorem aw_use : useE ⟨#[97]⟩ = 0 ∧ useS [] ⟨#[97]⟩ 3 = [(⟨#[97]⟩, 3)] := by decide +kernel
theorem aw_def : defE [] ⟨#[97]⟩ = 0 ∧ defS [] ⟨#[97]⟩ 7 = [(⟨#[97]⟩, 7)] := by decide +kernel
theorem aw_def2 : defE [(⟨#[97]⟩, 7)] ⟨#[97]⟩ = 9 ∧ defS [(⟨#[97]⟩, 7)] ⟨#[97]⟩ 8 = [(⟨#[97]⟩, 7)] := by decide +kernel
theorem aw_use2 : useE ⟨#[65]⟩ = 8 ∧ useS [(⟨#[97]⟩, 3)] ⟨#[65]⟩ 1 = [(⟨#[97]⟩, 3)] := by decide +kernel
theorem aw_res : resL [(⟨#[97]⟩, 7)] [(⟨#[97]⟩, 3)] = [(3, 7)] ∧ resN [(⟨#[97]⟩, 7)] [(⟨#[97]⟩, 3)] = ⟨#[]⟩ ∧ resE [(⟨#[97]⟩, 7)] [(⟨#[97]⟩, 3)] = 0 := by decide +kernel
theorem aw_is : nameB ⟨#[97, 95, 49]⟩ = true ∧ nameB ⟨#[49, 97]⟩ = false := by decide +kernel
set_option maxRecDepth 100000 in
set_option maxHeartbeats 4000000 in
theorem labAwake_is (w : World) (hE : ErrLaid w) :
    Calls Tryd.prog 5 #[] w fun e w' => e = .returned (.bool true) ∧ Below w.heap.size w w' := by
  have HE := Lib.hid hE
  have HM : Hid (∀ n : Nat, n < 100 → n ≤ maxLen) := Lib.hid fun n h => by unfold maxLen; omega
  have u1 : Hid (useE ⟨#[97]⟩ = 0 ∧ useS [] ⟨#[97]⟩ 3 = [(⟨#[97]⟩, 3)]) := Lib.hid aw_use
  clear hE
  go_enter Tryd.func5, Tryd.ntmps5
  go_wp2_with (first
    | (go_at_call 6; ((with_reducible refine (labNew_is w.heap.size _ (Nat.le_refl _)).mono ?_); rintro e w1 ⟨t, F, rfl, h1, hF1, hb1⟩); have H1 := Lib.hid h1; have HB1 := Lib.hid hb1; have hs1 := hb1.size; clear h1 hb1 hF1)
    | (go_at_call 9; ((with_reducible refine (labUse_is w.heap.size t [] [] F ⟨#[97]⟩ 3 _ H1.out (HM.out _ (by decide)) (by decide) hs1).mono ?_); rintro e w2 ⟨F2, rfl, h2, hg2⟩); rw [u1.out.1]; rw [u1.out.2] at h2; have H2 := Lib.hid h2; have HB2 := Lib.hid (hg2.keeps.below HB1.out hs1 fun j q => (H1.out.low j q).1); have hs2 : w.heap.size ≤ w2.heap.size := HB2.out.size; clear h2 hg2)
    | (go_at_call 7; ((with_reducible refine (labDefine_is w.heap.size t [] [(⟨#[97]⟩, 3)] F2 ⟨#[97]⟩ 7 _ H2.out (HM.out _ (by decide)) (by decide) hs2).mono ?_); rintro e w3 ⟨F3, rfl, h3, hg3⟩); rw [aw_def.1]; rw [aw_def.2] at h3; have H3 := Lib.hid h3; have HB3 := Lib.hid (hg3.keeps.below HB2.out hs2 fun j q => (H2.out.low j q).1); have hs3 : w.heap.size ≤ w3.heap.size := HB3.out.size; clear h3 hg3)
    | (go_at_call 7; ((with_reducible refine (labDefine_is w.heap.size t [(⟨#[97]⟩, 7)] [(⟨#[97]⟩, 3)] F3 ⟨#[97]⟩ 8 _ H3.out (HM.out _ (by decide)) (by decide) hs3).mono ?_); rintro e w4 ⟨F4, rfl, h4, hg4⟩); rw [aw_def2.1]; rw [aw_def2.2] at h4; have H4 := Lib.hid h4; have HB4 := Lib.hid (hg4.keeps.below HB3.out hs3 fun j q => (H3.out.low j q).1); have hs4 : w.heap.size ≤ w4.heap.size := HB4.out.size; clear h4 hg4)
    | (go_at_call 9; ((with_reducible refine (labUse_is w.heap.size t [(⟨#[97]⟩, 7)] [(⟨#[97]⟩, 3)] F4 ⟨#[65]⟩ 1 _ H4.out (HM.out _ (by decide)) (by decide) hs4).mono ?_); rintro e w5 ⟨F5, rfl, h5, hg5⟩); rw [aw_use2.1]; rw [aw_use2.2] at h5; have H5 := Lib.hid h5; have HB5 := Lib.hid (hg5.keeps.below HB4.out hs4 fun j q => (H4.out.low j q).1); have hs5 : w.heap.size ≤ w5.heap.size := HB5.out.size; clear h5 hg5))
  have hE5 := HE.out.keep HB5.out
  refine (labResolve_is w.heap.size t [(⟨#[97]⟩, 7)] [(⟨#[97]⟩, 3)] F5 _ H5.out (by decide) hE5).mono ?_
  rintro e w6 ⟨v, rfl, ho, hb6⟩
  rw [aw_res.2.1, aw_res.2.2]
  rw [aw_res.1] at ho
  obtain ⟨a0, c0, hv, hat⟩ := ho.at
  have hv' : v = .slice a0 1 c0 := hv
  have hat' : ElAt fixK w6 a0 1 c0 [(3, 7)] := hat
  subst hv'
  have HAT := Lib.hid hat'
  have HB6 := Lib.hid (HB5.out.trans (hb6.mono hs5))
  have hs6 : w.heap.size ≤ w6.heap.size := HB6.out.size
  have HMN := Lib.hid madeL_nil
  have HMO := Lib.hid (madeL_odd (b := w6.heap.size) (w := w6.alloc (.cells #[.map none, .slice none 0 0, .pointer none] 49)) (by simp))
  have HB7 := Lib.hid (HB6.out.alloc hs6 (.cells #[.map none, .slice none 0 0, .pointer none] 49))
  have HA7 := Lib.hid (HAT.out.keep ((Below.refl _ _).alloc (Nat.le_refl _) (.cells #[.map none, .slice none 0 0, .pointer none] 49)))
  clear ho hv hat hat' hb6 hE5
  go_wp2_with (first
    | (go_at_call 13; ((with_reducible refine (labPlace_nobody (p := .pointer none) ⟨#[97]⟩ (HMN.out _)).mono ?_); rintro e w7 ⟨rfl, rfl⟩))
    | (go_at_call 13; ((with_reducible refine (labPlace_nobody ⟨#[97]⟩ HMO.out).mono ?_); rintro e w7 ⟨rfl, rfl⟩))
    | (go_at_call 11; ((with_reducible refine (labResolve_nobody (p := .pointer none) (HMN.out _)).mono ?_); rintro e w7 ⟨rfl, rfl⟩))
    | (go_at_call 11; ((with_reducible refine (labResolve_nobody HMO.out).mono ?_); rintro e w7 ⟨rfl, rfl⟩)))
  have b8 := (Below.refl (w6.heap.size + 1) (w6.alloc (.cells #[.map none, .slice none 0 0, .pointer none] 49))).alloc (by simp) (.cells #[.int .i64 3, .int .i64 7] 51)
  have e7 : (w6.alloc (.cells #[.map none, .slice none 0 0, .pointer none] 49)).heap.size = w6.heap.size + 1 := by simp
  rw [← e7] at b8
  have hl8 : ElAt fixK ((w6.alloc (.cells #[.map none, .slice none 0 0, .pointer none] 49)).alloc (.cells #[.int .i64 3, .int .i64 7] 51)) (some ⟨w6.heap.size + 1, 0, none⟩) 1 1 [(3, 7)] := one_el (K := fixK) _ 51 (3, 7) #[.int .i64 3, .int .i64 7] rfl e7
  have hb8 := HB7.out.trans (b8.mono HB7.out.size)
  refine (refSame19_is a0 (some ⟨w6.heap.size + 1, 0, none⟩) 1 c0 1 [(3, 7)] _ (HA7.out.keep b8) hl8).mono ?_
  rintro e w9 ⟨rfl, hb9⟩
  have HMO9 := Lib.hid ((HMO.out.keep b8).keep hb9)
  have HB9 := Lib.hid (hb8.trans (hb9.mono hb8.size))
  have HI := Lib.hid labIs_is
  clear b8 e7 hl8 hb8 hb9
  go_wp2_with (first
    | (go_at_call 7; ((with_reducible refine (labDefine_nobody (p := .pointer none) ⟨#[97]⟩ 1 (HMN.out _)).mono ?_); rintro e w7 ⟨rfl, rfl⟩))
    | (go_at_call 9; ((with_reducible refine (labUse_nobody ⟨#[97]⟩ 1 HMO9.out).mono ?_); rintro e w7 ⟨rfl, rfl⟩))
    | (go_at_call 17; ((with_reducible refine (labNames_nobody (p := .pointer none) (HMN.out _)).mono ?_); rintro e w7 ⟨rfl, rfl⟩))
    | (go_at_call 17; ((with_reducible refine (labNames_nobody HMO9.out).mono ?_); rintro e w7 ⟨rfl, rfl⟩))
    | (go_at_call 19; ((with_reducible refine (HI.out ⟨#[97, 95, 49]⟩ _ (HM.out _ (by decide))).mono ?_); rintro e w7 ⟨rfl, rfl⟩); rw [aw_is.1])
    | (go_at_call 19; ((with_reducible refine (HI.out ⟨#[49, 97]⟩ _ (HM.out _ (by decide))).mono ?_); rintro e w7 ⟨rfl, rfl⟩); rw [aw_is.2]))
  go_ret
  exact ⟨rfl, HB9.out⟩
end Go.Proofs.YthaccdalciihpaaDoor
