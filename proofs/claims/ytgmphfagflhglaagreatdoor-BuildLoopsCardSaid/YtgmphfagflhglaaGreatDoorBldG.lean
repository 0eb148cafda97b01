/- Package build: what is said of nobody's builder; layer 21's own example. Conditions: the table of shapes and errors.errorType are what start-up lays. -/
import Derived.Test.YtgmphfagflhglaaGreatDoorBldF
import Derived.Test.YtgmphfagflhglaaGreatDoorBldW
import Derived.Deep.Cut
namespace Go.Proofs.YtgmphfagflhglaaGreatDoor
open Go.RowKit Go.Maps Go.IntWalk

section
variable {p : Value} {w : World}
set_option maxRecDepth 100000 in
theorem bldIns_nobody (o x a c n : Int) (h : MadeB p w none) : Calls Tryz.prog 9 #[p, .agg #[.int .i64 o, .int .i64 x, .int .i64 a, .int .i64 c, .int .i64 n]] w fun e w' => e = .returned (.int .i64 1) ∧ Below w.heap.size w w' := by
  have ba := (Below.refl w.heap.size w).alloc (Nat.le_refl _) (.cells #[.int .i64 o, .int .i64 x, .int .i64 a, .int .i64 c, .int .i64 n] 29)
  have HM := Lib.hid (h.keep ba).now
  have HB := Lib.hid ba
  clear h ba
  go_enter Tryz.func9, Tryz.ntmps9
  go_wp2_with (go_at_call 18; ((with_reducible refine (HM.out).mono ?_); rintro e w1 ⟨rfl, rfl⟩))
  go_ret
  exact ⟨rfl, HB.out⟩
set_option maxRecDepth 100000 in
theorem bldLabel_nobody (s : ByteArray) (h : MadeB p w none) : Calls Tryz.prog 32 #[p, .string s] w fun e w' => e = .returned (.int .i64 1) ∧ w = w' := by
  have HM := Lib.hid h.now
  clear h
  go_enter Tryz.func32, Tryz.ntmps32
  go_wp2_with (go_at_call 18; ((with_reducible refine (HM.out).mono ?_); rintro e w1 ⟨rfl, rfl⟩))
  go_ret
  exact ⟨rfl, rfl⟩
set_option maxRecDepth 100000 in
theorem bldGo_nobody (o x a : Int) (s : ByteArray) (h : MadeB p w none) : Calls Tryz.prog 33 #[p, .int .i64 o, .int .i64 x, .int .i64 a, .string s] w fun e w' => e = .returned (.int .i64 1) ∧ w = w' := by
  have HM := Lib.hid h.now
  clear h
  go_enter Tryz.func33, Tryz.ntmps33
  go_wp2_with (go_at_call 18; ((with_reducible refine (HM.out).mono ?_); rintro e w1 ⟨rfl, rfl⟩))
  go_ret
  exact ⟨rfl, rfl⟩
set_option maxRecDepth 100000 in
theorem bldSet_nobody (x n : Int) (h : MadeB p w none) (h1 : -32768 ≤ n) (h2 : n ≤ 32767) : Calls Tryz.prog 5 #[p, .int .i64 x, .int .i32 n] w fun e w' => e = .returned (.int .i64 1) ∧ Below w.heap.size w w' := by
  have HA := Lib.hid (bldAddi_is x 0 n)
  have HI := Lib.hid (fun w1 (k : Below w.heap.size w w1) => bldIns_nobody 31 x 0 0 n (h.keep k))
  clear h
  go_enter Tryz.func5, Tryz.ntmps5
  go_wp2_with (first
    | (go_at_call 17; ((with_reducible refine (HA.out _).mono ?_); rintro e w1 ⟨rfl, hb⟩); have HB := Lib.hid hb; clear hb)
    | (go_at_call 9; ((with_reducible refine (HI.out _ HB.out).mono ?_); rintro e w2 ⟨rfl, hb⟩); have HB2 := Lib.hid (HB.out.trans (hb.mono HB.out.size)); clear hb))
  go_ret
  exact ⟨rfl, HB2.out⟩
set_option maxRecDepth 100000 in
theorem bldLoop_nobody (c l n : Int) (s : ByteArray) (fv : Value) (h : MadeB p w none) : Calls Tryz.prog 6 #[p, .int .i64 c, .int .i64 l, .int .i64 n, .string s, fv] w fun e w' => e = .returned (.int .i64 1) ∧ w = w' := by
  have HM := Lib.hid h.now
  clear h
  go_enter Tryz.func6, Tryz.ntmps6
  go_wp2_with (go_at_call 18; ((with_reducible refine (HM.out).mono ?_); rintro e w1 ⟨rfl, rfl⟩))
  go_ret
  exact ⟨rfl, rfl⟩
set_option maxRecDepth 100000 in
theorem bldLen_nobody (h : MadeB p w none) : Calls Tryz.prog 34 #[p] w fun e w' => e = .returned (.int .i64 0) ∧ w = w' := by
  have HM := Lib.hid h.now
  clear h
  go_enter Tryz.func34, Tryz.ntmps34
  go_wp2_with (go_at_call 18; ((with_reducible refine (HM.out).mono ?_); rintro e w1 ⟨rfl, rfl⟩))
  go_ret
  exact ⟨rfl, rfl⟩
set_option maxRecDepth 100000 in
theorem bldFinish_nobody (h : MadeB p w none) : Calls Tryz.prog 10 #[p] w fun e w' => e = .returned (.tuple #[.slice none 0 0, .string ⟨#[]⟩, .int .i64 1]) ∧ w = w' := by
  have HM := Lib.hid h.now
  clear h
  go_enter Tryz.func10, Tryz.ntmps10
  go_wp2_with (go_at_call 18; ((with_reducible refine (HM.out).mono ?_); rintro e w1 ⟨rfl, rfl⟩))
  refine bodyPost_ret (v := .tuple #[.slice none 0 0, .string ⟨#[]⟩, .int .i64 1]) (by simp [results, Tryz.results10, go_sem]) rfl ⟨rfl, rfl⟩
end
theorem Ws.pair (w : World) (e : TypeId) (a b : Int) : Ws .u32 (w.alloc (.cells #[.int .u32 a, .int .u32 b] e)) (some ⟨w.heap.size, 0, none⟩) 2 2 [a, b] := by
  obtain ⟨p, q, e', h⟩ := (OwnW.lit (κ := .u32) w e (Nat.le_refl _) [a, b] (by unfold maxLen; simp) #[.int .u32 a, .int .u32 b] rfl).ws
  simp only [Value.slice.injEq] at e'
  obtain ⟨rfl, -, rfl⟩ := e'
  exact h
theorem aw_set : setE 1 = 0 ∧ (⟨[], [], []⟩ : Bst).setR 1 100000 = ⟨[(33, 1, 0, 0, 1), (32, 1, 1, 0, 34464)], [], []⟩ := by
  refine ⟨by decide, ?_⟩
  unfold Bst.setR
  rw [if_pos (by decide)]
  unfold setI
  rw [if_neg (by decide)]; rfl
theorem aw_fin : finE ⟨[(33, 1, 0, 0, 1), (32, 1, 1, 0, 34464)], [], []⟩ = 0 ∧ finN ⟨[(33, 1, 0, 0, 1), (32, 1, 1, 0, 34464)], [], []⟩ = ⟨#[]⟩ ∧ finW ⟨[(33, 1, 0, 0, 1), (32, 1, 1, 0, 34464)], [], []⟩ = [2216689665, 2149680800] := by decide +kernel
theorem aw_fit : Fit ⟨[(33, 1, 0, 0, 1), (32, 1, 1, 0, 34464)], [], []⟩ := fun _ h => by cases h
set_option maxRecDepth 100000 in
set_option maxHeartbeats 4000000 in
theorem bldAwake_is (w : World) (hL : ShapesLaid w) (hE : ErrLaid w) :
    Calls Tryz.prog 15 #[] w fun e w' => e = .returned (.bool true) ∧ Below w.heap.size w w' := by
  have HE := Lib.hid hE
  have HL := Lib.hid hL
  obtain ⟨S, hS⟩ : ∃ S : Bst, (⟨[(33, 1, 0, 0, 1), (32, 1, 1, 0, 34464)], [], []⟩ : Bst) = S := ⟨_, rfl⟩
  have hset := aw_set
  have hfin := aw_fin
  have hfit := aw_fit
  have hlen : S.L.length = 2 := by rw [← hS]; rfl
  have hus : S.us.length = 0 := by rw [← hS]; rfl
  rw [hS] at hset hfin hfit
  have HS := Lib.hid hset
  have HFI := Lib.hid hfin
  have HFT := Lib.hid hfit
  have HSET := Lib.hid (fun w1 b d F (k : BldAt w.heap.size w1 b d ⟨[], [], []⟩ F) (l : ShapesLaid w1) (m : w.heap.size ≤ w1.heap.size) => bldSet_is 1 100000 w1 k l HL.out.lt (by decide) m (by decide) (by decide))
  rw [hset.1, hset.2] at HSET
  have HFIN := Lib.hid (fun w1 b d F (k : BldAt w.heap.size w1 b d S F) (l : ShapesLaid w1) (e : ErrLaid w1) => bldFinish_is w1 k l e (by omega) (by omega) HFT.out)
  unfold RetFin at HFIN
  rw [hfin.1, hfin.2.1, hfin.2.2] at HFIN
  clear hL hE hset hfin hfit hS
  go_enter Tryz.func15, Tryz.ntmps15
  go_wp2_with (first
    | (go_at_call 4; ((with_reducible refine (bldNew_is w.heap.size _ (Nat.le_refl _)).mono ?_); rintro e w1 ⟨b, d, F, rfl, h1, hF1, hb1⟩); have H1 := Lib.hid h1; have HB1 := Lib.hid hb1; have hs1 := hb1.size; have HL1 := Lib.hid (HL.out.below hb1 HL.out.lt); clear h1 hb1 hF1)
    | (go_at_call 5; ((with_reducible refine (HSET.out _ _ _ _ H1.out HL1.out hs1).mono ?_); rintro e w2 ⟨F2, rfl, h2, g2⟩); have H2 := Lib.hid h2; have HB2 := Lib.hid (g2.keeps.below HB1.out hs1 fun j q => (H1.out.low j q).1); have hs2 : w.heap.size ≤ w2.heap.size := HB2.out.size; have HL2 := Lib.hid (HL.out.below HB2.out HL.out.lt); have HE2 := Lib.hid (HE.out.keep HB2.out); clear h2 g2))
  refine (HFIN.out _ _ _ _ H2.out HL2.out HE2.out).mono ?_
  rintro e w3 ⟨v, rfl, ho, hb3⟩
  obtain ⟨a0, c0, rfl, hws⟩ := ho.wsn (m := 2) rfl
  have HW := Lib.hid hws
  have HB3 := Lib.hid (HB2.out.trans (hb3.mono hs2))
  have H3 := Lib.hid (H2.out.keep hb3)
  have hs3 := HB3.out.size
  clear ho hb3 hws
  go_upto_region 8 with (fail)
  have bo := (Below.refl w3.heap.size w3).alloc (Nat.le_refl _) (.cells #[.pointer none, .pointer none] 48)
  have bp := (Below.refl w3.heap.size (w3.alloc (.cells #[.pointer none, .pointer none] 48))).alloc (by simp) (.cells #[.bool false] 4)
  have bk := BlkAt.new w3 48 #[.pointer none, .pointer none]
  have bc := BlkAt.new (w3.alloc (.cells #[.pointer none, .pointer none] 48)) 4 #[.bool false]
  have e4 : (w3.alloc (.cells #[.pointer none, .pointer none] 48)).heap.size = w3.heap.size + 1 := by simp
  have bk4 := bk.keep ((Below.refl _ _).alloc (Nat.le_refl _) (.cells #[.bool false] 4))
  rw [e4] at bc
  have b4 := bo.trans bp
  clear bo bp bk e4
  generalize (w3.alloc (.cells #[.pointer none, .pointer none] 48)).alloc (.cells #[.bool false] 4) = W4 at *
  have HMN := Lib.hid madeB_nil
  have HMO := Lib.hid (madeB_odd bk4)
  have H4 := Lib.hid (H3.out.keep b4)
  have HW4 := Lib.hid (HW.out.keep b4)
  have HB4 := Lib.hid (HB3.out.trans (b4.mono hs3))
  have cc := bc.cell 0
  clear b4 bk4 bc
  go_wp2_with (first
    | (go_at_call 6; ((with_reducible refine (bldLoop_nobody (p := .pointer none) _ _ _ _ _ (HMN.out _)).mono ?_); rintro e w7 ⟨rfl, rfl⟩))
    | (go_at_call 6; ((with_reducible refine (bldLoop_nobody _ _ _ _ _ HMO.out).mono ?_); rintro e w7 ⟨rfl, rfl⟩))
    | (go_at_call 10; ((with_reducible refine (bldFinish_nobody (p := .pointer none) (HMN.out _)).mono ?_); rintro e w7 ⟨rfl, rfl⟩))
    | (go_at_call 10; ((with_reducible refine (bldFinish_nobody HMO.out).mono ?_); rintro e w7 ⟨rfl, rfl⟩))
    | (go_at_call 9; ((with_reducible refine (bldIns_nobody (p := .pointer none) 42 0 0 0 0 (HMN.out _)).mono ?_); rintro e w5 ⟨rfl, hb⟩); have HB5 := Lib.hid hb; have HMO5 := Lib.hid (HMO.out.keep hb); clear hb)
    | (go_at_call 32; ((with_reducible refine (bldLabel_nobody _ HMO5.out).mono ?_); rintro e w7 ⟨rfl, rfl⟩))
    | (go_at_call 33; ((with_reducible refine (bldGo_nobody (p := .pointer none) _ _ _ _ (HMN.out _)).mono ?_); rintro e w7 ⟨rfl, rfl⟩))
    | (go_at_call 5; ((with_reducible refine (bldSet_nobody 1 1 HMO5.out (by decide) (by decide)).mono ?_); rintro e w6 ⟨rfl, hb⟩); have HB6 := Lib.hid (HB5.out.trans (hb.mono HB5.out.size)); have HMO6 := Lib.hid (HMO5.out.keep hb); clear hb)
    | (go_at_call 34; ((with_reducible refine (bldLen_nobody (p := .pointer none) (HMN.out _)).mono ?_); rintro e w7 ⟨rfl, rfl⟩))
    | (go_at_call 34; ((with_reducible refine (bldLen_nobody HMO6.out).mono ?_); rintro e w7 ⟨rfl, rfl⟩)))
  have ba := (Below.refl w6.heap.size w6).alloc (Nat.le_refl _) (.cells #[.int .u32 2216689665, .int .u32 2149680800] 50)
  refine (refBWords_is ((HW4.out.keep HB6.out).keep ba) (Ws.pair w6 50 2216689665 2149680800)).mono ?_
  rintro e w7 ⟨rfl, hb7⟩
  have b67 := HB6.out.trans ((ba.trans (hb7.mono ba.size)).mono HB6.out.size)
  have H7 := Lib.hid (H4.out.keep b67)
  have HB7 := Lib.hid (HB4.out.trans (b67.mono HB4.out.size))
  clear ba hb7 b67
  have HLEN := Lib.hid (bldLen_is w7 H7.out)
  rw [hlen] at HLEN
  go_wp2_with (go_at_call 34; ((with_reducible refine (HLEN.out).mono ?_); rintro e w8 ⟨rfl, rfl⟩))
  go_ret
  exact ⟨rfl, HB7.out⟩
end Go.Proofs.YtgmphfagflhglaaGreatDoor
