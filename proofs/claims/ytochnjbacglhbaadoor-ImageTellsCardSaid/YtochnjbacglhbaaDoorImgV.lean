/- The laws of images: Same of equal ones, what all laws ask last. -/
import Derived.Test.YtochnjbacglhbaaDoorImgU
namespace Go.Proofs.YtochnjbacglhbaaDoor
open Go.RowKit Go.IntWalk

section
variable {w : World} {a0 a1 a2 a3 a4 b0 b1 b2 b3 b4 : Option Addr} {n0 n1 n2 n3 n4 c0 c1 c2 c3 c4 k0 k1 k2 k3 k4 e0 e1 e2 e3 e4 : Nat} {m : Img}
theorem refSame22_any (h : ImgAt w a0 n0 c0 a1 n1 c1 a2 n2 c2 a3 n3 c3 a4 n4 c4 m) (g : ImgAt w b0 k0 e0 b1 k1 e1 b2 k2 e2 b3 k3 e3 b4 k4 e4 m) :
    Calls Tryd.prog 12 #[.agg #[.slice a0 n0 c0, .slice a1 n1 c1, .slice a2 n2 c2, .slice a3 n3 c3, .slice a4 n4 c4], .agg #[.slice b0 k0 e0, .slice b1 k1 e1, .slice b2 k2 e2, .slice b3 k3 e3, .slice b4 k4 e4]] w fun e w' => e = .returned (.bool true) ∧ Below w.heap.size w w' := by
  obtain rfl : n0 = k0 := h.code.len.symm.trans g.code.len
  obtain rfl : n1 = k1 := h.data.len.symm.trans g.data.len
  obtain rfl : n2 = k2 := h.sec.len.symm.trans g.sec.len
  obtain rfl : n3 = k3 := h.inn.len.symm.trans g.inn.len
  obtain rfl : n4 = k4 := h.out.len.symm.trans g.out.len
  exact refSame22_is h g
end
theorem fits_0 : Fits img0 := ⟨by decide, fun _ h => (nomatch h), by decide, fun _ h => (nomatch h), rfl, by decide, fun _ h => (nomatch h), by decide, fun _ h => (nomatch h)⟩
theorem chk_0 : chkI img0 = 0 := by decide
theorem words_0 : WordsI img0 := ⟨fun _ h => (nomatch h), fun _ h => (nomatch h)⟩
theorem get_0 : getI (sealOf (rawI img0)) = (0, img0) := by
  have := get_put chk_0 words_0
  unfold putI at this
  rw [if_pos chk_0] at this
  exact this
theorem chk_1 : chkI ⟨[], [1], [], [], []⟩ = 2 := by decide
theorem len_0 : (sealOf (rawI img0)).length = 12 := by rw [sealOf_len]; rfl
theorem imgGet_val {w : World} {a : Option Addr} {n c : Nat} {l : List Int} {x : Int} {m : Img} (hB : By w a n c l) (hL : FoursLaid w) (hn : n ≤ 140737488355000) (hg : getI l = (x, m)) : Calls Tryd.prog 10 #[.slice a n c] w (GetTo w x m) := by
  have := imgGet_is hB hL hn
  rw [hg] at this
  exact this
set_option maxRecDepth 100000 in
set_option maxHeartbeats 2000000 in
theorem imgAwake_is (w : World) (hL : FoursLaid w) : Calls Tryd.prog 7 #[] w fun e w' => e = .returned (.bool true) ∧ Below w.heap.size w w' := by
  have HL := Lib.hid hL
  clear hL
  go_enter Tryd.func7, Tryd.ntmps7
  go_wp2_with (first
    | (go_at_call 8; ((with_reducible refine (imgPut_ok (ImgAt.none w) HL.out chk_0 fits_0).mono ?_); rintro e w1 ⟨v1, rfl, ho, hb⟩); obtain ⟨a1, n1, c1, rfl, hn1, hB1⟩ := ho.byn (sealOf_bd (raw_bd _)); obtain rfl : n1 = 12 := hn1.symm.trans len_0; have B1 := Lib.hid hb; have Y1 := Lib.hid hB1; have L1 := Lib.hid (HL.out.below hb HL.out.lt); clear ho hb hB1 hn1)
    | (go_at_call 10; ((with_reducible refine (imgGet_val Y1.out L1.out (by decide) get_0).mono ?_); rintro e w2 ⟨a0, n0, c0, a1, n1, c1, a2, n2, c2, a3, n3, c3, a4, n4, c4, rfl, im, hb2⟩); have I2 := Lib.hid im; have B2 := Lib.hid (B1.out.trans (hb2.mono B1.out.size)); clear im hb2)
    | (go_at_call 12; ((with_reducible refine (refSame22_any (I2.out.keep ((Below.refl w2.heap.size w2).alloc (Nat.le_refl _) _)) (ImgAt.none _)).mono ?_); rintro e w3 ⟨rfl, hb3⟩); have B3 := Lib.hid ((B2.out.alloc B2.out.size _).trans (hb3.mono (by have := B2.out.size; simp; omega))); clear hb3)
    | (go_at_call 13; ((with_reducible refine (imgCheck_is (m := ⟨[], [1], [], [], []⟩) ⟨Ws.emp _, Ws.one .i32 w3 21 1, ElAt.emp _ _, Ws.emp _, Ws.emp _⟩).mono ?_); rw [chk_1]; rintro e w4 ⟨rfl, hb4⟩); have B4 := Lib.hid ((B3.out.alloc B3.out.size (.cells #[.int .i32 1] 21)).trans (hb4.mono (by have := B3.out.size; simp; omega))); clear hb4))
  go_ret
  exact ⟨rfl, B4.out⟩
end Go.Proofs.YtochnjbacglhbaaDoor
