/- The walk of the law BuildLoops: it returns true and writes nothing that was there. -/
import Derived.Test.YtgmphfagflhglaaGreatDoorBldG
import Derived.Test.YtgmphfagflhglaaGreatDoorBldL
import Derived.Test.YtgmphfagflhglaaGreatDoorCorH
import Derived.Deep.RegionHeld3
import Derived.Deep.Cut
namespace Go.Proofs.YtgmphfagflhglaaGreatDoor
open Go.RowKit Go.IntWalk Go.Maps

namespace buildLoops
/-- The builder, and the boxes of what the inside of the loops is handed. -/
structure LpAt (w : World) (b d bx yb : Nat) (y : Int) (W : World) (s : Bst) (F : Nat → Prop) : Prop where
  bl : BldAt w.heap.size W b d s F
  bb : BlkAt bx 22 #[.pointer (some ⟨b, 0, none⟩)] W
  yk : BlkAt yb 3 #[.int .i64 y] W
  nb : ¬ F bx
  ny : ¬ F yb
  be : Below w.heap.size w W
section
variable {w W W' : World} {b d bx yb : Nat} {y : Int} {s s' : Bst} {F F' : Nat → Prop}
theorem LpAt.next (h : LpAt w b d bx yb y W s F) (h1 : BldAt w.heap.size W' b d s' F') (g : Grows F W F' W') : LpAt w b d bx yb y W' s' F' := by
  have o : ∀ q, ¬ F q → q < W.heap.size → ¬ F' q := fun q n l e => by
    rcases g.new q e with r | r
    · exact n r
    · omega
  exact ⟨h1, h.bb.kept g.keeps h.nb, h.yk.kept g.keeps h.ny, o _ h.nb h.bb.lt, o _ h.ny h.yk.lt, g.keeps.below h.be h.be.size fun j q => (h.bl.low j q).1⟩
theorem LpAt.sh (h : LpAt w b d bx yb y W s F) (hL : ShapesLaid w) : ShapesLaid W := hL.below h.be hL.lt
set_option maxRecDepth 100000 in
set_option maxHeartbeats 2000000 in
theorem inner_is (h : LpAt w b d bx yb y W s F) (hL : ShapesLaid w) (hn : s.L.length ≤ 100) :
    Calls Tryz.prog 8 #[.pointer (some ⟨bx, 0, none⟩)] W fun e w2 => e = .returned (.tuple #[]) ∧ ∃ s2 F2, LpAt w b d bx yb y w2 s2 F2 ∧ s2 = lpIn s := by
  have e1 : insE (31, 6, 6, 0, 1) = 0 := addi_ok (by decide) (by decide) (by decide)
  have e2 : insE (1, 7, 7, 1, 0) = 0 := by decide +kernel
  have e3 : insE (1, 8, 8, 3, 0) = 0 := by decide +kernel
  have c0 := h.bb.cell 0
  have H := Lib.hid h
  have KI := Lib.hid (fun o x a c n W1 s1 F1 (k : LpAt w b d bx yb y W1 s1 F1) (k2 : s1.L.length ≤ 1000) => bldIns_is o x a c n W1 k.bl (k.sh hL) k2 k.be.size)
  have K1 := Lib.hid (KI.out 31 6 6 0 1 W s F h (by omega))
  rw [e1, ins_yes e1] at K1
  have l1 : (s.add [(31, 6, 6, 0, 1)]).L.length ≤ 101 := by show (s.L ++ [_]).length ≤ _; rw [List.length_append]; simp; omega
  have K2 := Lib.hid (fun W1 F1 (k : LpAt w b d bx yb y W1 (s.add [(31, 6, 6, 0, 1)]) F1) => KI.out 1 7 7 1 0 W1 _ F1 k (by omega))
  rw [e2, ins_yes e2] at K2
  have l2 : ((s.add [(31, 6, 6, 0, 1)]).add [(1, 7, 7, 1, 0)]).L.length ≤ 102 := by show ((s.add [(31, 6, 6, 0, 1)]).L ++ [_]).length ≤ _; rw [List.length_append]; simp; omega
  have K3 := Lib.hid (fun W1 F1 (k : LpAt w b d bx yb y W1 ((s.add [(31, 6, 6, 0, 1)]).add [(1, 7, 7, 1, 0)]) F1) => KI.out 1 8 8 3 0 W1 _ F1 k (by omega))
  rw [e3, ins_yes e3] at K3
  have hl : ((s.add [(31, 6, 6, 0, 1)]).add [(1, 7, 7, 1, 0)]).add [(1, 8, 8, 3, 0)] = lpIn s := by unfold lpIn Bst.add; simp
  rw [hl] at K3
  clear h e1 e2 e3 KI l1 l2 hl
  go_enter Tryz.func8, Tryz.ntmps8
  go_wp2_with (first
    | (go_at_call 9; ((with_reducible refine (K1.out).mono ?_); rintro e w1 ⟨F1, rfl, h1, g1⟩); have H1 := Lib.hid (H.out.next h1 g1); have c1 := H1.out.bb.cell 0; clear h1 g1)
    | (go_at_call 9; ((with_reducible refine (K2.out _ _ H1.out).mono ?_); rintro e w2 ⟨F2, rfl, h2, g2⟩); have H2 := Lib.hid (H1.out.next h2 g2); have c2 := H2.out.bb.cell 0; clear h2 g2)
    | (go_at_call 9; ((with_reducible refine (K3.out _ _ H2.out).mono ?_); rintro e w3 ⟨F3, rfl, h3, g3⟩); have H3 := Lib.hid (H2.out.next h3 g3); clear h3 g3))
  go_end0
  exact ⟨rfl, _, F3, H3.out, rfl⟩
set_option maxRecDepth 100000 in
set_option maxHeartbeats 2000000 in
theorem outer_is (h : LpAt w b d bx yb y W s F) (hL : ShapesLaid w) (hy : 1 ≤ y ∧ y ≤ 30) (hn : s.L.length ≤ 90) (hd : s.ds.length ≤ 90) (hu : s.us.length ≤ 90) (he : defE s.ds innerB = 0) :
    Calls Tryz.prog 7 #[.pointer (some ⟨bx, 0, none⟩), .pointer (some ⟨yb, 0, none⟩)] W fun e w2 => e = .returned (.tuple #[]) ∧ ∃ s2 F2, LpAt w b d bx yb y w2 s2 F2 ∧ s2 = (lpIn (s.opens 3 4 y innerB)).shuts 3 4 innerB := by
  have hk : loopOk 3 4 y := by unfold loopOk; omega
  have c0 := h.bb.cell 0
  have c1 := h.yk.cell 0
  have H := Lib.hid h
  have ho : s.opens 3 4 y innerB = (s.lab innerB (s.L.length + 2)).add [(31, 3, 0, 0, 0), (31, 4, 0, 0, y)] := by unfold Bst.opens; rw [if_pos ⟨hk, he⟩]
  have l1 : (s.opens 3 4 y innerB).L.length ≤ 92 := by rw [ho]; show (s.L ++ [_, _]).length ≤ _; rw [List.length_append]; simp; omega
  have l2 : (s.opens 3 4 y innerB).ds.length ≤ 91 := by rw [ho]; show (defS s.ds innerB _).length ≤ _; have := defS_len s.ds innerB (s.L.length + 2); omega
  have l3 : (s.opens 3 4 y innerB).us.length ≤ 90 := by rw [ho]; exact hu
  have hf8 : ∀ v, Sem.run Tryz.prog (callFunc 8 #[.pointer (some ⟨bx, 0, none⟩)]) v = .ok (.enter 8 #[.pointer (some ⟨bx, 0, none⟩)]) v := fun v => by kernel_rfl
  have hmf : ∀ (fn : Fn) (first cap : Array Value) (w : World), (Instr.makeFunc fn first cap).run Tryz.prog w = .ok (.func fn first cap) w := fun _ _ _ _ => rfl
  have KL := Lib.hid (bldLoop_yes (f := 8) (cap := #[.pointer (some ⟨bx, 0, none⟩)]) (R := fun w2 s2 F2 => LpAt w b d bx yb y w2 s2 F2 ∧ s2 = lpIn (s.opens 3 4 y innerB)) 3 4 y innerB W h.bl (by unfold maxLen; decide) (by omega) (by omega) (by omega) h.be.size hL.lt hk he hf8
    (fun w1 F1 hb1 g1 => inner_is (h.next hb1 g1) hL (by omega))
    (fun w2 s2 F2 hr => by
      obtain ⟨hr, rfl⟩ := hr
      exact ⟨hr.bl, hr.sh hL, hr.be.size, by unfold lpIn; show ((s.opens 3 4 y innerB).L ++ [_, _, _]).length ≤ _; rw [List.length_append]; simp; omega, (show (s.opens 3 4 y innerB).ds.length ≤ 900 by omega), (show (s.opens 3 4 y innerB).us.length ≤ 900 by omega)⟩))
  unfold innerB at KL
  clear h hf8 ho l1 l2 l3 hk
  go_enter Tryz.func7, Tryz.ntmps7
  go_wp2_with (go_at_call 6; ((with_reducible refine (KL.out).mono ?_); rintro e w3 ⟨w2, s2, F2, F3, rfl, ⟨hr, rfl⟩, h3, g3⟩); have H3 := Lib.hid (hr.next h3 g3); clear h3 g3 hr)
  go_end0
  exact ⟨rfl, _, F3, H3.out, rfl⟩
end
/-- What the last region's loads find. -/
abbrev SeesY (q : Nat) (y : Int) (w W : World) : Prop := W.cell? ⟨q, 0, none⟩ = some (.int .i64 y) ∧ Below w.heap.size w W
theorem sees_on {q : Nat} {y : Int} {w W W' : World} (h : SeesY q y w W) (k : Below W.heap.size W W') : SeesY q y w W' := ⟨(k.cell (p := ⟨q, 0, none⟩) (cell_lt h.1)).trans h.1, h.2.trans (k.mono h.2.size)⟩
theorem fit5 (k x y : Int) : Fit (lpS5 k x y) := ((((((Fit.nil.setR 5 k).opens 1 2 x outerB).opens 3 4 y innerB).add _).shuts 3 4 innerB).shuts 1 2 outerB).ins _
set_option maxRecDepth 100000 in
set_option maxHeartbeats 4000000 in
theorem within (a m k : Int) (X Y : Nat) (w : World) (ht : TabsAt w.heap.size w) (hE : ErrLaid w) (hX : 1 + a % 30 = (X : Int)) (hY : 1 + m % 30 = (Y : Int)) (a0 : 0 ≤ a) (a1 : a ≤ 255) (m0 : 0 ≤ m) (m1 : m ≤ 255) (k0 : -2147483648 ≤ k) (k1 : k ≤ 2147483647) :
    Calls Tryz.prog 3 #[.int .u8 a, .int .u8 m, .int .i32 k] w fun e w' => e = .returned (.bool true) ∧ Below w.heap.size w w' := by
  have hx : 1 ≤ X ∧ X ≤ 30 := by omega
  have hy : 1 ≤ Y ∧ Y ≤ 30 := by omega
  have HT := Lib.hid ht
  have HS := Lib.hid ht.shapes
  have HE := Lib.hid hE
  have HSZ := Lib.hid (lp_sizes (k := k) (x := (X : Int)) (y := (Y : Int)) (by omega) (by omega))
  have HFN := Lib.hid (lp_fin k hx hy)
  have HXY := Lib.hid (And.intro hx hy)
  have HK := Lib.hid (And.intro k0 k1)
  clear ht hE hx hy
  go_enter Tryz.func3, Tryz.ntmps3
  go_upto_region 5 with (go_at_call 4; ((with_reducible refine (bldNew_is w.heap.size _ (Nat.le_refl _)).mono ?_); rintro e w1 ⟨b, d, F, rfl, h1, hF1, hb1⟩); have H1 := Lib.hid h1; have HB1 := Lib.hid hb1; have HF1 := Lib.hid hF1; clear h1 hb1 hF1)
  have hs1 := HB1.out.size
  have p1 := (Below.refl w1.heap.size w1).alloc (Nat.le_refl _) (.cells #[.pointer (some ⟨b, 0, none⟩)] 22)
  have p2 := (Below.refl (w1.alloc (.cells #[.pointer (some ⟨b, 0, none⟩)] 22)).heap.size (w1.alloc (.cells #[.pointer (some ⟨b, 0, none⟩)] 22))).alloc (Nat.le_refl _) (.cells #[.int .i64 (Y : Int)] 3)
  have e1 : (w1.alloc (.cells #[.pointer (some ⟨b, 0, none⟩)] 22)).heap.size = w1.heap.size + 1 := by simp
  have L0 := Lib.hid (show LpAt w b d w1.heap.size (w1.heap.size + 1) (Y : Int) ((w1.alloc (.cells #[.pointer (some ⟨b, 0, none⟩)] 22)).alloc (.cells #[.int .i64 (Y : Int)] 3)) ⟨[], [], []⟩ F from
    ⟨(H1.out.keep p1).keep p2, (BlkAt.new w1 _ _).keep p2, BlkAt.newb _ _ _ e1, fun q => by have := (H1.out.low _ q).2; omega, fun q => by have := (H1.out.low _ q).2; omega, HB1.out.trans ((p1.trans (p2.mono p1.size)).mono hs1)⟩)
  obtain ⟨W0, hW0⟩ : ∃ V, (w1.alloc (.cells #[.pointer (some ⟨b, 0, none⟩)] 22)).alloc (.cells #[.int .i64 (Y : Int)] 3) = V := ⟨_, rfl⟩
  obtain ⟨q, hq⟩ : ∃ z, w1.heap.size = z := ⟨_, rfl⟩
  rw [hW0, hq] at L0
  simp only [hW0, hq]
  clear p1 p2 e1 hW0 hq H1 HB1 HF1 hs1
  have hkx : loopOk 1 2 (X : Int) := by unfold loopOk; have := HXY.out; omega
  have KSET := Lib.hid (show Calls Tryz.prog 5 #[.pointer (some ⟨b, 0, none⟩), .int .i64 5, .int .i32 k] W0 (BldTo w.heap.size b d 0 (lpS0 k) F W0) from bldSet_is 5 k W0 L0.out.bl (L0.out.sh HS.out) HS.out.lt (by decide) L0.out.be.size HK.out.1 HK.out.2)
  have hf7 : ∀ v, Sem.run Tryz.prog (callFunc 7 #[.pointer (some ⟨q, 0, none⟩), .pointer (some ⟨q + 1, 0, none⟩)]) v = .ok (.enter 7 #[.pointer (some ⟨q, 0, none⟩), .pointer (some ⟨q + 1, 0, none⟩)]) v := fun v => by kernel_rfl
  have hmf : ∀ (fn : Fn) (first cap : Array Value) (w : World), (Instr.makeFunc fn first cap).run Tryz.prog w = .ok (.func fn first cap) w := fun _ _ _ _ => rfl
  have KLP := Lib.hid (fun W1 F1 (h : LpAt w b d q (q + 1) (Y : Int) W1 (lpS0 k) F1) => bldLoop_yes (f := 7) (cap := #[.pointer (some ⟨q, 0, none⟩), .pointer (some ⟨q + 1, 0, none⟩)]) (R := fun w2 s2 F2 => LpAt w b d q (q + 1) (Y : Int) w2 s2 F2 ∧ s2 = lpS3 k X Y) 1 2 (X : Int) outerB W1 h.bl (by unfold maxLen; decide) (by have := HSZ.out.1; omega) (by have := HSZ.out.2.1; omega) (by have := HSZ.out.2.2.1; omega) h.be.size HS.out.lt hkx HSZ.out.2.2.2.2.2.2.1 hf7
    (fun w2 F2 hb2 g2 => outer_is (h.next hb2 g2) HS.out (by have := HXY.out; omega) (show (lpS1 k X).L.length ≤ 90 by have := HSZ.out.2.2.2.1; omega) (show (lpS1 k X).ds.length ≤ 90 by have := HSZ.out.2.2.2.2.1; omega) (show (lpS1 k X).us.length ≤ 90 by have := HSZ.out.2.2.2.2.2.1; omega) HSZ.out.2.2.2.2.2.2.2.1)
    (fun w2 s2 F2 hr => by
      obtain ⟨hr, rfl⟩ := hr
      have z := HSZ.out.2.2.2.2.2.2.2.2
      exact ⟨hr.bl, hr.sh HS.out, hr.be.size, by omega, by omega, by omega⟩))
  have KIN := Lib.hid (fun W1 F1 (h : LpAt w b d q (q + 1) (Y : Int) W1 (lpS4 k X Y) F1) => show Calls Tryz.prog 9 #[.pointer (some ⟨b, 0, none⟩), .agg #[.int .i64 43, .int .i64 0, .int .i64 0, .int .i64 0, .int .i64 0]] W1 (BldTo w.heap.size b d (insE (43, 0, 0, 0, 0)) (lpS5 k X Y) F1 W1) from bldIns_is 43 0 0 0 0 W1 h.bl (h.sh HS.out) (by have := HSZ.out.2.2.2.2.2.2.2.2.2.2.2.1; omega) h.be.size)
  have KFI := Lib.hid (fun W1 F1 (h : LpAt w b d q (q + 1) (Y : Int) W1 (lpS5 k X Y) F1) => bldFinish_is W1 h.bl (h.sh HS.out) (HE.out.keep h.be) (by have := HSZ.out.2.2.2.2.2.2.2.2.2.2.2.2.1; omega) (by have := HSZ.out.2.2.2.2.2.2.2.2.2.2.2.2.2; omega) (fit5 k X Y))
  unfold RetFin at KFI
  rw [HFN.out.1, HFN.out.2.1, HFN.out.2.2] at KFI
  unfold outerB at KLP
  have c0 := L0.out.bb.cell 0
  clear hf7 hkx
  go_upto_region 9 with (first
    | (go_at_call 5; ((with_reducible refine (KSET.out).mono ?_); rintro e w2 ⟨F2, rfl, h2, g2⟩); have L2 := Lib.hid (L0.out.next h2 g2); have c2 := L2.out.bb.cell 0; clear h2 g2)
    | (go_at_call 6; ((with_reducible refine (KLP.out _ _ L2.out).mono ?_); rintro e w4 ⟨w3, s3, F3, F4, rfl, ⟨hr, rfl⟩, h4, g4⟩); have L4 := Lib.hid (show LpAt w b d q (q + 1) (Y : Int) w4 (lpS4 k X Y) F4 from hr.next h4 g4); have c4 := L4.out.bb.cell 0; clear h4 g4 hr)
    | (go_at_call 9; ((with_reducible refine (KIN.out _ _ L4.out).mono ?_); rintro e w5 ⟨F5, rfl, h5, g5⟩); have L5 := Lib.hid (L4.out.next h5 g5); have c5 := L5.out.bb.cell 0; clear h5 g5)
    | (go_at_call 10; ((with_reducible refine (KFI.out _ _ L5.out).mono ?_); rintro e w6 ⟨v6, rfl, ho6, hb6⟩); have HO6 := Lib.hid ho6; have HB6 := Lib.hid hb6; clear ho6 hb6))
  have hlen : (loopsL k X Y).length ≤ 14 := by unfold loopsL; rw [List.length_append]; have := (set_len k).2; show _ + 12 ≤ 14; omega
  obtain ⟨N, hN⟩ : ∃ z, (loopsL k X Y).length = z := ⟨_, rfl⟩
  have hwb := finW_bd (lpS5 k X Y)
  rw [HFN.out.2.2] at hwb
  obtain ⟨a6, c6, rfl, q6⟩ := HO6.out.wsn hN
  have B6 := Lib.hid (L5.out.be.trans (HB6.out.mono L5.out.be.size))
  have hTab : TabsAt w6.heap.size w6 := ⟨HS.out.below B6.out HS.out.lt, HT.out.costs.below B6.out, Nat.lt_of_lt_of_le HT.out.gs B6.out.size, Nat.lt_of_lt_of_le HT.out.gc B6.out.size⟩
  have KN := Lib.hid (corNew_is a6 N c6 (loopsL k X Y) none 0 0 [] w6 q6 (Ws.emp _) (by omega) (by omega) hTab hwb)
  have HG := Lib.hid (show Good (loopsL k X Y).length 0 (beginS []) from good_begin (ram := []) fun j => by show w32 (byAt [] j); unfold byAt w32; simp)
  have Y6 := Lib.hid (L5.out.yk.keep HB6.out)
  have hLR := loops_run (k := k) (x := X) (y := Y) HK.out.1 HK.out.2 HXY.out.1.2 HXY.out.1.1 HXY.out.2.2 HXY.out.2.1 []
  obtain ⟨code, hcd⟩ : ∃ z, loopsL k X Y = z := ⟨_, rfl⟩
  rw [hcd] at KN HG hLR hlen hN
  have HLR := Lib.hid hLR
  have HLN := Lib.hid hlen
  have hq6 : q + 1 < w6.heap.size := Y6.out.lt
  clear hwb hTab hLR hcd hlen c0 c2 c4 c5 KSET KLP KIN KFI
  go_upto_region 13 with (first
    | (go_at_call 11; ((with_reducible refine (KN.out).mono ?_); rintro e w7 ⟨b7, F7, rfl, hc7, hk7⟩); have HC7 := Lib.hid hc7; have HB7 := Lib.hid hk7; have KR := Lib.hid (corRun_is 10000 10000 hc7 HG.out (by have := HLN.out; omega) (by decide) (.inr ⟨by decide, by decide, rfl⟩) (by decide) (by show 0 + 10000 < _; decide)); clear hc7 hk7)
    | (go_at_call 12; ((with_reducible refine (KR.out).mono ?_); rintro e w8 ⟨rfl, F8, hc8, g8⟩); have HC8 := Lib.hid hc8; have G8 := Lib.hid g8; clear hc8 g8))
  have B7 := Lib.hid (B6.out.trans (HB7.out.mono B6.out.size))
  have hlo : ∀ j, F7 j → w6.heap.size ≤ j := fun j f => (HC7.out.fF j f).1
  have B8 := Lib.hid (G8.out.keeps.below B7.out B7.out.size fun j f => Nat.le_trans B6.out.size (hlo j f))
  have Y8 := Lib.hid ((Y6.out.keep HB7.out).kept G8.out.keeps fun f => by have := hlo _ f; omega)
  obtain ⟨s, hs⟩ : ∃ z, runT code 10000 (beginS []) = z := ⟨_, rfl⟩
  have HQ := HLR.out
  rw [hs] at HC8 HQ
  obtain ⟨z0, z5, z6, z7, z8⟩ := HQ
  have K0 := Lib.hid (fun W' (h : Below w8.heap.size w8 W') => corState_is (HC8.out.keep h))
  rw [z0] at K0
  have KG := Lib.hid (fun W' (h : Below w8.heap.size w8 W') (i v : Int) (hv : regV s i = v) => corReg_is (HC8.out.keep h) hv)
  have S0 : (w8.drew.cell? ⟨q + 1, 0, none⟩ = some (.int .i64 (Y : Int))) ∧ Below w8.heap.size w8 w8.drew := ⟨Y8.out.cell 0, (Below.refl _ _).drew⟩
  have b1 : 0 ≤ (X : Int) * Y := Int.mul_nonneg (by omega) (by omega)
  have b2 : (X : Int) * Y ≤ 30 * 30 := Int.mul_le_mul (by have := HXY.out; omega) (by have := HXY.out; omega) (by omega) (by decide)
  have b3 : (Y : Int) * X = X * Y := Int.mul_comm _ _
  rw [b3] at z7
  obtain ⟨p, hp⟩ : ∃ p, (X : Int) * Y = p := ⟨_, rfl⟩
  rw [hp] at b1 b2 b3 z6 z7 z8
  have b4 : 0 ≤ p * ((X : Int) - 1) := Int.mul_nonneg (by omega) (by have := HXY.out; omega)
  have b5 : p * ((X : Int) - 1) ≤ 900 * 30 := Int.mul_le_mul (by omega) (by have := HXY.out; omega) (by have := HXY.out; omega) (by decide)
  have b6 : 0 ≤ p * ((Y : Int) - 1) := Int.mul_nonneg (by omega) (by have := HXY.out; omega)
  have b7 : p * ((Y : Int) - 1) ≤ 900 * 30 := Int.mul_le_mul (by omega) (by have := HXY.out; omega) (by have := HXY.out; omega) (by decide)
  obtain ⟨x1, hx1⟩ : ∃ v, (X : Int) - 1 = v := ⟨_, rfl⟩
  obtain ⟨y1, hy1⟩ : ∃ v, (Y : Int) - 1 = v := ⟨_, rfl⟩
  rw [hx1] at b4 b5 z7
  rw [hy1] at b6 b7 z8
  obtain ⟨u, hu⟩ : ∃ v, p * x1 = v := ⟨_, rfl⟩
  obtain ⟨v, hv⟩ : ∃ v, p * y1 = v := ⟨_, rfl⟩
  rw [hu] at b4 b5 z7
  rw [hv] at b6 b7 z8
  obtain ⟨r, hr⟩ : ∃ r, u / 2 = r := ⟨_, rfl⟩
  obtain ⟨t, ht⟩ : ∃ r, v / 2 = r := ⟨_, rfl⟩
  rw [hr] at z7
  rw [ht] at z8
  have K5 := Lib.hid (fun W' (h : Below w8.heap.size w8 W') => KG.out W' h 5 k (by unfold regV; rw [if_pos (by decide)]; exact z5))
  have K6 := Lib.hid (fun W' (h : Below w8.heap.size w8 W') => KG.out W' h 6 p (by unfold regV; rw [if_pos (by decide)]; exact z6))
  have K7 := Lib.hid (fun W' (h : Below w8.heap.size w8 W') => KG.out W' h 7 r (by unfold regV; rw [if_pos (by decide)]; exact z7))
  have K8 := Lib.hid (fun W' (h : Below w8.heap.size w8 W') => KG.out W' h 8 t (by unfold regV; rw [if_pos (by decide)]; exact z8))
  have K9 := Lib.hid (fun W' (h : Below w8.heap.size w8 W') => bldAwake_is W' (HS.out.below (B8.out.trans (h.mono B8.out.size)) HS.out.lt) (HE.out.keep (B8.out.trans (h.mono B8.out.size))))
  have i1 : IntKind.i64.wrap ((X : Int) * Y) = p := by rw [hp, IntKind.wrap_i64]; omega
  have i2 : IntKind.i64.wrap ((Y : Int) * X) = p := by rw [b3, IntKind.wrap_i64]; omega
  have i3 : IntKind.i64.wrap ((X : Int) - 1) = x1 := by rw [hx1, IntKind.wrap_i64]; have := HXY.out; omega
  have i4 : IntKind.i64.wrap ((Y : Int) - 1) = y1 := by rw [hy1, IntKind.wrap_i64]; have := HXY.out; omega
  have i5 : IntKind.i64.wrap (p * x1) = u := by rw [hu, IntKind.wrap_i64]; omega
  have i6 : IntKind.i64.wrap (p * y1) = v := by rw [hv, IntKind.wrap_i64]; omega
  have j1 : u.tdiv 2 = r := by rw [Int.tdiv_eq_ediv_of_nonneg b4]; exact hr
  have j2 : v.tdiv 2 = t := by rw [Int.tdiv_eq_ediv_of_nonneg b6]; exact ht
  have k2 : IntKind.i64.wrap p = p := by rw [IntKind.wrap_i64]; omega
  have k3 : IntKind.i64.wrap r = r := by rw [IntKind.wrap_i64]; omega
  have k4 : IntKind.i64.wrap t = t := by rw [IntKind.wrap_i64]; omega
  have q1 : (k == k) = true := by simp
  have q2 : (p == p) = true := by simp
  have q3 : (r == r) = true := by simp
  have q4 : (t == t) = true := by simp
  clear z0 z5 z6 z7 z8 hp hx1 hy1 hu hv hr ht hs b1 b2 b3 b4 b5 b6 b7 hX hY hq6 hN hlo KG KN KR
  go_region_held (fun W' => W'.cell? ⟨q + 1, 0, none⟩ = some (.int .i64 (Y : Int)) ∧ Below w8.heap.size w8 W')
    (first | with_reducible assumption)
    (first
      | (go_at_call 13; ((with_reducible refine (K0.out _ (show _ ∧ _ by assumption).2).mono ?_); rintro e w9 ⟨rfl, rfl⟩))
      | (go_at_call 14; ((with_reducible refine (K5.out _ (show _ ∧ _ by assumption).2).mono ?_); rintro e w9 ⟨rfl, rfl⟩))
      | (go_at_call 14; ((with_reducible refine (K6.out _ (show _ ∧ _ by assumption).2).mono ?_); rintro e w9 ⟨rfl, rfl⟩))
      | (go_at_call 14; ((with_reducible refine (K7.out _ (show _ ∧ _ by assumption).2).mono ?_); rintro e w9 ⟨rfl, rfl⟩))
      | (go_at_call 14; ((with_reducible refine (K8.out _ (show _ ∧ _ by assumption).2).mono ?_); rintro e w9 ⟨rfl, rfl⟩))
      | (go_at_call 15; ((with_reducible refine (K9.out _ (show _ ∧ _ by assumption).2).mono ?_); rintro e w9 ⟨rfl, hb9⟩); have hS := sees_on (show SeesY (q + 1) (Y : Int) w8 _ by assumption) hb9; clear hb9))
  go_wp2
  go_ret
  exact ⟨rfl, B8.out.trans (hS.2.mono B8.out.size)⟩
theorem walk (a m k : Int) (w0 : (Lit.int .u8 a).wf = true) (w1 : (Lit.int .u8 m).wf = true) (w2 : (Lit.int .i32 k).wf = true) (w : World) (ht : TabsAt w.heap.size w ∧ ErrLaid w) :
    Calls Tryz.prog 3 #[.int .u8 a, .int .u8 m, .int .i32 k] w fun e w' => e = .returned (.bool true) ∧ Below w.heap.size w w' := by
  obtain ⟨b5, b6⟩ := bounds_i32 w2
  have b1 : 0 ≤ a ∧ a ≤ 255 := by simpa [Lit.wf, IntKind.min, IntKind.max, IntKind.bits, IntKind.signed] using w0
  have b3 : 0 ≤ m ∧ m ≤ 255 := by simpa [Lit.wf, IntKind.min, IntKind.max, IntKind.bits, IntKind.signed] using w1
  exact within a m k (1 + a % 30).toNat (1 + m % 30).toNat w ht.1 ht.2 (by omega) (by omega) b1.1 b1.2 b3.1 b3.2 b5 b6
end buildLoops
end Go.Proofs.YtgmphfagflhglaaGreatDoor
