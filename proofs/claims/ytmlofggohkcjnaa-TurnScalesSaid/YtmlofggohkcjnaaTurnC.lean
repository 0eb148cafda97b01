/- A turn of layer 9 upon package mill's mill of words: what the closure that is done again and again answers. Conditions: the numbers are of the kinds of the parameters. -/
import Derived.Test.YtmlofggohkcjnaaMillT
import Derived.Test.YtmlofggohkcjnaaTabR
import Derived.Test.YtmlofggohkcjnaaNum
namespace Go.Proofs.Ytmlofggohkcjnaa
open Go.RowKit

/-- What a turn's closure has caught lies there: the mill, which number is led, what is done ahead and back, and the table. -/
structure Caught (w : World) (gT gL gA gB gS g c : Nat) (led : Nat) (ahead back : Int) : Prop where
  hT : w.cell? ⟨gT, 0, none⟩ = some (.iface 39 (.agg #[]))
  hL : w.cell? ⟨gL, 0, none⟩ = some (.int .i64 led)
  hA : w.cell? ⟨gA, 0, none⟩ = some (.int .i64 ahead)
  hB : w.cell? ⟨gB, 0, none⟩ = some (.int .i64 back)
  hS : w.cell? ⟨gS, 0, none⟩ = some (.slice (some ⟨g, 0, none⟩) 28 c)
  hG : ∀ i : Nat, i < 28 → w.cell? ⟨g, i, none⟩ = some (.int .i32 (tab i))
  bT : gT < w.heap.size
  bL : gL < w.heap.size
  bA : gA < w.heap.size
  bB : gB < w.heap.size
  bS : gS < w.heap.size
  bG : g < w.heap.size
theorem Caught.keep {w w' : World} {gT gL gA gB gS g c : Nat} {led : Nat} {ahead back : Int} (h : Caught w gT gL gA gB gS g c led ahead back) (hb : Below w.heap.size w w') : Caught w' gT gL gA gB gS g c led ahead back :=
  ⟨(hb.cell (p := ⟨gT, 0, none⟩) h.bT).trans h.hT, (hb.cell (p := ⟨gL, 0, none⟩) h.bL).trans h.hL, (hb.cell (p := ⟨gA, 0, none⟩) h.bA).trans h.hA, (hb.cell (p := ⟨gB, 0, none⟩) h.bB).trans h.hB, (hb.cell (p := ⟨gS, 0, none⟩) h.bS).trans h.hS,
    fun i hi => (hb.cell (p := ⟨g, i, none⟩) h.bG).trans (h.hG i hi), Nat.lt_of_lt_of_le h.bT hb.size, Nat.lt_of_lt_of_le h.bL hb.size, Nat.lt_of_lt_of_le h.bA hb.size, Nat.lt_of_lt_of_le h.bB hb.size, Nat.lt_of_lt_of_le h.bS hb.size, Nat.lt_of_lt_of_le h.bG hb.size⟩

/-- A call in a region that reads cells which lay there since w0; and what the call itself left alone. -/
theorem keepG {P : Program} {f : FuncId} {args : Array Value} {w w0 : World} {B : Nat} {v : Value} {F : World → Prop} (hF : ∀ w', Below B w0 w' → F w')
    (hc : Calls P f args w fun e w' => e = .returned v ∧ Below w.heap.size w w') (hS : F w ∧ Below B w0 w ∧ B ≤ w.heap.size) :
    Calls P f args w fun e w' => e = .returned v ∧ (F w' ∧ Below B w0 w' ∧ B ≤ w'.heap.size) ∧ Below w.heap.size w w' :=
  hc.mono fun _ _ ⟨he, h⟩ => ⟨he, ⟨hF _ (hS.2.1.trans (h.mono hS.2.2)), hS.2.1.trans (h.mono hS.2.2), Nat.le_trans hS.2.2 h.size⟩, h⟩
theorem part_u {W w : World} (hb : Below W.heap.size W w) (gT gX gI gD o : Nat) (oi x i d v : Int) (hoi : (o : Int) = oi) (ho : o < 3) (hT : W.cell? ⟨gT, 0, none⟩ = some (.iface 39 (.agg #[]))) (hX : W.cell? ⟨gX, o, none⟩ = some (.int .i32 x))
    (hI : W.cell? ⟨gI, 0, none⟩ = some (.int .i32 i)) (hD : W.cell? ⟨gD, 0, none⟩ = some (.int .i32 d)) (bT : gT < W.heap.size) (bX : gX < W.heap.size) (bI : gI < W.heap.size) (bD : gD < W.heap.size)
    (x1 : -2147483648 ≤ x) (x2 : x ≤ 2147483647) (i1 : -2147483648 ≤ i) (i2 : i ≤ 2147483647) (d1 : -2147483648 ≤ d) (d2 : d ≤ 2147483647) (hv : wFlip (wSar x i) d = v) :
    Calls Try.prog 26 #[.int .i64 oi, .pointer (some ⟨gT, 0, none⟩), .pointer (some ⟨gX, 0, none⟩), .pointer (some ⟨gI, 0, none⟩), .pointer (some ⟨gD, 0, none⟩)] w fun e w' => e = .returned (.int .i32 v) ∧ Below w.heap.size w w' := by
  subst hoi
  exact part_v gT gX gI gD o x i d v w ho ((hb.cell (p := ⟨gT, 0, none⟩) bT).trans hT) ((hb.cell (p := ⟨gX, o, none⟩) bX).trans hX) ((hb.cell (p := ⟨gI, 0, none⟩) bI).trans hI) ((hb.cell (p := ⟨gD, 0, none⟩) bD).trans hD)
    (Nat.lt_of_lt_of_le bT hb.size) (Nat.lt_of_lt_of_le bX hb.size) (Nat.lt_of_lt_of_le bI hb.size) (Nat.lt_of_lt_of_le bD hb.size) x1 x2 i1 i2 d1 d2 hv
theorem item_u {W w : World} (hb : Below W.heap.size W w) (g k c : Nat) (v : Int) (hk : k < 28) (h : W.cell? ⟨g, k, none⟩ = some (.int .i32 v)) (hg : g < W.heap.size) :
    Calls Try.prog 43 #[.agg #[], .slice (some ⟨g, 0, none⟩) 28 c, .int .i32 k] w fun e w' => e = .returned (.int .i32 v) ∧ Below w.heap.size w w' :=
  words_item g k c v w hk ((hb.cell (p := ⟨g, k, none⟩) hg).trans h) (Nat.lt_of_lt_of_le hg hb.size)
/-- A cell of a block that lay there ahead of a call. -/
theorem new_at {W w' : World} {g : Nat} {v : Value} (hq : Below W.heap.size W w') (hg : g < W.heap.size) (hc : W.cell? ⟨g, 0, none⟩ = some v) (hf : W.frozen? ⟨g, 0, none⟩ = false) :
    w'.cell? ⟨g, 0, none⟩ = some v ∧ w'.frozen? ⟨g, 0, none⟩ = false ∧ g < w'.heap.size :=
  ⟨(hq.cell (p := ⟨g, 0, none⟩) hg).trans hc, (hq.frozen (p := ⟨g, 0, none⟩) hg).trans hf, Nat.lt_of_lt_of_le hg hq.size⟩
/-- A cell that was made ahead of a call. -/
theorem new_al {W w' : World} {v : Value} {t : TypeId} (hq : Below (W.alloc (.cells #[v] t)).drew.heap.size (W.alloc (.cells #[v] t)).drew w') :
    w'.cell? ⟨W.heap.size, 0, none⟩ = some v ∧ w'.frozen? ⟨W.heap.size, 0, none⟩ = false ∧ W.heap.size < w'.heap.size :=
  new_at hq (by simp) (by go_cell) (by go_cell)
/-- Three cells of one block are stored: what lies in the others. -/
theorem set3_other (w : World) (B b o : Nat) (u0 u1 u2 : Value) (h : b ≠ B) : (((w.setCell ⟨B, 0, none⟩ u0).setCell ⟨B, 1, none⟩ u1).setCell ⟨B, 2, none⟩ u2).cell? ⟨b, o, none⟩ = w.cell? ⟨b, o, none⟩ :=
  World.cell?_of_block (by rw [Below.heap_setCell _ _ _ _ (by exact h), Below.heap_setCell _ _ _ _ (by exact h), Below.heap_setCell _ _ _ _ (by exact h)])
theorem set3_below {B B' : Nat} {w w' : World} (h : Below B w w') (hB : B ≤ B') (u0 u1 u2 : Value) : Below B w (((w'.setCell ⟨B', 0, none⟩ u0).setCell ⟨B', 1, none⟩ u1).setCell ⟨B', 2, none⟩ u2) :=
  ((h.setCell (p := ⟨B', 0, none⟩) hB _).setCell (p := ⟨B', 1, none⟩) hB _).setCell (p := ⟨B', 2, none⟩) hB _
theorem addr_ne {b i j : Nat} (h : i ≠ j) : (⟨b, i, none⟩ : Addr) ≠ ⟨b, j, none⟩ := fun e => h (Addr.mk.inj e).2.1
theorem set3_same (w : World) (B : Nat) (u0 u1 u2 v0 v1 v2 : Value) (h0 : w.cell? ⟨B, 0, none⟩ = some v0) (h1 : w.cell? ⟨B, 1, none⟩ = some v1) (h2 : w.cell? ⟨B, 2, none⟩ = some v2) :
    (((w.setCell ⟨B, 0, none⟩ u0).setCell ⟨B, 1, none⟩ u1).setCell ⟨B, 2, none⟩ u2).cell? ⟨B, 0, none⟩ = some u0 ∧ (((w.setCell ⟨B, 0, none⟩ u0).setCell ⟨B, 1, none⟩ u1).setCell ⟨B, 2, none⟩ u2).cell? ⟨B, 1, none⟩ = some u1
      ∧ (((w.setCell ⟨B, 0, none⟩ u0).setCell ⟨B, 1, none⟩ u1).setCell ⟨B, 2, none⟩ u2).cell? ⟨B, 2, none⟩ = some u2 := by
  have n01 : (⟨B, 0, none⟩ : Addr) ≠ ⟨B, 1, none⟩ := addr_ne (by decide)
  have n02 : (⟨B, 0, none⟩ : Addr) ≠ ⟨B, 2, none⟩ := addr_ne (by decide)
  have n12 : (⟨B, 1, none⟩ : Addr) ≠ ⟨B, 2, none⟩ := addr_ne (by decide)
  refine ⟨?_, ?_, ?_⟩
  · rw [World.cell?_setCell_other _ _ _ _ (by first | exact n02 | exact n02.symm), World.cell?_setCell_other _ _ _ _ (by first | exact n01 | exact n01.symm), World.cell?_setCell_same _ _ _ h0]
  · rw [World.cell?_setCell_other _ _ _ _ (by first | exact n12 | exact n12.symm), World.cell?_setCell_same _ _ _ (by rw [World.cell?_setCell_other _ _ _ _ (by first | exact n01 | exact n01.symm)]; exact h1)]
  · rw [World.cell?_setCell_same _ _ _ (by rw [World.cell?_setCell_other _ _ _ _ (by first | exact n12 | exact n12.symm), World.cell?_setCell_other _ _ _ _ (by first | exact n02 | exact n02.symm)]; exact h2)]
/-- A call in a region: what lay there since w0 stays. -/
theorem keepU {P : Program} {f : FuncId} {args : Array Value} {w w0 : World} {v : Value}
    (hc : Calls P f args w fun e w' => e = .returned v ∧ Below w.heap.size w w') (hU : Below w0.heap.size w0 w) :
    Calls P f args w fun e w' => e = .returned v ∧ Below w0.heap.size w0 w' :=
  hc.mono fun _ _ ⟨he, h⟩ => ⟨he, hU.trans (h.mono hU.size)⟩

set_option maxHeartbeats 4000000 in
theorem turn_v (gT gL gA gB gS g c led i : Nat) (ahead back x y a D r1 r2 r3 : Int) (w : World) (hC : Caught w gT gL gA gB gS g c led ahead back) (hi : i < 28)
    (hD : led = 1 ∧ D = y ∨ led = 2 ∧ D = a)
    (x1 : -2147483648 ≤ x) (x2 : x ≤ 2147483647) (y1 : -2147483648 ≤ y) (y2 : y ≤ 2147483647) (a1 : -2147483648 ≤ a) (a2 : a ≤ 2147483647)
    (hr1 : wDo ahead x (wFlip (wSar y i) (wSign D)) = r1) (hr2 : wDo back y (wFlip (wSar x i) (wSign D)) = r2) (hr3 : wDo ahead a (wFlip (tab i) (wSign D)) = r3) :
    Calls Try.prog 25 #[.int .i32 i, .agg #[.int .i32 x, .int .i32 y, .int .i32 a], .pointer (some ⟨gT, 0, none⟩), .pointer (some ⟨gL, 0, none⟩), .pointer (some ⟨gA, 0, none⟩), .pointer (some ⟨gB, 0, none⟩), .pointer (some ⟨gS, 0, none⟩)] w
      fun e w' => e = .returned (.agg #[.int .i32 r1, .int .i32 r2, .int .i32 r3]) ∧ Below w.heap.size w w' := by
  have V1 := Lib.hid hr1
  have V2 := Lib.hid hr2
  have V3 := Lib.hid hr3
  clear hr1 hr2 hr3
  obtain ⟨W, hW⟩ : ∃ W, ((w.alloc (.cells #[.int .i32 i] 21)).alloc (.cells #[.int .i32 x, .int .i32 y, .int .i32 a] 48)).alloc (.cells #[.int .i32 0, .int .i32 0, .int .i32 0] 48) = W := ⟨_, rfl⟩
  have hbW : Below w.heap.size w W := by rw [← hW]; exact below3 (Below.refl w.heap.size w) (Nat.le_refl _) _ _ _
  have hzW : W.heap.size = w.heap.size + 3 := by rw [← hW]; simp
  have hCW := hC.keep hbW
  have ci : W.cell? ⟨w.heap.size, 0, none⟩ = some (.int .i32 i) := by subst hW; go_cell
  have cx : W.cell? ⟨w.heap.size + 1, 0, none⟩ = some (.int .i32 x) := by subst hW; go_cell
  have cy : W.cell? ⟨w.heap.size + 1, 1, none⟩ = some (.int .i32 y) := by subst hW; go_cell
  have ca : W.cell? ⟨w.heap.size + 1, 2, none⟩ = some (.int .i32 a) := by subst hW; go_cell
  have cr0 : W.cell? ⟨w.heap.size + 2, 0, none⟩ = some (.int .i32 0) := by subst hW; go_cell
  have cr1 : W.cell? ⟨w.heap.size + 2, 1, none⟩ = some (.int .i32 0) := by subst hW; go_cell
  have cr2 : W.cell? ⟨w.heap.size + 2, 2, none⟩ = some (.int .i32 0) := by subst hW; go_cell
  have fr0 : W.frozen? ⟨w.heap.size + 2, 0, none⟩ = false := by subst hW; go_cell
  have fr1 : W.frozen? ⟨w.heap.size + 2, 1, none⟩ = false := by subst hW; go_cell
  have fr2 : W.frozen? ⟨w.heap.size + 2, 2, none⟩ = false := by subst hW; go_cell
  have cD : W.cell? ⟨w.heap.size + 1, led, none⟩ = some (.int .i32 D) := by
    rcases hD with ⟨rfl, rfl⟩ | ⟨rfl, rfl⟩
    · exact cy
    · exact ca
  have hled : led < 3 := by omega
  have hled' : (led : Int) < 3 := by omega
  have d1 : -2147483648 ≤ D := by omega
  have d2 : D ≤ 2147483647 := by omega
  have VS := Lib.hid (show wDo 28 D 0 = wSign D from do_one (by decide) (by decide))
  have sb := wSign_bd D
  clear hD
  generalize wSign D = s at *
  have hF : ∀ w', Below W.heap.size W w' → (w'.cell? ⟨gT, 0, none⟩ = some (.iface 39 (.agg #[])) ∧ w'.cell? ⟨gL, 0, none⟩ = some (.int .i64 led) ∧ w'.cell? ⟨w.heap.size + 1, led, none⟩ = some (.int .i32 D)) :=
    fun w' h => ⟨(h.cell (p := ⟨gT, 0, none⟩) hCW.bT).trans hCW.hT, (h.cell (p := ⟨gL, 0, none⟩) hCW.bL).trans hCW.hL, (h.cell (p := ⟨w.heap.size + 1, led, none⟩) (by show w.heap.size + 1 < _; omega)).trans cD⟩
  have HF := Lib.hid hF
  have hbR := Below.refl W.heap.size W
  have HW := Lib.hid hW
  have HC := Lib.hid hCW
  have HC' := Lib.hid hC
  have HI := Lib.hid ci
  have HX := Lib.hid cx
  have HY := Lib.hid cy
  have HZ := Lib.hid ca
  have HR := Lib.hid (show (W.cell? ⟨w.heap.size + 1 + 1, 0, none⟩ = some (.int .i32 0) ∧ W.cell? ⟨w.heap.size + 1 + 1, 1, none⟩ = some (.int .i32 0) ∧ W.cell? ⟨w.heap.size + 1 + 1, 2, none⟩ = some (.int .i32 0))
    ∧ W.frozen? ⟨w.heap.size + 1 + 1, 0, none⟩ = false ∧ W.frozen? ⟨w.heap.size + 1 + 1, 1, none⟩ = false ∧ W.frozen? ⟨w.heap.size + 1 + 1, 2, none⟩ = false from ⟨⟨cr0, cr1, cr2⟩, fr0, fr1, fr2⟩)
  have hz := Nat.le_of_eq hzW.symm
  clear hzW
  clear hF hC hCW hW cD ci cx cy ca cr0 cr1 cr2 fr0 fr1 fr2
  go_enter Try.func25, Try.ntmps25
  go_wp2
  rw [HW.out]
  go_region_held3 (fun w' => (w'.cell? ⟨gT, 0, none⟩ = some (.iface 39 (.agg #[])) ∧ w'.cell? ⟨gL, 0, none⟩ = some (.int .i64 led) ∧ w'.cell? ⟨w.heap.size + 1, led, none⟩ = some (.int .i32 D)) ∧ Below W.heap.size W w' ∧ W.heap.size ≤ w'.heap.size)
    (first
      | assumption
      | exact ⟨HF.out _ hbR.drew, hbR.drew, by simp⟩
      | exact ⟨HF.out _ (hbR.drew.alloc (by simp) _), hbR.drew.alloc (by simp) _, by simp⟩
      | exact ⟨HF.out _ (hbR.alloc (by simp) _).drew, (hbR.alloc (by simp) _).drew, by simp⟩
      | exact ⟨HF.out _ (hS.2.1.alloc hS.2.2 _), hS.2.1.alloc hS.2.2 _, Nat.le_trans hS.2.2 (by simp)⟩
      | exact ⟨HF.out _ (hS.2.1.setCell (Nat.le_refl _) _), hS.2.1.setCell (Nat.le_refl _) _, by simpa using hS.2.2⟩
      | exact ⟨HF.out _ (hS.2.1.setCell hS.2.2 _), hS.2.1.setCell hS.2.2 _, by simpa using hS.2.2⟩
      | trace_state)
    (first
      | (go_at_call 44; with_reducible refine (keepG HF.out (words_one 28 D s _ d1 d2 VS.out) (by assumption)).mono ?_; rintro e w1 ⟨rfl, hS, hq⟩; have hn := new_al (v := .int .i32 0) hq; obtain ⟨hn1, hn2, hn3⟩ := hn)
      | (go_at_call 44; with_reducible refine (keepG HF.out (words_one 28 D s _ d1 d2 VS.out) (by assumption)).mono ?_; rintro e w1 ⟨rfl, hS, hq⟩))
  all_goals (first
    | (have kw : ∃ W2, w1.setCell ⟨W.heap.size, 0, none⟩ (.int .i32 s) = W2 := ⟨_, rfl⟩
       obtain ⟨W2, hW2⟩ := kw
       rw [hW2]
       have k1 : Below W.heap.size W W2 := by rw [← hW2]; exact hS.2.1.setCell (Nat.le_refl _) _
       have k2 : W2.cell? ⟨W.heap.size, 0, none⟩ = some (.int .i32 s) := by subst hW2; go_cell
       have k3 : W.heap.size < W2.heap.size := by subst hW2; simpa using hn3
       obtain ⟨gD, hgD⟩ : ∃ gD, W.heap.size = gD := ⟨_, rfl⟩
       rw [hgD] at k2 k3 ⊢
       have k4 : W.heap.size ≤ gD := Nat.le_of_eq hgD
       clear hgD
       clear hn1 hn2 hn3)
    | (have kw : ∃ W2, w1.alloc (.cells #[.int .i32 s] 21) = W2 := ⟨_, rfl⟩
       obtain ⟨W2, hW2⟩ := kw
       rw [hW2]
       have k1 : Below W.heap.size W W2 := by rw [← hW2]; exact hS.2.1.alloc hS.2.2 _
       have k2 : W2.cell? ⟨w1.heap.size, 0, none⟩ = some (.int .i32 s) := by subst hW2; go_cell
       have k3 : w1.heap.size < W2.heap.size := by subst hW2; simp
       have k4 : W.heap.size ≤ w1.heap.size := hS.2.2
       generalize w1.heap.size = gD at k2 k3 k4 ⊢))
  all_goals (
    have hC2 := HC.out.keep k1
    have e1 := (k1.cell (p := ⟨w.heap.size, 0, none⟩) (by show w.heap.size < _; omega)).trans HI.out
    have e2 := (k1.cell (p := ⟨w.heap.size + 1, 0, none⟩) (by show w.heap.size + 1 < _; omega)).trans HX.out
    have e3 := (k1.cell (p := ⟨w.heap.size + 1, 1, none⟩) (by show w.heap.size + 1 < _; omega)).trans HY.out
    have e4 := (k1.cell (p := ⟨w.heap.size + 1, 2, none⟩) (by show w.heap.size + 1 < _; omega)).trans HZ.out
    have zz := k1.size
    have z0 : w.heap.size < W2.heap.size := by omega
    have z1 : w.heap.size + 1 < W2.heap.size := by omega
    have z2 : w.heap.size + 1 + 1 < W2.heap.size := by omega
    have hF : ∀ w', Below W2.heap.size W2 w' → (w'.cell? ⟨gT, 0, none⟩ = some (.iface 39 (.agg #[])) ∧ w'.cell? ⟨gA, 0, none⟩ = some (.int .i64 ahead) ∧ w'.cell? ⟨gB, 0, none⟩ = some (.int .i64 back) ∧ w'.cell? ⟨gS, 0, none⟩ = some (.slice (some ⟨g, 0, none⟩) 28 c)
        ∧ w'.cell? ⟨w.heap.size, 0, none⟩ = some (.int .i32 i) ∧ w'.cell? ⟨w.heap.size + 1, 0, none⟩ = some (.int .i32 x) ∧ w'.cell? ⟨w.heap.size + 1, 1, none⟩ = some (.int .i32 y) ∧ w'.cell? ⟨w.heap.size + 1, 2, none⟩ = some (.int .i32 a) ∧ w'.cell? ⟨gD, 0, none⟩ = some (.int .i32 s)) := fun w' h => ⟨(h.cell (p := ⟨gT, 0, none⟩) hC2.bT).trans hC2.hT, (h.cell (p := ⟨gA, 0, none⟩) hC2.bA).trans hC2.hA, (h.cell (p := ⟨gB, 0, none⟩) hC2.bB).trans hC2.hB, (h.cell (p := ⟨gS, 0, none⟩) hC2.bS).trans hC2.hS,
      (h.cell (p := ⟨w.heap.size, 0, none⟩) z0).trans e1, (h.cell (p := ⟨w.heap.size + 1, 0, none⟩) z1).trans e2, (h.cell (p := ⟨w.heap.size + 1, 1, none⟩) z1).trans e3, (h.cell (p := ⟨w.heap.size + 1, 2, none⟩) z1).trans e4, (h.cell (p := ⟨gD, 0, none⟩) k3).trans k2⟩
    have nT : gT ≠ w.heap.size + 1 + 1 := by have := HC'.out.bT; omega
    have nA : gA ≠ w.heap.size + 1 + 1 := by have := HC'.out.bA; omega
    have nB : gB ≠ w.heap.size + 1 + 1 := by have := HC'.out.bB; omega
    have nS : gS ≠ w.heap.size + 1 + 1 := by have := HC'.out.bS; omega
    have nD : gD ≠ w.heap.size + 1 + 1 := by omega
    have hF3 : ∀ w', Below W2.heap.size W2 w' → ∀ u0 u1 u2 : Value, ((((w'.setCell ⟨w.heap.size + 1 + 1, 0, none⟩ u0).setCell ⟨w.heap.size + 1 + 1, 1, none⟩ u1).setCell ⟨w.heap.size + 1 + 1, 2, none⟩ u2).cell? ⟨gT, 0, none⟩ = some (.iface 39 (.agg #[])) ∧ (((w'.setCell ⟨w.heap.size + 1 + 1, 0, none⟩ u0).setCell ⟨w.heap.size + 1 + 1, 1, none⟩ u1).setCell ⟨w.heap.size + 1 + 1, 2, none⟩ u2).cell? ⟨gA, 0, none⟩ = some (.int .i64 ahead) ∧ (((w'.setCell ⟨w.heap.size + 1 + 1, 0, none⟩ u0).setCell ⟨w.heap.size + 1 + 1, 1, none⟩ u1).setCell ⟨w.heap.size + 1 + 1, 2, none⟩ u2).cell? ⟨gB, 0, none⟩ = some (.int .i64 back) ∧ (((w'.setCell ⟨w.heap.size + 1 + 1, 0, none⟩ u0).setCell ⟨w.heap.size + 1 + 1, 1, none⟩ u1).setCell ⟨w.heap.size + 1 + 1, 2, none⟩ u2).cell? ⟨gS, 0, none⟩ = some (.slice (some ⟨g, 0, none⟩) 28 c)
        ∧ (((w'.setCell ⟨w.heap.size + 1 + 1, 0, none⟩ u0).setCell ⟨w.heap.size + 1 + 1, 1, none⟩ u1).setCell ⟨w.heap.size + 1 + 1, 2, none⟩ u2).cell? ⟨w.heap.size, 0, none⟩ = some (.int .i32 i) ∧ (((w'.setCell ⟨w.heap.size + 1 + 1, 0, none⟩ u0).setCell ⟨w.heap.size + 1 + 1, 1, none⟩ u1).setCell ⟨w.heap.size + 1 + 1, 2, none⟩ u2).cell? ⟨w.heap.size + 1, 0, none⟩ = some (.int .i32 x) ∧ (((w'.setCell ⟨w.heap.size + 1 + 1, 0, none⟩ u0).setCell ⟨w.heap.size + 1 + 1, 1, none⟩ u1).setCell ⟨w.heap.size + 1 + 1, 2, none⟩ u2).cell? ⟨w.heap.size + 1, 1, none⟩ = some (.int .i32 y) ∧ (((w'.setCell ⟨w.heap.size + 1 + 1, 0, none⟩ u0).setCell ⟨w.heap.size + 1 + 1, 1, none⟩ u1).setCell ⟨w.heap.size + 1 + 1, 2, none⟩ u2).cell? ⟨w.heap.size + 1, 2, none⟩ = some (.int .i32 a) ∧ (((w'.setCell ⟨w.heap.size + 1 + 1, 0, none⟩ u0).setCell ⟨w.heap.size + 1 + 1, 1, none⟩ u1).setCell ⟨w.heap.size + 1 + 1, 2, none⟩ u2).cell? ⟨gD, 0, none⟩ = some (.int .i32 s)) := fun w' h u0 u1 u2 => by
      obtain ⟨q1, q2, q3, q4, q5, q6, q7, q8, q9⟩ := hF w' h
      exact ⟨(set3_other _ _ _ _ _ _ _ nT).trans q1, (set3_other _ _ _ _ _ _ _ nA).trans q2, (set3_other _ _ _ _ _ _ _ nB).trans q3, (set3_other _ _ _ _ _ _ _ nS).trans q4,
        (set3_other _ _ _ _ _ _ _ (by omega)).trans q5, (set3_other _ _ _ _ _ _ _ (by omega)).trans q6, (set3_other _ _ _ _ _ _ _ (by omega)).trans q7, (set3_other _ _ _ _ _ _ _ (by omega)).trans q8, (set3_other _ _ _ _ _ _ _ nD).trans q9⟩
    have hR2 : ∀ w', Below W2.heap.size W2 w' → (w'.cell? ⟨w.heap.size + 1 + 1, 0, none⟩ = some (.int .i32 0) ∧ w'.cell? ⟨w.heap.size + 1 + 1, 1, none⟩ = some (.int .i32 0) ∧ w'.cell? ⟨w.heap.size + 1 + 1, 2, none⟩ = some (.int .i32 0))
        ∧ w'.frozen? ⟨w.heap.size + 1 + 1, 0, none⟩ = false ∧ w'.frozen? ⟨w.heap.size + 1 + 1, 1, none⟩ = false ∧ w'.frozen? ⟨w.heap.size + 1 + 1, 2, none⟩ = false := fun w' h => by
      obtain ⟨⟨q1, q2, q3⟩, q4, q5, q6⟩ := HR.out
      have b2 : w.heap.size + 1 + 1 < W.heap.size := by omega
      have hh := k1.trans (h.mono k1.size)
      exact ⟨⟨(hh.cell (p := ⟨w.heap.size + 1 + 1, 0, none⟩) b2).trans q1, (hh.cell (p := ⟨w.heap.size + 1 + 1, 1, none⟩) b2).trans q2, (hh.cell (p := ⟨w.heap.size + 1 + 1, 2, none⟩) b2).trans q3⟩,
        (hh.frozen (p := ⟨w.heap.size + 1 + 1, 0, none⟩) b2).trans q4, (hh.frozen (p := ⟨w.heap.size + 1 + 1, 1, none⟩) b2).trans q5, (hh.frozen (p := ⟨w.heap.size + 1 + 1, 2, none⟩) b2).trans q6⟩
    have hbw : Below w.heap.size w W2 := hbW.trans (k1.mono (by omega))
    have HF2 := Lib.hid hF
    have HF3 := Lib.hid hF3
    have HR2 := Lib.hid hR2
    have HC2 := Lib.hid hC2
    have E1 := Lib.hid e1
    have E2 := Lib.hid e2
    have E3 := Lib.hid e3
    have K2 := Lib.hid k2
    have hU : Below W2.heap.size W2 W2.drew := (Below.refl _ _).drew
    have NN := Lib.hid (show gT ≠ w.heap.size + 1 + 1 ∧ gD ≠ w.heap.size + 1 + 1 from ⟨nT, nD⟩)
    clear hF hF3 hR2 hC2 e1 e2 e3 e4 k2 nT nA nB nS nD HF HW HC HC' HI HX HY HZ HR hS hq VS
    go_wp2)
  all_goals (
    have T := tab_bd hi
    have S1 := wFlip_bd (wSar y i) s
    have S2 := wFlip_bd (wSar x i) s
    have S3 := wFlip_bd (tab i) s
    obtain ⟨f1, hf1⟩ : ∃ f, wFlip (wSar y i) s = f := ⟨_, rfl⟩
    obtain ⟨f2, hf2⟩ : ∃ f, wFlip (wSar x i) s = f := ⟨_, rfl⟩
    obtain ⟨f3, hf3⟩ : ∃ f, wFlip (tab i) s = f := ⟨_, rfl⟩
    rw [hf1] at V1 S1
    rw [hf2] at V2 S2
    rw [hf3] at V3 S3
    have F1 := Lib.hid hf1
    have F2 := Lib.hid hf2
    have F3 := Lib.hid hf3
    clear hf1 hf2 hf3
    have hG := Lib.hid (HC2.out.hG i hi)
    generalize tab i = t at *
    go_region_held3 (fun w' => (w'.cell? ⟨gT, 0, none⟩ = some (.iface 39 (.agg #[])) ∧ w'.cell? ⟨gA, 0, none⟩ = some (.int .i64 ahead) ∧ w'.cell? ⟨gB, 0, none⟩ = some (.int .i64 back) ∧ w'.cell? ⟨gS, 0, none⟩ = some (.slice (some ⟨g, 0, none⟩) 28 c)
        ∧ w'.cell? ⟨w.heap.size, 0, none⟩ = some (.int .i32 i) ∧ w'.cell? ⟨w.heap.size + 1, 0, none⟩ = some (.int .i32 x) ∧ w'.cell? ⟨w.heap.size + 1, 1, none⟩ = some (.int .i32 y) ∧ w'.cell? ⟨w.heap.size + 1, 2, none⟩ = some (.int .i32 a) ∧ w'.cell? ⟨gD, 0, none⟩ = some (.int .i32 s)) ∧ Below w.heap.size w w')
      (first
        | assumption
        | exact ⟨HF2.out _ hU, hbw.trans (hU.mono (Nat.le_of_lt z0))⟩
        | exact ⟨HF3.out _ hU _ _ _, set3_below (hbw.trans (hU.mono (Nat.le_of_lt z0))) (Nat.le_add_right w.heap.size 2) _ _ _⟩)
      (first
        | (go_at_call 26; with_reducible refine (keepU (part_u hU gT (w.heap.size + 1) w.heap.size gD 1 1 y i s f1 rfl (by decide) HC2.out.hT E3.out E1.out K2.out HC2.out.bT z1 z0 k3 y1 y2 (by omega) (by omega) (by omega) (by omega) F1.out) hU).mono ?_; rintro e w1 ⟨rfl, hU⟩)
        | (go_at_call 26; with_reducible refine (keepU (part_u hU gT (w.heap.size + 1) w.heap.size gD 0 0 x i s f2 rfl (by decide) HC2.out.hT E2.out E1.out K2.out HC2.out.bT z1 z0 k3 x1 x2 (by omega) (by omega) (by omega) (by omega) F2.out) hU).mono ?_; rintro e w1 ⟨rfl, hU⟩)
        | (go_at_call 45; with_reducible refine (keepU (words_two ahead x f1 r1 _ x1 x2 S1.1 S1.2 V1.out) hU).mono ?_; rintro e w1 ⟨rfl, hU⟩)
        | (go_at_call 45; with_reducible refine (keepU (words_two back y f2 r2 _ y1 y2 S2.1 S2.2 V2.out) hU).mono ?_; rintro e w1 ⟨rfl, hU⟩)
        | (go_at_call 43; with_reducible refine (keepU (item_u hU g i c t hi hG.out HC2.out.bG) hU).mono ?_; rintro e w1 ⟨rfl, hU⟩)
        | (go_at_call 22; with_reducible refine (keepU (flip_v t s f3 _ (by omega) (by omega) (by omega) (by omega) F3.out) hU).mono ?_; rintro e w1 ⟨rfl, hU⟩)
        | (go_at_call 45; with_reducible refine (keepU (words_two ahead a f3 r3 _ a1 a2 S3.1 S3.2 V3.out) hU).mono ?_; rintro e w1 ⟨rfl, hU⟩; have hr := HR2.out _ hU; obtain ⟨⟨q0, q1, q2⟩, g0, g1, g2⟩ := hr)))
  all_goals (
    have p := set3_same w1 (w.heap.size + 1 + 1) (.int .i32 r1) (.int .i32 r2) (.int .i32 r3) _ _ _ q0 q1 q2
    have pb := set3_below (hbw.trans (hU.mono (Nat.le_of_lt z0))) (Nat.le_add_right w.heap.size 2) (.int .i32 r1) (.int .i32 r2) (.int .i32 r3)
    obtain ⟨p0, p1, p2⟩ := p
    clear q0 q1 q2 g0 g1 g2
    generalize ((w1.setCell ⟨w.heap.size + 1 + 1, 0, none⟩ (.int .i32 r1)).setCell ⟨w.heap.size + 1 + 1, 1, none⟩ (.int .i32 r2)).setCell ⟨w.heap.size + 1 + 1, 2, none⟩ (.int .i32 r3) = W3 at p0 p1 p2 pb ⊢
    go_wp2
    exact bodyPost_ret (v := .agg #[.int .i32 r1, .int .i32 r2, .int .i32 r3]) (by simp [results, Try.results25, go_sem, p0, p1, p2]) rfl ⟨rfl, pb⟩)
end Go.Proofs.Ytmlofggohkcjnaa
