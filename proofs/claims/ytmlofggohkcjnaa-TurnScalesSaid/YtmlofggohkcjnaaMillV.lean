/- Layer 9's turns upon package mill's mill of words: all turns, and vectors. Conditions: the numbers are of the kinds of the parameters. -/
import Derived.Test.YtmlofggohkcjnaaMillG
import Derived.Test.YtmlofggohkcjnaaTabA
import Derived.BigQuiet
import Derived.Deep.QuietTactic
namespace Go.Proofs.Ytmlofggohkcjnaa
open Go.RowKit

theorem new3_at {W w' : World} {B : Nat} {v0 v1 v2 : Value} (hq : Below W.heap.size W w') (hB : B < W.heap.size) (h : Three W B v0 v1 v2) : Three w' B v0 v1 v2 ∧ B < w'.heap.size :=
  ⟨h.keep hq hB, Nat.lt_of_lt_of_le hB hq.size⟩
theorem three_new (W : World) (v0 v1 v2 : Value) (t : TypeId) : Three (W.alloc (.cells #[v0, v1, v2] t)) W.heap.size v0 v1 v2 := ⟨by go_cell, by go_cell, by go_cell, by go_cell, by go_cell, by go_cell⟩
theorem three_drew {W : World} {B : Nat} {v0 v1 v2 : Value} (h : Three W B v0 v1 v2) : Three W.drew B v0 v1 v2 := ⟨h.c0, h.c1, h.c2, h.f0, h.f1, h.f2⟩
theorem new3_al {W w' : World} {v0 v1 v2 : Value} {t : TypeId} (hq : Below (W.alloc (.cells #[v0, v1, v2] t)).heap.size (W.alloc (.cells #[v0, v1, v2] t)) w') : Three w' W.heap.size v0 v1 v2 ∧ W.heap.size < w'.heap.size :=
  new3_at hq (by simp) (three_new _ _ _ _ _)
theorem new3_ald {W w' : World} {v0 v1 v2 : Value} {t : TypeId} (hq : Below (W.alloc (.cells #[v0, v1, v2] t)).drew.heap.size (W.alloc (.cells #[v0, v1, v2] t)).drew w') : Three w' W.heap.size v0 v1 v2 ∧ W.heap.size < w'.heap.size :=
  new3_at hq (by simp) (three_drew (three_new _ _ _ _ _))
theorem keep3 {W w' : World} {B : Nat} {v0 v1 v2 : Value} (h : Three W B v0 v1 v2 ∧ B < W.heap.size) (hq : Below W.heap.size W w') : Three w' B v0 v1 v2 ∧ B < w'.heap.size := new3_at hq h.2 h.1

set_option maxHeartbeats 2000000 in
theorem turned_v (led : Nat) (ledi ahead back x y a r1 r2 r3 : Int) (hled : (led : Int) = ledi) (L : Int × Int × Int → Int) (w : World) (hL : Leads led L) (hop : ahead = 1 ∧ back = 2 ∨ ahead = 2 ∧ back = 1)
    (x1 : -2147483648 ≤ x) (x2 : x ≤ 2147483647) (y1 : -2147483648 ≤ y) (y2 : y ≤ 2147483647) (a1 : -2147483648 ≤ a) (a2 : a ≤ 2147483647)
    (hr : tN L ahead back (x, y, a) 28 = (r1, r2, r3)) :
    Calls Try.prog 23 #[.agg #[.iface 39 (.agg #[])], .agg #[.int .i32 x, .int .i32 y, .int .i32 a], .int .i64 ledi, .int .i64 ahead, .int .i64 back] w
      fun e w' => e = .returned (.agg #[.int .i32 r1, .int .i32 r2, .int .i32 r3]) ∧ Below w.heap.size w w' := by
  obtain ⟨W, hW⟩ : ∃ W, (((((w.alloc (.cells #[.iface 39 (.agg #[])] 36)).alloc (.cells #[.int .i32 x, .int .i32 y, .int .i32 a] 48)).alloc (.cells #[.int .i64 ledi] 3)).alloc (.cells #[.int .i64 ahead] 3)).alloc (.cells #[.int .i64 back] 3)).alloc (.cells #[.int .i32 0, .int .i32 0, .int .i32 0] 48) = W := ⟨_, rfl⟩
  have hbW : Below w.heap.size w W := by
    rw [← hW]
    exact ((below3 (below3 (Below.refl w.heap.size w) (Nat.le_refl _) _ _ _) (by simp; omega) _ _ _))
  have hzW : w.heap.size + 6 ≤ W.heap.size := by rw [← hW]; simp
  have cT : W.cell? ⟨w.heap.size, 0, none⟩ = some (.iface 39 (.agg #[])) := by subst hW; go_cell
  have cF : Three W (w.heap.size + 1) (.int .i32 x) (.int .i32 y) (.int .i32 a) := by subst hW; exact ⟨by go_cell, by go_cell, by go_cell, by go_cell, by go_cell, by go_cell⟩
  have cL : W.cell? ⟨w.heap.size + 1 + 1, 0, none⟩ = some (.int .i64 led) := by rw [hled]; subst hW; go_cell
  have cA : W.cell? ⟨w.heap.size + 1 + 1 + 1, 0, none⟩ = some (.int .i64 ahead) := by subst hW; go_cell
  have cB : W.cell? ⟨w.heap.size + 1 + 1 + 1 + 1, 0, none⟩ = some (.int .i64 back) := by subst hW; go_cell
  have cR : Three W (w.heap.size + 1 + 1 + 1 + 1 + 1) (.int .i32 0) (.int .i32 0) (.int .i32 0) := by subst hW; exact ⟨by go_cell, by go_cell, by go_cell, by go_cell, by go_cell, by go_cell⟩
  have HW := Lib.hid hW
  have CT := Lib.hid cT
  have CF := Lib.hid cF
  have CL := Lib.hid cL
  have CA := Lib.hid cA
  have CB := Lib.hid cB
  have CR := Lib.hid cR
  have HL := Lib.hid hL
  have HO := Lib.hid hop
  have HR := Lib.hid hr
  clear hW cT cF cL cA cB cR hL hop hr hled
  go_enter Try.func23, Try.ntmps23
  go_wp2_with fail
  rw [HW.out]
  refine (angles_is _).mono ?_
  rintro e wa ⟨_, rfl, hba, g, c, rfl, hg, hc, ht⟩
  have hsz := hba.size
  obtain ⟨V, hV⟩ : ∃ V, wa.alloc (.cells #[.slice (some ⟨g, 0, none⟩) 28 c] 52) = V := ⟨_, rfl⟩
  have hbV : Below wa.heap.size wa V := by rw [← hV]; exact (Below.refl _ _).alloc (Nat.le_refl _) _
  have hzV : wa.heap.size < V.heap.size := by rw [← hV]; simp
  have hbWV : Below W.heap.size W V := hba.trans (hbV.mono hsz)
  have hCa : Caught V w.heap.size (w.heap.size + 1 + 1) (w.heap.size + 1 + 1 + 1) (w.heap.size + 1 + 1 + 1 + 1) wa.heap.size g c led ahead back :=
    ⟨(hbWV.cell (p := ⟨w.heap.size, 0, none⟩) (by show w.heap.size < _; omega)).trans CT.out, (hbWV.cell (p := ⟨w.heap.size + 1 + 1, 0, none⟩) (by show w.heap.size + 1 + 1 < _; omega)).trans CL.out,
      (hbWV.cell (p := ⟨w.heap.size + 1 + 1 + 1, 0, none⟩) (by show w.heap.size + 1 + 1 + 1 < _; omega)).trans CA.out, (hbWV.cell (p := ⟨w.heap.size + 1 + 1 + 1 + 1, 0, none⟩) (by show w.heap.size + 1 + 1 + 1 + 1 < _; omega)).trans CB.out,
      by subst hV; go_cell, fun i hi => (hbV.cell (p := ⟨g, i, none⟩) hg).trans (ht i hi), by omega, by omega, by omega, by omega, hzV, by omega⟩
  have hT := (CF.out.keep hbWV (by omega))
  have HR0 := Lib.hid (CR.out.keep hbWV (by omega))
  have hcT := hCa.hT
  have hcS := hCa.hS
  have HCa := Lib.hid hCa
  obtain ⟨t0, t1, t2, -, -, -⟩ := hT
  have HV := Lib.hid hV
  have hb2 := hbW.trans (hbWV.mono (by omega))
  rw [← hV] at hcT t0 t1 t2
  clear hV hCa ht hbV hba hcS hc
  go_wp2_with fail
  rw [HV.out]
  refine (again_v _ _ _ _ _ _ _ led ahead back x y a r1 r2 r3 L _ HCa.out HL.out HO.out x1 x2 y1 y2 a1 a2 HR.out).mono ?_
  rintro e w1 ⟨rfl, hb1⟩
  have hR1 := HR0.out.keep hb1 (by omega)
  have hRn := hR1.set (.int .i32 r1) (.int .i32 r2) (.int .i32 r3)
  have hBn := set3_below (B' := w.heap.size + 1 + 1 + 1 + 1 + 1) (hb2.trans (hb1.mono hb2.size)) (by omega) (.int .i32 r1) (.int .i32 r2) (.int .i32 r3)
  have HRn := Lib.hid hRn
  obtain ⟨d0, d1, d2, e0, e1, e2⟩ := hR1
  clear hRn
  go_wp2
  have hRn := HRn.out
  obtain ⟨p0, p1, p2, -, -, -⟩ := hRn
  generalize ((w1.setCell ⟨w.heap.size + 1 + 1 + 1 + 1 + 1, 0, none⟩ (.int .i32 r1)).setCell ⟨w.heap.size + 1 + 1 + 1 + 1 + 1, 1, none⟩ (.int .i32 r2)).setCell ⟨w.heap.size + 1 + 1 + 1 + 1 + 1, 2, none⟩ (.int .i32 r3) = W3 at p0 p1 p2 hBn ⊢
  (try simp only [Exit.inBlock, Exit.then])
  exact bodyPost_ret (v := .agg #[.int .i32 r1, .int .i32 r2, .int .i32 r3]) (by simp [results, Try.results23, go_sem, p0, p1, p2]) rfl ⟨rfl, hBn⟩
end Go.Proofs.Ytmlofggohkcjnaa
