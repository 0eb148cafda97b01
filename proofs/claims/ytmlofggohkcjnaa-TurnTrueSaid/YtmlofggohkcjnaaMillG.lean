/- Package mill's mill of words does a turn again and again. Conditions: the numbers are of the kinds of the parameters. -/
import Derived.Test.YtmlofggohkcjnaaTurnC
namespace Go.Proofs.Ytmlofggohkcjnaa
open Go.RowKit

/-- Three numbers lie in the block B, and may be written. -/
structure Three (w : World) (B : Nat) (v0 v1 v2 : Value) : Prop where
  c0 : w.cell? ⟨B, 0, none⟩ = some v0
  c1 : w.cell? ⟨B, 1, none⟩ = some v1
  c2 : w.cell? ⟨B, 2, none⟩ = some v2
  f0 : w.frozen? ⟨B, 0, none⟩ = false
  f1 : w.frozen? ⟨B, 1, none⟩ = false
  f2 : w.frozen? ⟨B, 2, none⟩ = false
theorem Three.keep {w w' : World} {B n : Nat} {v0 v1 v2 : Value} (h : Three w B v0 v1 v2) (hb : Below n w w') (hB : B < n) : Three w' B v0 v1 v2 :=
  ⟨(hb.cell (p := ⟨B, 0, none⟩) hB).trans h.c0, (hb.cell (p := ⟨B, 1, none⟩) hB).trans h.c1, (hb.cell (p := ⟨B, 2, none⟩) hB).trans h.c2,
    (hb.frozen (p := ⟨B, 0, none⟩) hB).trans h.f0, (hb.frozen (p := ⟨B, 1, none⟩) hB).trans h.f1, (hb.frozen (p := ⟨B, 2, none⟩) hB).trans h.f2⟩
theorem Three.set {w : World} {B : Nat} {v0 v1 v2 : Value} (h : Three w B v0 v1 v2) (u0 u1 u2 : Value) : Three (((w.setCell ⟨B, 0, none⟩ u0).setCell ⟨B, 1, none⟩ u1).setCell ⟨B, 2, none⟩ u2) B u0 u1 u2 := by
  obtain ⟨p0, p1, p2⟩ := set3_same w B u0 u1 u2 v0 v1 v2 h.c0 h.c1 h.c2
  exact ⟨p0, p1, p2, by simpa using h.f0, by simpa using h.f1, by simpa using h.f2⟩
theorem Three.other {w : World} {B B' : Nat} {v0 v1 v2 : Value} (h : Three w B' v0 v1 v2) (hB : B' ≠ B) (u0 u1 u2 : Value) : Three (((w.setCell ⟨B, 0, none⟩ u0).setCell ⟨B, 1, none⟩ u1).setCell ⟨B, 2, none⟩ u2) B' v0 v1 v2 :=
  ⟨(set3_other _ _ _ _ _ _ _ hB).trans h.c0, (set3_other _ _ _ _ _ _ _ hB).trans h.c1, (set3_other _ _ _ _ _ _ _ hB).trans h.c2, by simpa using h.f0, by simpa using h.f1, by simpa using h.f2⟩
/-- Which number is led. -/
def Leads (led : Nat) (L : Int × Int × Int → Int) : Prop := led = 1 ∧ L = (fun s => s.2.1) ∨ led = 2 ∧ L = (fun s => s.2.2)
/-- Where the rounds stand: the numbers behind k turns, the place of the result, and what else lies there. -/
def AtTurn (w : World) (L : Int × Int × Int → Int) (ahead back : Int) (s : Int × Int × Int) (k : Nat) (wr : World) : Prop :=
  Three wr (w.heap.size + 1) (.int .i32 (tN L ahead back s k).1) (.int .i32 (tN L ahead back s k).2.1) (.int .i32 (tN L ahead back s k).2.2) ∧ Three wr (w.heap.size + 1 + 1) (.int .i32 0) (.int .i32 0) (.int .i32 0) ∧ Below w.heap.size w wr ∧ w.heap.size + 1 + 1 < wr.heap.size
theorem at_turn {w : World} {L : Int × Int × Int → Int} {ahead back : Int} {s : Int × Int × Int} {k : Nat} {wr : World} {X Y A : Int} (hs : tN L ahead back s k = (X, Y, A)) (h1 : Three wr (w.heap.size + 1) (.int .i32 X) (.int .i32 Y) (.int .i32 A))
    (h2 : Three wr (w.heap.size + 1 + 1) (.int .i32 0) (.int .i32 0) (.int .i32 0)) (h3 : Below w.heap.size w wr) (h4 : w.heap.size + 1 + 1 < wr.heap.size) : AtTurn w L ahead back s k wr := by
  unfold AtTurn; rw [hs]; exact ⟨h1, h2, h3, h4⟩

set_option maxHeartbeats 2000000 in
theorem again_v (gT gL gA gB gS g c led : Nat) (ahead back x y a r1 r2 r3 : Int) (L : Int × Int × Int → Int) (w : World) (hC : Caught w gT gL gA gB gS g c led ahead back) (hL : Leads led L) (hop : ahead = 1 ∧ back = 2 ∨ ahead = 2 ∧ back = 1)
    (x1 : -2147483648 ≤ x) (x2 : x ≤ 2147483647) (y1 : -2147483648 ≤ y) (y2 : y ≤ 2147483647) (a1 : -2147483648 ≤ a) (a2 : a ≤ 2147483647)
    (hr : tN L ahead back (x, y, a) 28 = (r1, r2, r3)) :
    Calls Try.prog 42 #[.agg #[], .int .i64 28, .agg #[.int .i32 x, .int .i32 y, .int .i32 a],
        .func (.func 25) #[] #[.pointer (some ⟨gT, 0, none⟩), .pointer (some ⟨gL, 0, none⟩), .pointer (some ⟨gA, 0, none⟩), .pointer (some ⟨gB, 0, none⟩), .pointer (some ⟨gS, 0, none⟩)]] w
      fun e w' => e = .returned (.agg #[.int .i32 r1, .int .i32 r2, .int .i32 r3]) ∧ Below w.heap.size w w' := by
  have bd := tN_bd (L := L) hop (s := (x, y, a)) ⟨⟨x1, x2⟩, ⟨y1, y2⟩, ⟨a1, a2⟩⟩
  have HB := Lib.hid bd
  have HC := Lib.hid hC
  have HL := Lib.hid hL
  have HR := Lib.hid hr
  clear bd hC hL hr hop
  have hb3 := below3 (Below.refl w.heap.size w) (Nat.le_refl _)
  have hs : ∀ o1 o2, Three (((w.alloc o1).alloc (.cells #[.int .i32 x, .int .i32 y, .int .i32 a] 48)).alloc o2) (w.heap.size + 1) (.int .i32 x) (.int .i32 y) (.int .i32 a) := fun _ _ => ⟨by go_cell, by go_cell, by go_cell, by go_cell, by go_cell, by go_cell⟩
  have hz : ∀ o1 o2, Three (((w.alloc o1).alloc o2).alloc (.cells #[.int .i32 0, .int .i32 0, .int .i32 0] 48)) (w.heap.size + 1 + 1) (.int .i32 0) (.int .i32 0) (.int .i32 0) := fun _ _ => ⟨by go_cell, by go_cell, by go_cell, by go_cell, by go_cell, by go_cell⟩
  have HS0 := Lib.hid hs
  have HZ0 := Lib.hid hz
  have HB3 := Lib.hid hb3
  clear hs hz hb3
  go_enter Try.func42, Try.ntmps42
  go_wp2
  go_loopw [11] (fun i wr => ∃ k : Nat, k ≤ 28 ∧ i = .int .i64 k ∧ AtTurn w L ahead back (x, y, a) k wr) (fun i _ => 28 - (intOf i).toNat)
  case atStart => exact ⟨0, by omega, rfl, at_turn rfl (HS0.out _ _) (HZ0.out _ _) (HB3.out _ _ _) (by simp)⟩
  case round =>
    obtain ⟨k, hk, rfl, hT, hZ, hb, hz⟩ := hrel
    have hbk := HB.out k
    by_cases hlt : k < 28
    · have hlt' : (k : Int) < 28 := by omega
      have hS : tN L ahead back (x, y, a) (k + 1) = tStep L ahead back k (tN L ahead back (x, y, a) k) := rfl
      obtain ⟨⟨b1, b2⟩, ⟨b3, b4⟩, ⟨b5, b6⟩⟩ := hbk
      have HS := Lib.hid hS
      clear hS
      generalize tN L ahead back (x, y, a) k = s at *
      obtain ⟨X, Y, A⟩ := s
      have hD : led = 1 ∧ L (X, Y, A) = Y ∨ led = 2 ∧ L (X, Y, A) = A := by
        rcases HL.out with ⟨h1, rfl⟩ | ⟨h1, rfl⟩
        · exact .inl ⟨h1, rfl⟩
        · exact .inr ⟨h1, rfl⟩
      have HD := Lib.hid hD
      clear hD
      have hCr := Lib.hid (HC.out.keep hb)
      obtain ⟨c0, c1, c2, f0, f1, f2⟩ := hT
      have HT := Lib.hid (show Three wr (w.heap.size + 1) (.int .i32 X) (.int .i32 Y) (.int .i32 A) from ⟨c0, c1, c2, f0, f1, f2⟩)
      have HZ := Lib.hid hZ
      clear hZ f0 f1 f2
      go_wp2_with (go_at_call 25; with_reducible refine (turn_v gT gL gA gB gS g c led k ahead back X Y A (L (X, Y, A)) _ _ _ _ hCr.out hlt HD.out b1 b2 b3 b4 b5 b6 rfl rfl rfl).mono ?_; rintro e w1 ⟨rfl, hb1⟩; have hT1 := HT.out.keep hb1 (by omega); obtain ⟨d0, d1, d2, e0, e1, e2⟩ := hT1)
      have hTn := (HT.out.keep hb1 (by omega)).set (.int .i32 (wDo ahead X (wFlip (wSar Y k) (wSign (L (X, Y, A)))))) (.int .i32 (wDo back Y (wFlip (wSar X k) (wSign (L (X, Y, A)))))) (.int .i32 (wDo ahead A (wFlip (tab k) (wSign (L (X, Y, A))))))
      have hZn := (HZ.out.keep hb1 hz).other (B := w.heap.size + 1) (by omega) (.int .i32 (wDo ahead X (wFlip (wSar Y k) (wSign (L (X, Y, A)))))) (.int .i32 (wDo back Y (wFlip (wSar X k) (wSign (L (X, Y, A)))))) (.int .i32 (wDo ahead A (wFlip (tab k) (wSign (L (X, Y, A))))))
      have hBn := set3_below (B' := w.heap.size + 1) (hb.trans (hb1.mono hb.size)) (by omega) (.int .i32 (wDo ahead X (wFlip (wSar Y k) (wSign (L (X, Y, A)))))) (.int .i32 (wDo back Y (wFlip (wSar X k) (wSign (L (X, Y, A)))))) (.int .i32 (wDo ahead A (wFlip (tab k) (wSign (L (X, Y, A))))))
      have hzn := Nat.lt_of_lt_of_le hz hb1.size
      clear d0 d1 d2 e0 e1 e2
      go_roundw
      case rel => exact ⟨k + 1, by omega, by go_num, at_turn HS.out hTn hZn hBn (by simpa using hzn)⟩
      case measure => simp [intOf]; omega
    · obtain rfl : k = 28 := by omega
      rw [HR.out] at hT
      obtain ⟨c0, c1, c2, -, -, -⟩ := hT
      have HZ := Lib.hid hZ
      obtain ⟨d0, d1, d2, e0, e1, e2⟩ := hZ
      have hZn := HZ.out.set (.int .i32 r1) (.int .i32 r2) (.int .i32 r3)
      have hBn := set3_below (B' := w.heap.size + 1 + 1) hb (by omega) (.int .i32 r1) (.int .i32 r2) (.int .i32 r3)
      have HZn := Lib.hid hZn
      clear hZn hbk
      go_wp2
      have hZn := HZn.out
      obtain ⟨p0, p1, p2, -, -, -⟩ := hZn
      generalize ((wr.setCell ⟨w.heap.size + 1 + 1, 0, none⟩ (.int .i32 r1)).setCell ⟨w.heap.size + 1 + 1, 1, none⟩ (.int .i32 r2)).setCell ⟨w.heap.size + 1 + 1, 2, none⟩ (.int .i32 r3) = W3 at p0 p1 p2 hBn ⊢
      (try simp only [Exit.inBlock, Exit.then])
      exact bodyPost_ret (v := .agg #[.int .i32 r1, .int .i32 r2, .int .i32 r3]) (by simp [results, Try.results42, go_sem, p0, p1, p2]) rfl ⟨rfl, hBn⟩
end Go.Proofs.Ytmlofggohkcjnaa
