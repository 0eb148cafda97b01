/- Layer 10 upon package mill's mill of words: what a region keeps, and sums of products. Conditions: the numbers are of the kinds of the parameters. -/
import Derived.Test.YtdphiobmjdiefaaMillQ
import Derived.Test.YtdphiobmjdiefaaSeq
namespace Go.Proofs.Ytdphiobmjdiefaa
open Go.RowKit

theorem keep4 {w w' : World} {g lo : Nat} {f : Nat → Int} (h : FourAt w g f ∧ lo ≤ g ∧ g < w.heap.size) (hq : Below w.heap.size w w') : FourAt w' g f ∧ lo ≤ g ∧ g < w'.heap.size :=
  ⟨h.1.keep hq h.2.2, h.2.1, Nat.lt_of_lt_of_le h.2.2 hq.size⟩
theorem keep4a {w w' : World} {o : Obj} {g lo : Nat} {f : Nat → Int} (h : FourAt w g f ∧ lo ≤ g ∧ g < w.heap.size) (hq : Below (w.alloc o).heap.size (w.alloc o) w') : FourAt w' g f ∧ lo ≤ g ∧ g < w'.heap.size := by
  have e : (w.alloc o).heap.size = w.heap.size + 1 := by simp
  have h2 := h.2.2
  exact keep4 (w := w.alloc o) ⟨h.1.keep ((Below.refl w.heap.size w).alloc (Nat.le_refl _) o) h.2.2, h.2.1, by omega⟩ hq
theorem keepG4 {P : Program} {f : FuncId} {args : Array Value} {w w0 : World} {B : Nat} {v : Value} {F : World → Prop} (hF : ∀ w', Below B w0 w' → F w')
    (hc : Calls P f args w fun e w' => e = .returned v ∧ Below w.heap.size w w') (hS : F w ∧ Below B w0 w ∧ B ≤ w.heap.size) :
    Calls P f args w fun e w' => e = .returned v ∧ (F w' ∧ Below B w0 w' ∧ B ≤ w'.heap.size) ∧ Below w.heap.size w w' :=
  hc.mono fun _ _ ⟨he, h⟩ => ⟨he, ⟨hF _ (hS.2.1.trans (h.mono hS.2.2)), hS.2.1.trans (h.mono hS.2.2), Nat.le_trans hS.2.2 h.size⟩, h⟩
theorem F4set {w : World} {B : Nat} {f : Nat → Int} (h : FourAt w B f) (u0 u1 u2 u3 : Int) : FourAt ((((w.setCell ⟨B, 0, none⟩ (.int .i32 u0)).setCell ⟨B, 1, none⟩ (.int .i32 u1)).setCell ⟨B, 2, none⟩ (.int .i32 u2)).setCell ⟨B, 3, none⟩ (.int .i32 u3)) B (pt u0 u1 u2 u3) := by
  have := (((h.set (i := 0) (by decide) u0).set (i := 1) (by decide) u1).set (i := 2) (by decide) u2).set (i := 3) (by decide) u3
  refine ⟨fun k hk => (this.c k hk).trans ?_, this.z⟩
  have e : k = 0 ∨ k = 1 ∨ k = 2 ∨ k = 3 := by omega
  rcases e with rfl | rfl | rfl | rfl <;> simp [pt]
theorem Sdrew {F : World → Prop} {W : World} {B : Nat} (hF : ∀ w', Below B W w' → F w') (hz : B ≤ W.heap.size) : F W.drew ∧ Below B W W.drew ∧ B ≤ W.drew.heap.size := ⟨hF _ (Below.refl _ _).drew, (Below.refl _ _).drew, hz⟩
theorem drew4 {w : World} {g lo : Nat} {f : Nat → Int} (h : FourAt w g f ∧ lo ≤ g ∧ g < w.heap.size) : FourAt w.drew g f ∧ lo ≤ g ∧ g < w.drew.heap.size := ⟨⟨h.1.c, h.1.z⟩, h.2⟩
theorem Sall {F : World → Prop} {w0 w : World} {B : Nat} (hF : ∀ w', Below B w0 w' → F w') (h : F w ∧ Below B w0 w ∧ B ≤ w.heap.size) (o : Obj) : F (w.alloc o) ∧ Below B w0 (w.alloc o) ∧ B ≤ (w.alloc o).heap.size :=
  ⟨hF _ (h.2.1.alloc h.2.2 _), h.2.1.alloc h.2.2 _, by simp; have := h.2.2; omega⟩
theorem Sd {F : World → Prop} {w0 w : World} {B : Nat} (hF : ∀ w', Below B w0 w' → F w') (h : F w ∧ Below B w0 w ∧ B ≤ w.heap.size) : F w.drew ∧ Below B w0 w.drew ∧ B ≤ w.drew.heap.size := ⟨hF _ h.2.1.drew, h.2.1.drew, h.2.2⟩
theorem set4_below {B B' : Nat} {w w' : World} (h : Below B w w') (hB : B ≤ B') (u0 u1 u2 u3 : Value) : Below B w ((((w'.setCell ⟨B', 0, none⟩ u0).setCell ⟨B', 1, none⟩ u1).setCell ⟨B', 2, none⟩ u2).setCell ⟨B', 3, none⟩ u3) :=
  (((h.setCell (p := ⟨B', 0, none⟩) hB _).setCell (p := ⟨B', 1, none⟩) hB _).setCell (p := ⟨B', 2, none⟩) hB _).setCell (p := ⟨B', 3, none⟩) hB _
theorem Sset {F : World → Prop} {w0 w : World} {B : Nat} (hF : ∀ w', Below B w0 w' → F w') (h : F w ∧ Below B w0 w ∧ B ≤ w.heap.size) (u0 u1 u2 u3 : Value) :
    F ((((w.setCell ⟨B, 0, none⟩ u0).setCell ⟨B, 1, none⟩ u1).setCell ⟨B, 2, none⟩ u2).setCell ⟨B, 3, none⟩ u3) ∧ Below B w0 ((((w.setCell ⟨B, 0, none⟩ u0).setCell ⟨B, 1, none⟩ u1).setCell ⟨B, 2, none⟩ u2).setCell ⟨B, 3, none⟩ u3)
      ∧ B ≤ ((((w.setCell ⟨B, 0, none⟩ u0).setCell ⟨B, 1, none⟩ u1).setCell ⟨B, 2, none⟩ u2).setCell ⟨B, 3, none⟩ u3).heap.size :=
  ⟨hF _ (set4_below h.2.1 (Nat.le_refl _) _ _ _ _), set4_below h.2.1 (Nat.le_refl _) _ _ _ _, by simpa using h.2.2⟩

theorem total3_o (f o0 a0 b0 o1 a1 b1 o2 a2 b2 r : Int) (T : TypeId) (w : World) (f1 : -2147483648 ≤ f ∧ f ≤ 2147483647) (q0 : o0 = 3 ∨ o0 = 4) (q1 : o1 = 3 ∨ o1 = 4) (q2 : o2 = 3 ∨ o2 = 4) (x0 : -2147483648 ≤ a0) (X0 : a0 ≤ 2147483647) (y0 : -2147483648 ≤ b0) (Y0 : b0 ≤ 2147483647) (x1 : -2147483648 ≤ a1) (X1 : a1 ≤ 2147483647) (y1 : -2147483648 ≤ b1) (Y1 : b1 ≤ 2147483647) (x2 : -2147483648 ≤ a2) (X2 : a2 ≤ 2147483647) (y2 : -2147483648 ≤ b2) (Y2 : b2 ≤ 2147483647) (hr : wDo o2 (wDo o1 (wDo o0 (f) (wMulq a0 b0)) (wMulq a1 b1)) (wMulq a2 b2) = r) :
    Calls Try.prog 19 #[.iface 45 (.agg #[]), .int .i32 f, .slice (some ⟨w.heap.size, 0, none⟩) 3 3] (w.alloc (.cells #[.int .i64 o0, .int .i32 a0, .int .i32 b0, .int .i64 o1, .int .i32 a1, .int .i32 b1, .int .i64 o2, .int .i32 a2, .int .i32 b2] T)) fun e w' => e = .returned (.int .i32 r) ∧ Below (w.alloc (.cells #[.int .i64 o0, .int .i32 a0, .int .i32 b0, .int .i64 o1, .int .i32 a1, .int .i32 b1, .int .i64 o2, .int .i32 a2, .int .i32 b2] T)).heap.size (w.alloc (.cells #[.int .i64 o0, .int .i32 a0, .int .i32 b0, .int .i64 o1, .int .i32 a1, .int .i32 b1, .int .i64 o2, .int .i32 a2, .int .i32 b2] T)) w' := by
  refine total_v 3 w.heap.size 3 f r (fun k => if k = 0 then o0 else if k = 1 then o1 else o2) (fun k => if k = 0 then a0 else if k = 1 then a1 else a2) (fun k => if k = 0 then b0 else if k = 1 then b1 else b2) _ (by decide) f1 ?_ ?_ ?_ ?_ (by simp) (by rw [← hr]; rfl)
  · intro k hk
    match k, hk with
    | 0, _ => assumption
    | 1, _ => assumption
    | 2, _ => assumption
  · intro k hk
    match k, hk with
    | 0, _ => constructor <;> assumption
    | 1, _ => constructor <;> assumption
    | 2, _ => constructor <;> assumption
  · intro k hk
    match k, hk with
    | 0, _ => constructor <;> assumption
    | 1, _ => constructor <;> assumption
    | 2, _ => constructor <;> assumption
  · intro k hk
    match k, hk with
    | 0, _ => refine ⟨?_, ?_, ?_⟩ <;> go_cell
    | 1, _ => refine ⟨?_, ?_, ?_⟩ <;> go_cell
    | 2, _ => refine ⟨?_, ?_, ?_⟩ <;> go_cell
theorem total2_o (f o0 a0 b0 o1 a1 b1 r : Int) (T : TypeId) (w : World) (f1 : -2147483648 ≤ f ∧ f ≤ 2147483647) (q0 : o0 = 3 ∨ o0 = 4) (q1 : o1 = 3 ∨ o1 = 4) (x0 : -2147483648 ≤ a0) (X0 : a0 ≤ 2147483647) (y0 : -2147483648 ≤ b0) (Y0 : b0 ≤ 2147483647) (x1 : -2147483648 ≤ a1) (X1 : a1 ≤ 2147483647) (y1 : -2147483648 ≤ b1) (Y1 : b1 ≤ 2147483647) (hr : wDo o1 (wDo o0 (f) (wMulq a0 b0)) (wMulq a1 b1) = r) :
    Calls Try.prog 19 #[.iface 45 (.agg #[]), .int .i32 f, .slice (some ⟨w.heap.size, 0, none⟩) 2 2] (w.alloc (.cells #[.int .i64 o0, .int .i32 a0, .int .i32 b0, .int .i64 o1, .int .i32 a1, .int .i32 b1] T)) fun e w' => e = .returned (.int .i32 r) ∧ Below (w.alloc (.cells #[.int .i64 o0, .int .i32 a0, .int .i32 b0, .int .i64 o1, .int .i32 a1, .int .i32 b1] T)).heap.size (w.alloc (.cells #[.int .i64 o0, .int .i32 a0, .int .i32 b0, .int .i64 o1, .int .i32 a1, .int .i32 b1] T)) w' := by
  refine total_v 2 w.heap.size 2 f r (fun k => if k = 0 then o0 else o1) (fun k => if k = 0 then a0 else a1) (fun k => if k = 0 then b0 else b1) _ (by decide) f1 ?_ ?_ ?_ ?_ (by simp) (by rw [← hr]; rfl)
  · intro k hk
    match k, hk with
    | 0, _ => assumption
    | 1, _ => assumption
  · intro k hk
    match k, hk with
    | 0, _ => constructor <;> assumption
    | 1, _ => constructor <;> assumption
  · intro k hk
    match k, hk with
    | 0, _ => constructor <;> assumption
    | 1, _ => constructor <;> assumption
  · intro k hk
    match k, hk with
    | 0, _ => refine ⟨?_, ?_, ?_⟩ <;> go_cell
    | 1, _ => refine ⟨?_, ?_, ?_⟩ <;> go_cell

theorem enter_mulq (vs : Array Value) (w : World) : (callFunc 20 vs).run Try.prog w = .ok (.enter 20 vs) w := by kernel_rfl
theorem enter_plus (vs : Array Value) (w : World) : (callFunc 21 vs).run Try.prog w = .ok (.enter 21 vs) w := by kernel_rfl
theorem enter_minus (vs : Array Value) (w : World) : (callFunc 24 vs).run Try.prog w = .ok (.enter 24 vs) w := by kernel_rfl
theorem enter_total (vs : Array Value) (w : World) : (callFunc 19 vs).run Try.prog w = .ok (.enter 19 vs) w := by kernel_rfl
theorem do_3 (a b : Int) : wDo 3 a b = wCut (a + b) := do_two (by decide) (by decide)
theorem do_4 (a b : Int) : wDo 4 a b = wCut (a - b) := do_two (by decide) (by decide)
theorem nrm_do (p0 p1 p2 p3 : Int) : wDo 3 (wDo 3 (wDo 3 (wMulq p0 p0) (wMulq p1 p1)) (wMulq p2 p2)) (wMulq p3 p3) = wNrm p0 p1 p2 p3 := by simp only [do_3]; rfl
end Go.Proofs.Ytdphiobmjdiefaa
