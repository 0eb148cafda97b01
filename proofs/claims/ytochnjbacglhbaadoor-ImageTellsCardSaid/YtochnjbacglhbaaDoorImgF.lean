/- The document's own images (astrolaberef22): Get. -/
import Derived.Test.YtochnjbacglhbaaDoorImgG
import Derived.BigRegion
import Derived.Deep.RegionLaw
import Derived.Deep.DeepCutAuto
namespace Go.Proofs.YtochnjbacglhbaaDoor
open Go.RowKit Go.IntWalk
theorem infoU32G : (Tryd.prog.info? 43).map (fun i => (i.zero, i.size, i.bytes)) = some (some (.int .u32 0), 1, 4) := by kernel_rfl
theorem numS_bd {k : Nat} {s : Rs} (h : Bd8 s.1) : 0 ≤ (numS k s).1 ∧ (numS k s).1 < 256 ^ k := by
  have hp : (0 : Int) < 256 ^ k := Int.pow_pos (by decide)
  unfold numS
  split
  · exact ⟨Int.le_refl _, hp⟩
  · split
    · exact ⟨Int.le_refl _, hp⟩
    · exact beV_bd k _ (h.take k) (by rw [List.length_take]; omega)
theorem RdAt.bd {B R : Nat} {W : World} {l : List Int} {e : Int} (h : RdAt B W R l e) : Bd8 l := by
  obtain ⟨a, n, c, -, hB, -⟩ := h.ex
  exact hB.bd
theorem GtAt.new (V : World) {a : Option Addr} {n c : Nat} {o : List Int} (hB : By V a n c o) (hlt : ∀ b off, a = some ⟨b, off, none⟩ → b < V.heap.size) : GtAt V ((V.alloc (.cells #[.slice a n c, .int .i64 0] 47)).alloc (.cells #[.slice none 0 0, .slice none 0 0, .slice none 0 0, .slice none 0 0, .slice none 0 0] 27)) V.heap.size (V.heap.size + 1) (o, 0) (.slice none 0 0) (.slice none 0 0) (.slice none 0 0) (.slice none 0 0) (.slice none 0 0) img0 := by
  have k1 := (Below.refl V.heap.size V).alloc (Nat.le_refl _) (.cells #[.slice a n c, .int .i64 0] 47)
  have k := k1.alloc k1.size (.cells #[.slice none 0 0, .slice none 0 0, .slice none 0 0, .slice none 0 0, .slice none 0 0] 27)
  refine ⟨BlkAt.newb _ _ _ (by simp), OwnW.nil _ _ _, OwnW.nil _ _ _, OwnEl.nil _ _ _ _, OwnW.nil _ _ _, OwnW.nil _ _ _, (fun j q => by cases q), ⟨⟨a, n, c, ?_, hB.keep k (Nat.le_refl _), hlt⟩, Nat.le_refl _⟩, by omega, by omega, k⟩
  exact (BlkAt.new V _ _).keep ((Below.refl _ _).alloc (Nat.le_refl _) _)
/-- 'append(v, x)' at a step of a region that draws its order. -/
theorem step_append_n {κ : IntKind} {P : Program} {w : World} {ops : Array Oper} {o : Oper} {a : Act} {K : Act → World → Prop} {Q : Exit → Act → World → Prop} {E : Prop} (hgd : Region.wanted o (yielded ops a.tmps) = true) (s x : Operand) (t : TypeId)
    (ho : o.op = .call { callee := .builtin .append, args := #[s, x], argTypes := #[t, t] })
    (base : Nat) (e : TypeId) (i : TypeInfo) (z : Value) (ht : P.underlying t = some (.slice e)) (hi : P.info? e = some i) (hz : i.zero = some z)
    (hsize : i.size = 1) (hby : i.bytes ≤ 1000) (hzs : z.cells.size = 1) {v : Value} {l : List Int} (hs : a.eval s = v) (hown : OwnW κ w base e v l) {b c : Nat} {u : Int} (hx : a.eval x = .slice (some ⟨b, 0, none⟩) 1 c) (hu : w.cell? ⟨b, 0, none⟩ = some (.int κ u))
    (hlen : l.length + 1 ≤ 1048576) (hbase : base ≤ w.heap.size)
    (h : ∀ v' w', OwnW κ w' base e v' (l ++ [u]) → w.grownBy w' v.ownBlock → Nexts w v v' → K (a.put o.dst v') w') : if Region.wanted o (yielded ops a.tmps) = true then Oper.wp P o a w K Q else E := by
  rw [if_pos hgd]
  obtain ⟨v', w', hr, h2, h3, h4⟩ := run_append_next (P := P) w base t o.type e i z i.bytes ht hi hz hsize rfl hzs v l.length (l.map (Value.int κ)) hown ⟨b, 0, none⟩ c (.int κ u) hu rfl (by unfold maxLen; omega) (by
    have := Nat.mul_le_mul hlen hby
    omega) hbase
  unfold Oper.wp execOp
  simp only [ho, resolve, invoke, builtin, Sem.run_bind, Sem.run_pure, Result.andThen_ok, List.map_toArray, List.map_cons, List.map_nil, hs, hx, hr]
  refine h v' w' ?_ h3 ?_
  · unfold OwnW
    rw [List.length_append, List.length_singleton, List.map_append]
    exact h2
  · intro j q
    rcases h4 with h4 | h4
    · exact .inl (h4 ▸ q)
    · rw [h4] at q
      exact .inr (by injection q with q; omega)
/-- A struct of five cells is stored. -/
def ImIn (b : Nat) (x0 x1 x2 x3 x4 : Value) (B0 : Nat) (w W : World) : Prop := (W.cell? ⟨b, 0, none⟩ = some x0 ∧ W.cell? ⟨b, 1, none⟩ = some x1 ∧ W.cell? ⟨b, 2, none⟩ = some x2 ∧ W.cell? ⟨b, 3, none⟩ = some x3 ∧ W.cell? ⟨b, 4, none⟩ = some x4) ∧ Below B0 w W
theorem im_put {b B0 : Nat} {T : TypeId} {w W : World} {x0 x1 x2 x3 x4 : Value} (h : BlkAt b T #[x0, x1, x2, x3, x4] W) (hb : Below B0 w W) (hB : B0 ≤ b) (y0 y1 y2 y3 y4 : Value) : ImIn b y0 y1 y2 y3 y4 B0 w (((((W.setCell ⟨b, 0, none⟩ y0).setCell ⟨b, 1, none⟩ y1).setCell ⟨b, 2, none⟩ y2).setCell ⟨b, 3, none⟩ y3).setCell ⟨b, 4, none⟩ y4) := by
  have k : BlkAt b T #[y0, y1, y2, y3, y4] (((((W.setCell ⟨b, 0, none⟩ y0).setCell ⟨b, 1, none⟩ y1).setCell ⟨b, 2, none⟩ y2).setCell ⟨b, 3, none⟩ y3).setCell ⟨b, 4, none⟩ y4) := (((((h.set 0 y0).set 1 y1).set 2 y2).set 3 y3).set 4 y4).eq rfl
  exact ⟨⟨k.cell 0, k.cell 1, k.cell 2, k.cell 3, k.cell 4⟩, ((((hb.setCell hB _).setCell hB _).setCell hB _).setCell hB _).setCell hB _⟩
section
variable {w : World} {a : Option Addr} {n c : Nat} {l : List Int}
set_option maxRecDepth 100000 in
set_option maxHeartbeats 2000000 in
theorem refGet22_no (hB : By w a n c l) (hn : n ≤ 140737488355000) (he : (openOf l).2 ≠ 0) : Calls Tryd.prog 11 #[.slice a n c] w fun e w' => e = .returned (.tuple #[.agg #[.slice none 0 0, .slice none 0 0, .slice none 0 0, .slice none 0 0, .slice none 0 0], .int .i64 (openOf l).2]) ∧ Below w.heap.size w w' := by
  have al := (Below.refl w.heap.size w).alloc (Nat.le_refl _) (.cells #[.slice none 0 0, .slice none 0 0, .slice none 0 0, .slice none 0 0, .slice none 0 0] 27)
  have AL := Lib.hid al
  have K := Lib.hid (fun W (k : Below w.heap.size w W) => refCrcOpen_is a n c l W (hB.keep k (Nat.le_refl _)) hn)
  obtain ⟨x, hx⟩ : ∃ x, (openOf l).2 = x := ⟨_, rfl⟩
  rw [hx] at he K ⊢
  have bz := BlkAt.new w 27 #[.slice none 0 0, .slice none 0 0, .slice none 0 0, .slice none 0 0, .slice none 0 0]
  clear hx al
  go_enter Tryd.func11, Tryd.ntmps11
  go_wp2_with (go_at_call 21; ((with_reducible refine (K.out _ AL.out).mono ?_); rintro e w1 ⟨v1, rfl, ho, hb⟩); have BQ := bz.keep hb; have z0 := BQ.cell 0; have z1 := BQ.cell 1; have z2 := BQ.cell 2; have z3 := BQ.cell 3; have z4 := BQ.cell 4; have f0 := BQ.free 0; have f1 := BQ.free 1; have f2 := BQ.free 2; have f3 := BQ.free 3; have f4 := BQ.free 4)
  have hB := im_put BQ (AL.out.trans (hb.mono AL.out.size)) (Nat.le_refl _) (.slice none 0 0) (.slice none 0 0) (.slice none 0 0) (.slice none 0 0) (.slice none 0 0)
  generalize ((((w1.setCell ⟨w.heap.size, 0, none⟩ (.slice none 0 0)).setCell ⟨w.heap.size, 1, none⟩ (.slice none 0 0)).setCell ⟨w.heap.size, 2, none⟩ (.slice none 0 0)).setCell ⟨w.heap.size, 3, none⟩ (.slice none 0 0)).setCell ⟨w.heap.size, 4, none⟩ (.slice none 0 0) = W5 at hB ⊢
  obtain ⟨⟨p0, p1, p2, p3, p4⟩, pb⟩ := hB
  exact bodyPost_ret (v := .tuple #[.agg #[.slice none 0 0, .slice none 0 0, .slice none 0 0, .slice none 0 0, .slice none 0 0], .int .i64 x]) (by simp [results, Tryd.results11, go_sem, p0, p1, p2, p3, p4]) rfl ⟨rfl, pb⟩
end
end Go.Proofs.YtochnjbacglhbaaDoor
