/- Package image: read (what it recovers), Get. -/
import Derived.Test.YtochnjbacglhbaaDoorImgN
import Derived.Defers
import Derived.Recover
namespace Go.Proofs.YtochnjbacglhbaaDoor
open Go.RowKit Go.IntWalk

theorem imgTa (x : Int) (w : World) : Sem.run Tryd.prog (Instr.typeAssert (.iface 31 (.int .i64 x)) 20 31 false) w = .ok (.int .i64 x) w := by kernel_rfl
/-- A reader's fault is recovered, and is the error. -/
theorem imgCatch (p : Addr) (v0 : Value) (x : Int) (older : List PanicEntry) (w : World) (hc : w.cell? p = some v0) (hz : w.frozen? p = false) : CallsD Tryd.prog 42 #[.pointer (some p)] (.panicking ({ v := .iface 31 (.int .i64 x), recovered := false } :: older)) w fun e u' w' =>
    e = .returned (.tuple #[]) ∧ u' = .panicking ({ v := .iface 31 (.int .i64 x), recovered := true } :: older) ∧ w' = w.setCell p (.int .i64 x) := by
  refine callsD_of_wpS Tryd.func42 rfl fun c₀ cs hu => ?_
  apply wpS_seq
  apply wpS_region
  simp [wpOpsS, go_sem, recoverD, hu, Tryd.ntmps42, Exit.thenS]
  apply wpS_seq
  apply wpS_region
  simp [wpOpsS, go_sem, Exit.thenS]
  refine wpS_cond (t := true) (by simp [Act.eval, Array.replicate]) ?_
  simp only [if_true]
  apply wpS_region
  simp [wpOpsS, go_sem, imgTa, hc, hz, bodyPostS, results, Tryd.results42]
theorem imgIdle (p : Addr) (w : World) : CallsD Tryd.prog 42 #[.pointer (some p)] .returning w fun e u' w' => e = .returned (.tuple #[]) ∧ u' = .returning ∧ w' = w := by
  refine callsD_of_wpS Tryd.func42 rfl fun c₀ cs hu => ?_
  apply wpS_seq
  apply wpS_region
  simp [wpOpsS, go_sem, recoverD, hu, Tryd.ntmps42, Exit.thenS]
  apply wpS_seq
  apply wpS_region
  simp [wpOpsS, go_sem, Exit.thenS]
  refine wpS_cond (t := false) (by simp [Act.eval, Array.replicate]) ?_
  simp only [Bool.false_eq_true, if_false]
  refine wpS_of_wp (wp_skip ?_)
  cases c₀
  simp_all [bodyPostS, results, Tryd.results42]
/-- What read has laid ahead of its reading: the image's block Q, the error's E, the reader's R. -/
structure Read0 (w W : World) (R E Q : Nat) (l : List Int) : Prop where
  rd : RaAt w.heap.size W R l
  e : BlkAt E 31 #[.int .i64 0] W
  q : BlkAt Q 27 #[.slice none 0 0, .slice none 0 0, .slice none 0 0, .slice none 0 0, .slice none 0 0] W
  er : ¬ E = R
  qr : ¬ Q = R
  qe : ¬ Q = E
  le : w.heap.size ≤ E
  lq : w.heap.size ≤ Q
  bel : Below w.heap.size w W
/-- What is kept where the reader's block alone is written. -/
structure Read1 (w W : World) (E Q : Nat) : Prop where
  e : BlkAt E 31 #[.int .i64 0] W
  q : BlkAt Q 27 #[.slice none 0 0, .slice none 0 0, .slice none 0 0, .slice none 0 0, .slice none 0 0] W
  qe : ¬ Q = E
  eq : ¬ E = Q
  le : w.heap.size ≤ E
  lq : w.heap.size ≤ Q
  bel : Below w.heap.size w W
theorem ElAt.far {α : Type} [Inhabited α] {K : Kd α} {F : Nat → Prop} {w w' : World} {a : Option Addr} {n c : Nat} {l : List α} (h : ElAt K w a n c l) (k : Keeps F w w') (hn : ∀ b off, a = some ⟨b, off, none⟩ → ¬ F b) : ElAt K w' a n c l := by
  refine ⟨h.len, h.cap, h.big, h.nil, fun h0 => ?_⟩
  obtain ⟨b, off, e, hc⟩ := h.lie h0
  refine ⟨b, off, e, fun i hi j hj => ?_⟩
  have hcc := hc i hi j hj
  have hlt : b < w.heap.size := by
    obtain ⟨u, hu⟩ : ∃ u, (K.enc (el l i))[j]? = some u := ⟨_, List.getElem?_eq_getElem (by rw [K.len]; exact hj)⟩
    rw [hu] at hcc
    exact cell_lt hcc
  rw [← hcc]
  unfold World.cell?
  simp only
  rw [k.block b hlt (hn b off e)]
theorem ImgAt.far {F : Nat → Prop} {V W W' : World} {a0 a1 a2 a3 a4 : Option Addr} {n0 n1 n2 n3 n4 c0 c1 c2 c3 c4 : Nat} {m : Img} (h : ImgAt W a0 n0 c0 a1 n1 c1 a2 n2 c2 a3 n3 c3 a4 n4 c4 m) (k : Keeps F W W') (nw : New5 V a0 a1 a2 a3 a4) (hF : ∀ j, V.heap.size ≤ j → ¬ F j) : ImgAt W' a0 n0 c0 a1 n1 c1 a2 n2 c2 a3 n3 c3 a4 n4 c4 m :=
  ⟨h.code.kept k fun b off e => hF b (nw.a0 b off e), h.data.kept k fun b off e => hF b (nw.a1 b off e), h.sec.far k fun b off e => hF b (nw.a2 b off e), h.inn.kept k fun b off e => hF b (nw.a3 b off e), h.out.kept k fun b off e => hF b (nw.a4 b off e)⟩
theorem New5.mono {V w : World} {a0 a1 a2 a3 a4 : Option Addr} (h : New5 V a0 a1 a2 a3 a4) (k : w.heap.size ≤ V.heap.size) : New5 w a0 a1 a2 a3 a4 :=
  ⟨fun b off e => Nat.le_trans k (h.a0 b off e), fun b off e => Nat.le_trans k (h.a1 b off e), fun b off e => Nat.le_trans k (h.a2 b off e), fun b off e => Nat.le_trans k (h.a3 b off e), fun b off e => Nat.le_trans k (h.a4 b off e)⟩
theorem set_keeps {W W' : World} {b i : Nat} (h : Keeps (fun j => j = b) W W') (v : Value) : Keeps (fun j => j = b) W (W'.setCell ⟨b, i, none⟩ v) := h.next (Keeps.set1 W' b i v) fun _ _ e => e
theorem Read1.done {w W V : World} {E Q : Nat} {x : Int} {a0 a1 a2 a3 a4 : Option Addr} {n0 n1 n2 n3 n4 c0 c1 c2 c3 c4 : Nat} {m : Img} (h : Read1 w W E Q) (im : ImgAt W a0 n0 c0 a1 n1 c1 a2 n2 c2 a3 n3 c3 a4 n4 c4 m) (nw : New5 V a0 a1 a2 a3 a4) (hQ : Q < V.heap.size) (hE : E < V.heap.size) (W5 : World)
    (e : (((((W.setCell ⟨Q, 0, none⟩ (.slice a0 n0 c0)).setCell ⟨Q, 1, none⟩ (.slice a1 n1 c1)).setCell ⟨Q, 2, none⟩ (.slice a2 n2 c2)).setCell ⟨Q, 3, none⟩ (.slice a3 n3 c3)).setCell ⟨Q, 4, none⟩ (.slice a4 n4 c4)).setCell ⟨E, 0, none⟩ (.int .i64 x) = W5) :
    (W5.cell? ⟨Q, 0, none⟩ = some (.slice a0 n0 c0) ∧ W5.cell? ⟨Q, 1, none⟩ = some (.slice a1 n1 c1) ∧ W5.cell? ⟨Q, 2, none⟩ = some (.slice a2 n2 c2) ∧ W5.cell? ⟨Q, 3, none⟩ = some (.slice a3 n3 c3) ∧ W5.cell? ⟨Q, 4, none⟩ = some (.slice a4 n4 c4)) ∧ W5.cell? ⟨E, 0, none⟩ = some (.int .i64 x) ∧ ImgAt W5 a0 n0 c0 a1 n1 c1 a2 n2 c2 a3 n3 c3 a4 n4 c4 m ∧ Below w.heap.size w W5 := by
  subst e
  have k5 := set_keeps (b := Q) (i := 4) (set_keeps (b := Q) (i := 3) (set_keeps (b := Q) (i := 2) (set_keeps (b := Q) (i := 1) (set_keeps (b := Q) (i := 0) (Keeps.refl _ W) (.slice a0 n0 c0)) (.slice a1 n1 c1)) (.slice a2 n2 c2)) (.slice a3 n3 c3)) (.slice a4 n4 c4)
  have hq := (((((h.q.set 0 (.slice a0 n0 c0)).set 1 (.slice a1 n1 c1)).set 2 (.slice a2 n2 c2)).set 3 (.slice a3 n3 c3)).set 4 (.slice a4 n4 c4)).eq (cs' := #[.slice a0 n0 c0, .slice a1 n1 c1, .slice a2 n2 c2, .slice a3 n3 c3, .slice a4 n4 c4]) rfl
  have he := h.e.kept k5 h.eq
  have ke := Keeps.set1 (((((W.setCell ⟨Q, 0, none⟩ (.slice a0 n0 c0)).setCell ⟨Q, 1, none⟩ (.slice a1 n1 c1)).setCell ⟨Q, 2, none⟩ (.slice a2 n2 c2)).setCell ⟨Q, 3, none⟩ (.slice a3 n3 c3)).setCell ⟨Q, 4, none⟩ (.slice a4 n4 c4)) E 0 (.int .i64 x)
  have hq' := hq.kept ke h.qe
  have he' := (he.set 0 (.int .i64 x)).eq (cs' := #[.int .i64 x]) rfl
  exact ⟨⟨hq'.cell 0, hq'.cell 1, hq'.cell 2, hq'.cell 3, hq'.cell 4⟩, he'.cell 0, (im.far k5 nw fun j hj e => by omega).far ke nw (fun j hj e => by omega), (((((h.bel.setCell h.lq _).setCell h.lq _).setCell h.lq _).setCell h.lq _).setCell h.lq _).setCell h.le _⟩
theorem Read0.on {w W W' : World} {R E Q : Nat} {l : List Int} (h : Read0 w W R E Q l) (k : OnlyB R W W') : Read1 w W' E Q := by
  have kk : Keeps (fun j => j = R) W W' := ⟨k.os, k.tape, k.output, k.size, fun j hj hn => k.block j hn hj⟩
  exact ⟨h.e.kept kk h.er, h.q.kept kk h.qr, h.qe, fun e => h.qe e.symm, h.le, h.lq, kk.below h.bel h.bel.size fun j e => e ▸ h.rd.low⟩
theorem Read0.mk' {w : World} {a : Option Addr} {n c : Nat} {l : List Int} (hB : By w a n c l) (hlt : ∀ b off, a = some ⟨b, off, none⟩ → b < w.heap.size) : Read0 w (((w.alloc (.cells #[.slice none 0 0, .slice none 0 0, .slice none 0 0, .slice none 0 0, .slice none 0 0] 27)).alloc (.cells #[.int .i64 0] 31)).alloc (.cells #[.slice a n c] 66)) (w.heap.size + 1 + 1) (w.heap.size + 1) w.heap.size l := by
  have k1 := (Below.refl w.heap.size w).alloc (Nat.le_refl _) (.cells #[.slice none 0 0, .slice none 0 0, .slice none 0 0, .slice none 0 0, .slice none 0 0] 27)
  have k2 := k1.alloc k1.size (.cells #[.int .i64 0] 31)
  have k3 := k2.alloc k2.size (.cells #[.slice a n c] 66)
  refine ⟨⟨⟨a, n, c, BlkAt.newb _ _ _ (by simp), hB.keep k3 (Nat.le_refl _), hlt⟩, by omega⟩, (BlkAt.newb _ _ _ (by simp)).keep ((Below.refl _ _).alloc (Nat.le_refl _) _), ((BlkAt.new w _ _).keep ((Below.refl _ _).alloc (Nat.le_refl _) _)).keep ((Below.refl _ _).alloc (Nat.le_refl _) _), by omega, by omega, by omega, by omega, by omega, k3⟩
/-- What read answers: the image of all, or the fault. -/
def ReadTo (w : World) (l : List Int) (e : Ending) (w' : World) : Prop :=
  (∃ m a0 n0 c0 a1 n1 c1 a2 n2 c2 a3 n3 c3 a4 n4 c4, pAll l = .ok (m, []) ∧ e = .returned (.tuple #[.agg #[.slice a0 n0 c0, .slice a1 n1 c1, .slice a2 n2 c2, .slice a3 n3 c3, .slice a4 n4 c4], .int .i64 0]) ∧ ImgAt w' a0 n0 c0 a1 n1 c1 a2 n2 c2 a3 n3 c3 a4 n4 c4 m ∧ New5 w a0 a1 a2 a3 a4 ∧ Below w.heap.size w w') ∨
    ∃ x, pAll l = .error x ∧ e = .returned (.tuple #[.agg #[.slice none 0 0, .slice none 0 0, .slice none 0 0, .slice none 0 0, .slice none 0 0], .int .i64 x]) ∧ Below w.heap.size w w'
set_option maxRecDepth 100000 in
set_option maxHeartbeats 2000000 in
theorem imgRead_is {w : World} {a : Option Addr} {n c : Nat} {l : List Int} (hB : By w a n c l) (hlt : ∀ b off, a = some ⟨b, off, none⟩ → b < w.heap.size) : Calls Tryd.prog 20 #[.slice a n c] w (ReadTo w l) := by
  have hmf : ∀ (fn : Fn) (first cap : Array Value) (w : World), (Instr.makeFunc fn first cap).run Tryd.prog w = .ok (.func fn first cap) w := fun _ _ _ _ => rfl
  have HB := Lib.hid hB
  have HT := Lib.hid hlt
  clear hB hlt
  go_enter_defers Tryd.func20, Tryd.ntmps20
  go_upto_region 3 with (fail)
  have L := Lib.hid (Read0.mk' HB.out HT.out)
  generalize ((w.alloc (.cells #[.slice none 0 0, .slice none 0 0, .slice none 0 0, .slice none 0 0, .slice none 0 0] 27)).alloc (.cells #[.int .i64 0] 31)).alloc (.cells #[.slice a n c] 66) = W0 at L ⊢
  obtain ⟨R, hR⟩ : ∃ R, w.heap.size + 1 + 1 = R := ⟨_, rfl⟩
  obtain ⟨E, hE⟩ : ∃ E, w.heap.size + 1 = E := ⟨_, rfl⟩
  obtain ⟨Q, hQ⟩ : ∃ Q, w.heap.size = Q := ⟨_, rfl⟩
  have L2 := Lib.hid (show Read0 w W0 R E Q l by rw [← hR, ← hE, ← hQ]; exact L.out)
  simp only [hR]
  simp only [hE]
  simp only [hQ]
  clear hR hE hQ L
  go_wp2_with (go_at_call 43; ((with_reducible refine (imgImage_is L2.out.rd).mono ?_); rintro e w1 (⟨m, a0, n0, c0, a1, n1, c1, a2, n2, c2, a3, n3, c3, a4, n4, c4, hq, rfl, im, nw, k⟩ | ⟨x, hq, rfl, k⟩)); rotate_left; (have M := L2.out.on k; have z0 := M.q.cell 0; have z1 := M.q.cell 1; have z2 := M.q.cell 2; have z3 := M.q.cell 3; have z4 := M.q.cell 4; have hne := M.qe; have pe := ((M.e.set 0 (.int .i64 x)).eq (cs' := #[.int .i64 x]) rfl).cell 0; refine leaves_cons (f := 42) (args := #[.pointer (some ⟨E, 0, none⟩)]) (by simp) (by simp [go_sem]) ?_; refine (imgCatch ⟨E, 0, none⟩ _ x [] _ (M.e.cell 0) (M.e.free 0)).mono ?_; rintro e u' w'' ⟨rfl, rfl, rfl⟩; simp [Leaves, settle, results, Tryd.results20, go_sem, z0, z1, z2, z3, z4, pe]; exact .inr ⟨x, hq, rfl, M.bel.setCell M.le _⟩); have M := L2.out.on k; have z0 := M.q.cell 0; have z1 := M.q.cell 1; have z2 := M.q.cell 2; have z3 := M.q.cell 3; have z4 := M.q.cell 4; have f0 := M.q.free 0; have f1 := M.q.free 1; have f2 := M.q.free 2; have f3 := M.q.free 3; have f4 := M.q.free 4; have ze := M.e.cell 0; have fe := M.e.free 0; have hne := M.qe; have hen := M.eq; have HI := Lib.hid im; have HM := Lib.hid M; have HQ := Lib.hid hq; have HDN := Lib.hid (M.done (x := 0) im nw (cell_lt (L2.out.q.cell 0)) (cell_lt (L2.out.e.cell 0)) _ rfl); have HN := Lib.hid (nw.mono L2.out.bel.size); clear M im nw hq k)
  have hB := HDN.out
  generalize (((((w1.setCell ⟨Q, 0, none⟩ (.slice a0 n0 c0)).setCell ⟨Q, 1, none⟩ (.slice a1 n1 c1)).setCell ⟨Q, 2, none⟩ (.slice a2 n2 c2)).setCell ⟨Q, 3, none⟩ (.slice a3 n3 c3)).setCell ⟨Q, 4, none⟩ (.slice a4 n4 c4)).setCell ⟨E, 0, none⟩ (.int .i64 0) = W5 at hB ⊢
  obtain ⟨⟨p0, p1, p2, p3, p4⟩, p5, im, pb⟩ := hB
  refine leaves_cons (f := 42) (args := #[.pointer (some ⟨E, 0, none⟩)]) (by simp) (by simp [go_sem]) ?_
  refine (imgIdle ⟨E, 0, none⟩ _).mono ?_
  rintro e u' w'' ⟨rfl, rfl, rfl⟩
  simp [Leaves, settle, results, Tryd.results20, go_sem, p0, p1, p2, p3, p4, p5]
  exact .inl ⟨_, _, _, _, _, _, _, _, _, _, _, _, _, _, _, _, HQ.out, rfl, im, HN.out, pb⟩
end Go.Proofs.YtochnjbacglhbaaDoor
