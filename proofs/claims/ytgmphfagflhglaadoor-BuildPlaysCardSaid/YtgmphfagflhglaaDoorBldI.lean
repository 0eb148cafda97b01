/- Layer 21's law: does, on both builders. -/
import Derived.Test.YtgmphfagflhglaaDoorBldH
import Derived.Test.YtgmphfagflhglaaDoorSeq
namespace Go.Proofs.YtgmphfagflhglaaDoor
open Go.RowKit Go.Maps Go.IntWalk

/-- What does leaves: where it stopped, and both builders alike. -/
def DoesTo (B t b d x n i depth : Nat) (F1 F2 : Nat → Prop) (w : World) (e : Ending) (w' : World) : Prop :=
  ∃ (m : Nat) (s' : Bst) (G1 G2 : Nat → Prop), e = .returned (.int .i64 m) ∧ i ≤ m ∧ m ≤ n ∧ TwoIn B w' t b d x s' s' G1 G2 ∧ Grow2 t F1 F2 w G1 G2 w' ∧ Inv s' m depth
/-- The boxes of an activation: what it was handed. -/
structure DoBox (q : Nat) (t : Nat) (a : Option Addr) (n c m depth : Nat) (w : World) : Prop where
  b0 : BlkAt q 28 #[.pointer (some ⟨t, 0, none⟩)] w
  b1 : BlkAt (q + 1) 22 #[.slice a n c] w
  b2 : BlkAt (q + 2) 3 #[.int .i64 m] w
  b3 : BlkAt (q + 3) 3 #[.int .i64 depth] w
def BoxQ (q : Nat) : Nat → Prop := fun j => q ≤ j ∧ j < q + 4
structure DoW (B t b d x n c i depth : Nat) (a : Option Addr) (l : List Ab) (F1 F2 : Nat → Prop) (w wr : World) (m : Nat) (s : Bst) (G1 G2 : Nat → Prop) : Prop where
  lo : i ≤ m
  hi : m ≤ n
  box : DoBox w.heap.size t a n c m depth wr
  two : TwoIn B wr t b d x s s G1 G2
  grow : Grow2 t F1 F2 w G1 G2 wr
  inv : Inv s m depth
  off : Off t G1 G2 wr (BoxQ w.heap.size)
theorem DoBox.keep {q t n c m depth : Nat} {a : Option Addr} {w w' : World} (h : DoBox q t a n c m depth w) (k : Below w.heap.size w w') : DoBox q t a n c m depth w' := ⟨h.b0.keep k, h.b1.keep k, h.b2.keep k, h.b3.keep k⟩
theorem DoBox.kept {q t n c m depth : Nat} {a : Option Addr} {w w' : World} {F1 F2 G1 G2 H : Nat → Prop} (h : DoBox q t a n c m depth w) (o : Off t F1 F2 w (fun j => BoxQ q j ∨ H j)) (g : Grow2 t F1 F2 w G1 G2 w') : DoBox q t a n c m depth w' :=
  ⟨o.blk g (.inl ⟨by omega, by omega⟩) h.b0, o.blk g (.inl ⟨by omega, by omega⟩) h.b1, o.blk g (.inl ⟨by omega, by omega⟩) h.b2, o.blk g (.inl ⟨by omega, by omega⟩) h.b3⟩
theorem DoBox.off {q t n c m depth p : Nat} {a : Option Addr} {w : World} (h : DoBox q t a n c m depth w) (hp : q + 4 ≤ p) (k : Nat) (v : Value) : DoBox q t a n c m depth (w.setCell ⟨p, k, none⟩ v) := by
  have e := Keeps.set1 w p k v
  exact ⟨h.b0.kept e (by omega), h.b1.kept e (by omega), h.b2.kept e (by omega), h.b3.kept e (by omega)⟩
theorem DoBox.put {q t n c m m' depth : Nat} {a : Option Addr} {w : World} (h : DoBox q t a n c m depth w) : DoBox q t a n c m' depth (w.setCell ⟨q + 2, 0, none⟩ (.int .i64 m')) := by
  have e := Keeps.set1 w (q + 2) 0 (.int .i64 m')
  exact ⟨h.b0.kept e (by omega), h.b1.kept e (by omega), (h.b2.set 0 _).eq rfl, h.b3.kept e (by omega)⟩
def atOf (q : Nat) (w : World) : Nat := match w.cell? ⟨q, 0, none⟩ with | some (.int _ v) => v.toNat | _ => 0
theorem DoBox.at {q t n c m depth : Nat} {a : Option Addr} {w : World} (h : DoBox q t a n c m depth w) : atOf (q + 2) w = m := by
  unfold atOf
  rw [h.b2.cell 0]
  show ((m : Int)).toNat = m
  simp
theorem DoBox.new (w : World) (t : Nat) (a : Option Addr) (n c i depth : Nat) : DoBox w.heap.size t a n c i depth ((((w.alloc (.cells #[.pointer (some ⟨t, 0, none⟩)] 28)).alloc (.cells #[.slice a n c] 22)).alloc (.cells #[.int .i64 i] 3)).alloc (.cells #[.int .i64 depth] 3)) := by
  have e1 : (w.alloc (.cells #[.pointer (some ⟨t, 0, none⟩)] 28)).heap.size = w.heap.size + 1 := by simp
  have e2 : ((w.alloc (.cells #[.pointer (some ⟨t, 0, none⟩)] 28)).alloc (.cells #[.slice a n c] 22)).heap.size = w.heap.size + 2 := by simp
  have e3 : (((w.alloc (.cells #[.pointer (some ⟨t, 0, none⟩)] 28)).alloc (.cells #[.slice a n c] 22)).alloc (.cells #[.int .i64 i] 3)).heap.size = w.heap.size + 3 := by simp
  have k := fun (W : World) (o : Obj) => (Below.refl W.heap.size W).alloc (Nat.le_refl _) o
  exact ⟨(((BlkAt.new w _ _).keep (k _ _)).keep (k _ _)).keep (k _ _), ((BlkAt.newb _ _ _ e1).keep (k _ _)).keep (k _ _), (BlkAt.newb _ _ _ e2).keep (k _ _), BlkAt.newb _ _ _ e3⟩
theorem ElAt.ab {w : World} {a : Option Addr} {n c : Nat} {l : List Ab} (h : ElAt abK w a n c l) {i : Nat} (hi : i < n) {k : Int} {j : I5} {nm : ByteArray} {p q z : Int} (e : el l i = (k, j, nm, p, q, z)) : ∃ b off, a = some ⟨b, off, none⟩ ∧ w.cell? ⟨b, off + i * 10, none⟩ = some (.int .i64 k) ∧ w.cell? ⟨b, off + i * 10 + 1, none⟩ = some (.int .i64 j.1) ∧ w.cell? ⟨b, off + i * 10 + 2, none⟩ = some (.int .i64 j.2.1) ∧
    w.cell? ⟨b, off + i * 10 + 3, none⟩ = some (.int .i64 j.2.2.1) ∧ w.cell? ⟨b, off + i * 10 + 4, none⟩ = some (.int .i64 j.2.2.2.1) ∧ w.cell? ⟨b, off + i * 10 + 5, none⟩ = some (.int .i64 j.2.2.2.2) ∧ w.cell? ⟨b, off + i * 10 + 6, none⟩ = some (.string nm) ∧ w.cell? ⟨b, off + i * 10 + 7, none⟩ = some (.int .i64 p) ∧ w.cell? ⟨b, off + i * 10 + 8, none⟩ = some (.int .i64 q) ∧ w.cell? ⟨b, off + i * 10 + 9, none⟩ = some (.int .i32 z) := by
  obtain ⟨b, off, e1, hc⟩ := h.two hi
  rw [e] at hc
  exact ⟨b, off, e1, hc 0 (by decide), hc 1 (by decide), hc 2 (by decide), hc 3 (by decide), hc 4 (by decide), hc 5 (by decide), hc 6 (by decide), hc 7 (by decide), hc 8 (by decide), hc 9 (by decide)⟩
section
variable {B t b d x n c : Nat} {a : Option Addr} {l : List Ab}
/-- An act is read: its own box, the place behind it. -/
theorem DoW.next {i depth m : Nat} {F1 F2 G1 G2 : Nat → Prop} {w wr : World} {s : Bst} {cs : Array Value} {T : TypeId} (h : DoW B t b d x n c i depth a l F1 F2 w wr m s G1 G2) (hm : m < n) :
    DoW B t b d x n c i depth a l F1 F2 w ((wr.setCell ⟨w.heap.size + 1 + 1, 0, none⟩ (.int .i64 ((m : Int) + 1))).alloc (.cells cs T)) (m + 1) s G1 G2 ∧ BlkAt wr.heap.size T cs ((wr.setCell ⟨w.heap.size + 1 + 1, 0, none⟩ (.int .i64 ((m : Int) + 1))).alloc (.cells cs T)) ∧
    Off t G1 G2 ((wr.setCell ⟨w.heap.size + 1 + 1, 0, none⟩ (.int .i64 ((m : Int) + 1))).alloc (.cells cs T)) (fun j => BoxQ w.heap.size j ∨ j = wr.heap.size) := by
  have hq : BoxQ w.heap.size (w.heap.size + 2) := ⟨by omega, by omega⟩
  have k1 := Keeps.set1 wr (w.heap.size + 1 + 1) 0 (.int .i64 ((m : Int) + 1))
  have hs : (wr.setCell ⟨w.heap.size + 1 + 1, 0, none⟩ (.int .i64 ((m : Int) + 1))).heap.size = wr.heap.size := by simp [World.setCell]
  have k2 := (Below.refl (wr.setCell ⟨w.heap.size + 1 + 1, 0, none⟩ (.int .i64 ((m : Int) + 1))).heap.size (wr.setCell ⟨w.heap.size + 1 + 1, 0, none⟩ (.int .i64 ((m : Int) + 1)))).alloc (Nat.le_refl _) (.cells cs T)
  have bb := h.box
  refine ⟨⟨by have := h.lo; omega, hm, ⟨(bb.b0.kept k1 (by omega)).keep k2, (bb.b1.kept k1 (by omega)).keep k2, ((bb.b2.set 0 (.int .i64 ((m : Int) + 1))).eq rfl).keep k2, (bb.b3.kept k1 (by omega)).keep k2⟩, (h.two.box (h.off.not hq) 0 _).keep k2, (h.grow.box (by omega) 0 _).trans (Grow2.below k2), h.inv.skip, fun j q => ?_⟩, BlkAt.newb _ _ _ hs, fun j q => ?_⟩
  · obtain ⟨q1, q2, q3, q4⟩ := h.off j q
    exact ⟨q1, q2, q3, by simp; omega⟩
  · rcases q with q | q
    · obtain ⟨q1, q2, q3, q4⟩ := h.off j q
      exact ⟨q1, q2, q3, by simp; omega⟩
    · subst q
      obtain ⟨q1, q2, q3⟩ := h.two.fresh (Nat.le_refl _)
      exact ⟨q1, q2, q3, by simp⟩
theorem DoW.after {i depth m : Nat} {F1 F2 G1 G2 H1 H2 : Nat → Prop} {w wr w' : World} {s s' : Bst} (h : DoW B t b d x n c i depth a l F1 F2 w wr m s G1 G2) (g : Grow2 t G1 G2 wr H1 H2 w') (k : TwoIn B w' t b d x s' s' H1 H2) (v : Inv s' m depth) : DoW B t b d x n c i depth a l F1 F2 w w' m s' H1 H2 :=
  ⟨h.lo, h.hi, h.box.kept (H := fun _ => False) (h.off.mono fun _ q => q.elim id False.elim) g, k, h.grow.trans g, v, h.off.next g⟩
theorem DoW.room {i depth m : Nat} {F1 F2 G1 G2 : Nat → Prop} {w wr : World} {s : Bst} (h : DoW B t b d x n c i depth a l F1 F2 w wr m s G1 G2) : w.heap.size + 4 ≤ wr.heap.size := h.box.b3.lt
/-- A loop's inside is done: both builders alike but for the loop's end, which the document's has; the boxes. -/
structure LoopIn (B t b d x n c q ba be bi i depth : Nat) (a : Option Addr) (cs : Array Value) (rc rl : Int) (nm : ByteArray) (F1 F2 : Nat → Prop) (w w2 : World) (s2 : Bst) (H1 : Nat → Prop) (m2 : Nat) (H2 : Nat → Prop) : Prop where
  two : TwoIn B w2 t b d x s2 (s2.shuts rc rl nm) H1 H2
  grow : Grow2 t F1 F2 w H1 H2 w2
  box : DoBox q t a n c m2 depth w2
  act : BlkAt ba 27 cs w2
  eb : BlkAt be 42 #[.int .i64 0] w2
  ti : BlkAt bi 3 #[.int .i64 1] w2
  inv : Inv s2 m2 (depth + 1)
  lo : i ≤ m2
  hi : m2 ≤ n
  off : Off t H1 H2 w2 (fun j => BoxQ q j ∨ j = ba ∨ j = be ∨ j = bi)
def LoopR (B t b d x n c q ba be bi i depth : Nat) (a : Option Addr) (cs : Array Value) (rc rl : Int) (nm : ByteArray) (F1 F2 : Nat → Prop) (w : World) (w2 : World) (s2 : Bst) (H1 : Nat → Prop) : Prop := ∃ m2 H2, LoopIn B t b d x n c q ba be bi i depth a cs rc rl nm F1 F2 w w2 s2 H1 m2 H2
set_option maxRecDepth 100000 in
set_option maxHeartbeats 4000000 in
theorem does1_is (q ba be bi i depth : Nat) (kd io id ia ib iN rc rl rn : Int) (nm : ByteArray) (so : Bst) (F1 F2 H1 H2 : Nat → Prop) (w w1 : World) (hn : n ≤ 60) (hd : depth ≤ 5) (hi : i ≤ n) (hL : ElAt abK w1 a n c l) (hla : ∀ la off, a = some ⟨la, off, none⟩ → la < B) (hg : 1 < B) (hB : B ≤ w1.heap.size) (hBw : B ≤ w.heap.size) (hq : w.heap.size ≤ q)
    (h : TwoIn B w1 t b d x so so H1 H2) (hS : ShapesLaid w1) (hI : Inv so i (depth + 1)) (hbx : DoBox q t a n c i depth w1)
    (hact : BlkAt ba 27 #[.int .i64 kd, .int .i64 io, .int .i64 id, .int .i64 ia, .int .i64 ib, .int .i64 iN, .string nm, .int .i64 rc, .int .i64 rl, .int .i32 rn] w1) (heb : BlkAt be 42 #[.int .i64 0] w1) (hti : BlkAt bi 3 #[.int .i64 0] w1)
    (ho : Off t H1 H2 w1 (fun j => BoxQ q j ∨ j = ba ∨ j = be ∨ j = bi)) (o1 : q + 4 ≤ ba) (o2 : ba < be) (o3 : be < bi) (hgr : Grow2 t F1 F2 w H1 H2 w1) (hc : 0 ≤ rc ∧ rc ≤ 31) (hs : nm.size ≤ maxLen)
    (hrec : ∀ i' s' G1 G2 w', i' ≤ n → ElAt abK w' a n c l → B ≤ w'.heap.size → TwoIn B w' t b d x s' s' G1 G2 → ShapesLaid w' → Inv s' i' (depth + 1) → Calls Tryd.prog 6 #[.pointer (some ⟨t, 0, none⟩), .slice a n c, .int .i64 i', .int .i64 ((depth : Int) + 1)] w' (DoesTo B t b d x n i' (depth + 1) G1 G2 w')) :
    Calls Tryd.prog 24 #[.pointer (some ⟨bi, 0, none⟩), .pointer (some ⟨q, 0, none⟩), .pointer (some ⟨q + 1, 0, none⟩), .pointer (some ⟨q + 2, 0, none⟩), .pointer (some ⟨q + 3, 0, none⟩), .pointer (some ⟨be, 0, none⟩), .pointer (some ⟨ba, 0, none⟩)] w1
      fun e w2 => e = .returned (.tuple #[]) ∧ ∃ s2 K1, LoopR B t b d x n c q ba be bi i depth a #[.int .i64 kd, .int .i64 io, .int .i64 id, .int .i64 ia, .int .i64 ib, .int .i64 iN, .string nm, .int .i64 rc, .int .i64 rl, .int .i32 rn] rc rl nm F1 F2 w w2 s2 K1 := by
  -- the count is one
  have kt := Keeps.set1 w1 bi 0 (.int .i64 1)
  have nbi : ¬ Own2 H1 H2 t bi := ho.not (.inr (.inr (.inr rfl)))
  have hsz : (w1.setCell ⟨bi, 0, none⟩ (.int .i64 1)).heap.size = w1.heap.size := by simp [World.setCell]
  have T2 := h.box nbi 0 (.int .i64 1)
  have X2 := hbx.off (p := bi) (by omega) 0 (.int .i64 1)
  have A2 := hact.kept kt (by omega)
  have E2 := heb.kept kt (by omega)
  have I2 : BlkAt bi 3 #[.int .i64 1] (w1.setCell ⟨bi, 0, none⟩ (.int .i64 1)) := (hti.set 0 (.int .i64 1)).eq rfl
  have O2 : Off t H1 H2 (w1.setCell ⟨bi, 0, none⟩ (.int .i64 1)) (fun j => BoxQ q j ∨ j = ba ∨ j = be ∨ j = bi) := fun j r => by
    obtain ⟨r1, r2, r3, r4⟩ := ho j r
    exact ⟨r1, r2, r3, by omega⟩
  have hbi : w.heap.size ≤ bi := by omega
  have G2 := hgr.box hbi 0 (.int .i64 1)
  have hlb : ∀ la off, a = some ⟨la, off, none⟩ → ¬ la = bi := fun la off e => by have := hla la off e; omega
  have L2 := hL.kept kt fun la off e => hlb la off e
  have S2 := hS.below ((Below.refl B w1).setCell (p := ⟨bi, 0, none⟩) (show B ≤ bi by omega) (.int .i64 1)) hg
  have D2 := Lib.hid (hrec i so H1 H2 _ hi L2 (by rw [hsz]; exact hB) T2 S2 hI)
  have c0 := hti.cell 0
  have f0 := hti.free 0
  have HRB := Lib.hid (fun w3 s2 (K2 : Nat → Prop) (k : RbAt B w3 x s2 K2) (k2 : B ≤ w3.heap.size) (k3 : Inv s2 n (depth + 1)) => refBClose_is B x s2 K2 rc rl nm w3 k hs (by have := k3.nL; omega) (by have := k3.nu; omega) k2 hc)
  have hTB := Lib.hid (h.tb)
  clear hrec h hbx hact heb hti ho hgr hI hS hL hlb kt nbi hsz
  go_enter Tryd.func24, Tryd.ntmps24
  go_upto_region 1 with (fail)
  obtain ⟨W2, hW2⟩ : ∃ W, w1.setCell ⟨bi, 0, none⟩ (.int .i64 1) = W := ⟨_, rfl⟩
  rw [hW2] at T2 X2 A2 E2 I2 O2 G2 L2 S2 D2
  rw [hW2]
  clear c0 f0 hW2 L2
  have g0 := I2.cell 0
  have b0 := X2.b0.cell 0
  have b1 := X2.b1.cell 0
  have b2 := X2.b2.cell 0
  have b3 := X2.b3.cell 0
  have e0 := E2.cell 0
  have f2 := X2.b2.free 0
  have hw : wrap64 ((depth : Int) + 1) = (depth : Int) + 1 := by unfold wrap64; omega
  have T2 := Lib.hid T2
  have X2 := Lib.hid X2
  have A2 := Lib.hid A2
  have E2 := Lib.hid E2
  have I2 := Lib.hid I2
  have O2 := Lib.hid O2
  have G2 := Lib.hid G2
  go_upto_region 3 with (go_at_call 6; ((with_reducible refine (D2.out).mono ?_); rintro e w3 ⟨m2, s2, K1, K2, rfl, l1, l2, h3, g3, v3⟩); have T3 := Lib.hid h3; have Q3 := Lib.hid g3; have X3 := Lib.hid (X2.out.kept O2.out g3); have A3 := Lib.hid (O2.out.blk g3 (.inr (.inl rfl)) A2.out); have E3 := Lib.hid (O2.out.blk g3 (.inr (.inr (.inl rfl))) E2.out); have I3 := Lib.hid (O2.out.blk g3 (.inr (.inr (.inr rfl))) I2.out); have O3 := Lib.hid (O2.out.next g3); have d2 := X3.out.b2.cell 0; have df := X3.out.b2.free 0; have V3 := Lib.hid v3; clear h3 g3 v3)
  have hs3 : (w3.setCell ⟨q + 2, 0, none⟩ (.int .i64 m2)).heap.size = w3.heap.size := by simp [World.setCell]
  have k3 := Keeps.set1 w3 (q + 2) 0 (.int .i64 m2)
  have nq : ¬ Own2 K1 K2 t (q + 2) := O3.out.not (.inl ⟨by omega, by omega⟩)
  have T4 := Lib.hid (T3.out.box nq 0 (.int .i64 m2))
  have Q4 := Lib.hid ((G2.out.trans Q3.out).box (show w.heap.size ≤ q + 2 by omega) 0 (.int .i64 m2))
  have X4 := Lib.hid (X3.out.put (m' := m2))
  have A4 := Lib.hid (A3.out.kept k3 (by omega))
  have E4 := Lib.hid (E3.out.kept k3 (by omega))
  have I4 := Lib.hid (I3.out.kept k3 (by omega))
  have O4 : Hid (Off t K1 K2 (w3.setCell ⟨q + 2, 0, none⟩ (.int .i64 m2)) (fun j => BoxQ q j ∨ j = ba ∨ j = be ∨ j = bi)) := Lib.hid fun j r => by
    obtain ⟨r1, r2, r3, r4⟩ := O3.out j r
    exact ⟨r1, r2, r3, by omega⟩
  obtain ⟨W4, hW4⟩ : ∃ W, w3.setCell ⟨q + 2, 0, none⟩ (.int .i64 m2) = W := ⟨_, rfl⟩
  rw [hW4] at T4 Q4 X4 A4 E4 I4 O4
  rw [hW4]
  clear hs3 k3 nq T3 Q3 X3 A3 E3 I3 O3 d2 df hW4 g0 b0 b1 b2 b3 e0 f2 T2 X2 A2 E2 I2 O2 G2 D2 S2
  have e0 := E4.out.cell 0
  have i0 := I4.out.cell 0
  have b0 := X4.out.b0.cell 0
  have t1 := T4.out.blk.cell 1
  have a6 := A4.out.cell 6
  have a7 := A4.out.cell 7
  have a8 := A4.out.cell 8
  have hBW : B ≤ W4.heap.size := Nat.le_trans hBw Q4.out.keeps.size
  go_wp2
  go_still_tail 10, (by kernel_rfl)
  change wpList _ _ _ _ _ W4.drew
  have dk : Below W4.heap.size W4 W4.drew := (Below.refl _ _).drew
  have T5 := Lib.hid (T4.out.keep dk)
  have g5 := Grow2.below (t := t) (F1 := K1) (F2 := K2) dk
  have Q5 := Lib.hid (Q4.out.trans g5)
  have X5 := Lib.hid (X4.out.keep dk)
  have A5 := Lib.hid (A4.out.keep dk)
  have E5 := Lib.hid (E4.out.keep dk)
  have I5 := Lib.hid (I4.out.keep dk)
  have O5 := Lib.hid (O4.out.next g5)
  have hBW : B ≤ W4.drew.heap.size := hBW
  generalize W4.drew = W at *
  clear e0 i0 b0 t1 a6 a7 a8 dk g5 T4 Q4 X4 A4 E4 I4 O4
  go_wp2_with (go_at_call 25; ((with_reducible refine (HRB.out W s2 K2 T5.out.rb hBW (V3.out.le l2)).mono ?_); rintro e w6 ⟨K3, rfl, h6, g6⟩); have T6 := Lib.hid (T5.out.two h6 g6); have Q6 := Lib.hid (Q5.out.trans (Grow2.two g6)); have X6 := Lib.hid (X5.out.kept O5.out (Grow2.two g6)); have A6 := Lib.hid (O5.out.blk (Grow2.two g6) (.inr (.inl rfl)) A5.out); have E6 := Lib.hid (O5.out.blk (Grow2.two g6) (.inr (.inr (.inl rfl))) E5.out); have I6 := Lib.hid (O5.out.blk (Grow2.two g6) (.inr (.inr (.inr rfl))) I5.out); have O6 := Lib.hid (O5.out.next (Grow2.two g6)); clear h6 g6)
  go_end0
  exact ⟨rfl, s2, K1, m2, K3, T6.out, Q6.out, X6.out, A6.out, E6.out, I6.out, V3.out, l1, l2, O6.out⟩
end
end Go.Proofs.YtgmphfagflhglaaDoor
