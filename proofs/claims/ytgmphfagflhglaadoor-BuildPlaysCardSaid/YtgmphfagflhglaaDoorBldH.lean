/- Layer 21's law: a builder and the document's, side by side; what a call on each leaves. Conditions: as few as 900. -/
import Derived.Test.YtgmphfagflhglaaDoorBldG
import Derived.Test.YtgmphfagflhglaaDoorBldU
import Derived.Test.YtgmphfagflhglaaDoorBldO
namespace Go.Proofs.YtgmphfagflhglaaDoor
open Go.RowKit Go.Maps Go.IntWalk

theorem ElAt.kept {α : Type} [Inhabited α] {K : Kd α} {F : Nat → Prop} {w w' : World} {a : Option Addr} {n c : Nat} {l : List α} (h : ElAt K w a n c l) (k : Keeps F w w') (hn : ∀ b off, a = some ⟨b, off, none⟩ → ¬ F b) : ElAt K w' a n c l := by
  refine ⟨h.len, h.cap, h.big, h.nil, fun h0 => ?_⟩
  obtain ⟨b, off, e, hc⟩ := h.lie h0
  refine ⟨b, off, e, fun i hi j hj => ?_⟩
  rw [← hc i hi j hj]
  exact World.cell?_of_block (a := ⟨b, off + i * K.k + j, none⟩) (k.block b (h.lt h0 b off e) (hn b off e))

/-- Both builders: the law's block t, the builder (F1), the document's (F2). -/
structure TwoIn (B : Nat) (w : World) (t b d x : Nat) (s1 s2 : Bst) (F1 F2 : Nat → Prop) : Prop where
  blk : BlkAt t 39 #[.pointer (some ⟨b, 0, none⟩), .pointer (some ⟨x, 0, none⟩), .bool true] w
  bl : BldAt B w b d s1 F1
  rb : RbAt B w x s2 F2
  ap : ∀ j, F1 j → ¬ F2 j
  t1 : ¬ F1 t
  t2 : ¬ F2 t
  tb : B ≤ t
/-- What both own. -/
def Own2 (F1 F2 : Nat → Prop) (t : Nat) : Nat → Prop := fun j => F1 j ∨ F2 j ∨ j = t
/-- None but what both own has turned; what they own now was theirs, or is new. -/
structure Grow2 (t : Nat) (F1 F2 : Nat → Prop) (w : World) (F1' F2' : Nat → Prop) (w' : World) : Prop where
  keeps : Keeps (Own2 F1 F2 t) w w'
  new1 : ∀ j, F1' j → F1 j ∨ w.heap.size ≤ j
  new2 : ∀ j, F2' j → F2 j ∨ w.heap.size ≤ j
/-- Blocks that are not theirs. -/
def Off (t : Nat) (F1 F2 : Nat → Prop) (w : World) (H : Nat → Prop) : Prop := ∀ j, H j → ¬ F1 j ∧ ¬ F2 j ∧ j ≠ t ∧ j < w.heap.size
section
variable {B t b d x : Nat} {w w' w1 w2 : World} {s s1 s2 s' : Bst} {F1 F2 G1 G2 H1 H2 H K : Nat → Prop}
theorem Grow2.refl (t : Nat) (F1 F2 : Nat → Prop) (w : World) : Grow2 t F1 F2 w F1 F2 w := ⟨Keeps.refl _ w, fun _ h => .inl h, fun _ h => .inl h⟩
theorem Grow2.trans (h : Grow2 t F1 F2 w G1 G2 w1) (k : Grow2 t G1 G2 w1 H1 H2 w2) : Grow2 t F1 F2 w H1 H2 w2 := by
  have hs := h.keeps.size
  refine ⟨h.keeps.next k.keeps fun j hj q => ?_, fun j q => ?_, fun j q => ?_⟩
  · rcases q with q | q | q
    · exact (h.new1 j q).elim .inl fun e => absurd e (by omega)
    · exact (h.new2 j q).elim (fun e => .inr (.inl e)) fun e => absurd e (by omega)
    · exact .inr (.inr q)
  · exact (k.new1 j q).elim (h.new1 j) fun e => .inr (Nat.le_trans hs e)
  · exact (k.new2 j q).elim (h.new2 j) fun e => .inr (Nat.le_trans hs e)
theorem Grow2.one (g : Grows F1 w G1 w') : Grow2 t F1 F2 w G1 F2 w' := ⟨g.keeps.mono fun _ _ q => .inl q, g.new, fun _ q => .inl q⟩
theorem Grow2.two (g : Grows F2 w G2 w') : Grow2 t F1 F2 w F1 G2 w' := ⟨g.keeps.mono fun _ _ q => .inr (.inl q), fun _ q => .inl q, g.new⟩
theorem Grow2.below (k : Below w.heap.size w w') : Grow2 t F1 F2 w F1 F2 w' := ⟨Keeps.of_below _ k, fun _ q => .inl q, fun _ q => .inl q⟩
theorem Grow2.set (k : Nat) (v : Value) : Grow2 t F1 F2 w F1 F2 (w.setCell ⟨t, k, none⟩ v) := ⟨Keeps.set (.inr (.inr rfl)) w k v, fun _ q => .inl q, fun _ q => .inl q⟩
/-- A block that is new since w is written. -/
theorem Grow2.box {q : Nat} (h : Grow2 t F1 F2 w G1 G2 w1) (hq : w.heap.size ≤ q) (k : Nat) (v : Value) : Grow2 t F1 F2 w G1 G2 (w1.setCell ⟨q, k, none⟩ v) :=
  ⟨h.keeps.next (Keeps.set1 w1 q k v) fun j hj e => absurd hj (by omega), h.new1, h.new2⟩
theorem Off.next (h : Off t F1 F2 w H) (g : Grow2 t F1 F2 w G1 G2 w') : Off t G1 G2 w' H := fun j q => by
  obtain ⟨h1, h2, h3, h4⟩ := h j q
  refine ⟨fun e => ?_, fun e => ?_, h3, Nat.lt_of_lt_of_le h4 g.keeps.size⟩
  · rcases g.new1 j e with r | r
    · exact h1 r
    · omega
  · rcases g.new2 j e with r | r
    · exact h2 r
    · omega
theorem Off.not (h : Off t F1 F2 w H) {j : Nat} (q : H j) : ¬ Own2 F1 F2 t j := by
  obtain ⟨h1, h2, h3, _⟩ := h j q
  rintro (e | e | e)
  · exact h1 e
  · exact h2 e
  · exact h3 e
theorem Off.mono (h : Off t F1 F2 w H) (e : ∀ j, K j → H j) : Off t F1 F2 w K := fun j q => h j (e j q)
/-- A block that both leave alone. -/
theorem Off.blk {q : Nat} {T : TypeId} {cs : Array Value} (h : Off t F1 F2 w H) (g : Grow2 t F1 F2 w G1 G2 w') (hq : H q) (hb : BlkAt q T cs w) : BlkAt q T cs w' := hb.kept g.keeps (h.not hq)
theorem TwoIn.low1 (h : TwoIn B w t b d x s1 s2 F1 F2) : ∀ j, F1 j → B ≤ j ∧ j < w.heap.size := h.bl.low
theorem TwoIn.low2 (h : TwoIn B w t b d x s1 s2 F1 F2) : ∀ j, F2 j → B ≤ j ∧ j < w.heap.size := h.rb.low
/-- A block that is not there yet is not theirs. -/
theorem TwoIn.fresh (h : TwoIn B w t b d x s1 s2 F1 F2) {q : Nat} (hq : w.heap.size ≤ q) : ¬ F1 q ∧ ¬ F2 q ∧ q ≠ t :=
  ⟨fun e => by have := (h.low1 q e).2; omega, fun e => by have := (h.low2 q e).2; omega, fun e => by have := h.blk.lt; omega⟩
theorem TwoIn.kept (h : TwoIn B w t b d x s1 s2 F1 F2) (k : Keeps H w w') (hn : ∀ j, Own2 F1 F2 t j → ¬ H j) : TwoIn B w' t b d x s1 s2 F1 F2 :=
  ⟨h.blk.kept k (hn _ (.inr (.inr rfl))), h.bl.kept k fun j q => hn j (.inl q), h.rb.kept k fun j q => hn j (.inr (.inl q)), h.ap, h.t1, h.t2, h.tb⟩
theorem TwoIn.keep (h : TwoIn B w t b d x s1 s2 F1 F2) (k : Below w.heap.size w w') : TwoIn B w' t b d x s1 s2 F1 F2 := h.kept (Keeps.of_below (fun _ => False) k) fun _ _ q => q
/-- A call on the builder. -/
theorem TwoIn.one (h : TwoIn B w t b d x s1 s2 F1 F2) (hb : BldAt B w' b d s' G1) (g : Grows F1 w G1 w') : TwoIn B w' t b d x s' s2 G1 F2 := by
  refine ⟨h.blk.kept g.keeps h.t1, hb, h.rb.kept g.keeps fun j q r => h.ap j r q, fun j q r => ?_, fun q => ?_, h.t2, h.tb⟩
  · rcases g.new j q with e | e
    · exact h.ap j e r
    · have := (h.low2 j r).2; omega
  · rcases g.new t q with e | e
    · exact h.t1 e
    · have := h.blk.lt; omega
/-- A call on the document's. -/
theorem TwoIn.two (h : TwoIn B w t b d x s1 s2 F1 F2) (hb : RbAt B w' x s' G2) (g : Grows F2 w G2 w') : TwoIn B w' t b d x s1 s' F1 G2 := by
  refine ⟨h.blk.kept g.keeps h.t2, h.bl.kept g.keeps fun j q r => h.ap j q r, hb, fun j q r => ?_, h.t1, fun q => ?_, h.tb⟩
  · rcases g.new j r with e | e
    · exact h.ap j q e
    · have := (h.low1 j q).2; omega
  · rcases g.new t q with e | e
    · exact h.t2 e
    · have := h.blk.lt; omega
/-- What is told of both is laid. -/
theorem TwoIn.fine (h : TwoIn B w t b d x s1 s2 F1 F2) : TwoIn B (w.setCell ⟨t, 2, none⟩ (.bool true)) t b d x s1 s2 F1 F2 := by
  have k := Keeps.set1 w t 2 (.bool true)
  exact ⟨(h.blk.set 2 (.bool true)).eq rfl, h.bl.kept k fun j q e => h.t1 (e ▸ q), h.rb.kept k fun j q e => h.t2 (e ▸ q), h.ap, h.t1, h.t2, h.tb⟩
/-- A block of the caller's is written. -/
theorem TwoIn.box {q : Nat} (h : TwoIn B w t b d x s1 s2 F1 F2) (hq : ¬ Own2 F1 F2 t q) (k : Nat) (v : Value) : TwoIn B (w.setCell ⟨q, k, none⟩ v) t b d x s1 s2 F1 F2 :=
  h.kept (Keeps.set1 w q k v) fun _ r e => hq (e ▸ r)
theorem ShapesLaid.grow2 (h : ShapesLaid w) (g : Grow2 t F1 F2 w G1 G2 w') (l1 : ∀ j, F1 j → B ≤ j ∧ j < w.heap.size) (l2 : ∀ j, F2 j → B ≤ j ∧ j < w.heap.size) (ht : B ≤ t) (hB : 1 < B) : ShapesLaid w' := by
  obtain ⟨t2, h2⟩ := h
  refine ⟨t2, ?_⟩
  rw [g.keeps.block _ (Array.getElem?_eq_some_iff.1 h2).1 ?_]; exact h2
  rintro (q | q | q)
  · have := (l1 _ q).1; omega
  · have := (l2 _ q).1; omega
  · omega
/-- What all calls keep: as few as the acts that were done allow. -/
structure Inv (s : Bst) (m depth : Nat) : Prop where
  nL : s.L.length + 2 * depth ≤ 4 * m
  nd : s.ds.length ≤ m
  nu : s.us.length + depth ≤ m
  fit : Fit s
end
section
variable {s : Bst} {m depth : Nat}
theorem Inv.skip (h : Inv s m depth) : Inv s (m + 1) depth := ⟨by have := h.nL; omega, by have := h.nd; omega, by have := h.nu; omega, h.fit⟩
theorem Inv.le {m' : Nat} (h : Inv s m depth) (hm : m ≤ m') : Inv s m' depth := ⟨by have := h.nL; omega, by have := h.nd; omega, by have := h.nu; omega, h.fit⟩
theorem add_len (s : Bst) (l : List I5) : (s.add l).L.length = s.L.length + l.length := by show (s.L ++ l).length = _; rw [List.length_append]
theorem Inv.ins (h : Inv s m depth) (i : I5) : Inv (s.ins i) (m + 1) depth := by
  unfold Bst.ins
  split
  · exact ⟨by rw [add_len]; have := h.nL; simp; omega, (show s.ds.length ≤ _ by have := h.nd; omega), (show s.us.length + depth ≤ _ by have := h.nu; omega), h.fit.add _⟩
  · exact h.skip
theorem Inv.lab (h : Inv s m depth) (n : ByteArray) (p : Int) : Inv (s.lab n p) (m + 1) depth :=
  ⟨(show s.L.length + 2 * depth ≤ _ by have := h.nL; omega), (show (defS s.ds n p).length ≤ _ by have := h.nd; have := defS_len s.ds n p; omega), (show s.us.length + depth ≤ _ by have := h.nu; omega), h.fit.lab n p⟩
theorem Inv.goes (h : Inv s m depth) (o d a : Int) (n : ByteArray) : Inv (s.goes o d a n) (m + 1) depth := by
  refine ⟨?_, ?_, ?_, h.fit.goes o d a n⟩
  all_goals
    unfold Bst.goes
    split
  · rw [add_len]; have := h.nL; show s.L.length + _ + _ ≤ _; simp; omega
  · have := h.nL; omega
  · show s.ds.length ≤ _; have := h.nd; omega
  · have := h.nd; omega
  · show (useS s.us n s.L.length).length + depth ≤ _; have := useS_len s.us n s.L.length; have := h.nu; omega
  · have := h.nu; omega
theorem Inv.setR (h : Inv s m depth) (d n : Int) : Inv (s.setR d n) (m + 1) depth := by
  refine ⟨?_, ?_, ?_, h.fit.setR d n⟩
  all_goals
    unfold Bst.setR
    split
  · rw [add_len]; have := h.nL; unfold setI; split <;> simp <;> omega
  · have := h.nL; omega
  · show s.ds.length ≤ _; have := h.nd; omega
  · have := h.nd; omega
  · show s.us.length + depth ≤ _; have := h.nu; omega
  · have := h.nu; omega
theorem Inv.opens {c l n : Int} {nm : ByteArray} (h : Inv s m depth) (hk : loopOk c l n) (he : defE s.ds nm = 0) : Inv (s.opens c l n nm) (m + 1) (depth + 1) := by
  have e : s.opens c l n nm = (s.lab nm (s.L.length + 2)).add [(31, c, 0, 0, 0), (31, l, 0, 0, n)] := by unfold Bst.opens; rw [if_pos ⟨hk, he⟩]
  refine ⟨?_, ?_, ?_, h.fit.opens c l n nm⟩
  · rw [e, add_len]; have := h.nL; show s.L.length + 2 + _ ≤ _; omega
  · rw [e]; show (defS s.ds nm _).length ≤ _; have := defS_len s.ds nm (s.L.length + 2); have := h.nd; omega
  · rw [e]; show s.us.length + _ ≤ _; have := h.nu; omega
theorem Inv.shuts {c l : Int} {nm : ByteArray} (h : Inv s m (depth + 1)) (hc : 0 ≤ c ∧ c ≤ 31) (hl : 0 ≤ l ∧ l ≤ 31) (hN : nameB nm = true) : Inv (s.shuts c l nm) m depth := by
  refine ⟨?_, ?_, ?_, h.fit.shuts c l nm⟩
  all_goals rw [shuts_goes s c l nm hc hl hN]
  · rw [add_len]; show (s.add [_]).L.length + _ + _ ≤ _; rw [add_len]; have := h.nL; simp; omega
  · show s.ds.length ≤ _; exact h.nd
  · show (useS s.us nm _).length + depth ≤ _; have := useS_len s.us nm (s.add [(31, c, c, 0, 1)]).L.length; have := h.nu; omega
theorem opens_no {c l n : Int} {nm : ByteArray} (h : ¬ (loopOk c l n ∧ defE s.ds nm = 0)) : s.opens c l n nm = s := by unfold Bst.opens; rw [if_neg h]
end
end Go.Proofs.YtgmphfagflhglaaDoor
