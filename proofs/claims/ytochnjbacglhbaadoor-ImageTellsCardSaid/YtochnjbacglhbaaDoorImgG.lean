/- The document's own images (astrolaberef22): what Get has read so far, in memory. -/
import Derived.Test.YtochnjbacglhbaaDoorImgE
namespace Go.Proofs.YtochnjbacglhbaaDoor
open Go.RowKit Go.IntWalk

/-- What Get has so far: the image's block M with five rows of its own, the reader's R; what was there since V stays. -/
structure GtAt (V W : World) (R M : Nat) (s : Rs) (v0 v1 v2 v3 v4 : Value) (m : Img) : Prop where
  blk : BlkAt M 27 #[v0, v1, v2, v3, v4] W
  r0 : OwnW .u32 W V.heap.size 43 v0 m.code
  r1 : OwnW .i32 W V.heap.size 21 v1 m.data
  r2 : OwnEl boolK W V.heap.size 4 v2 m.sec
  r3 : OwnW .i64 W V.heap.size 3 v3 m.inn
  r4 : OwnW .i64 W V.heap.size 3 v4 m.out
  ap : ∀ j, v3.ownBlock = some j → ¬ v4.ownBlock = some j
  rd : RdAt V.heap.size W R s.1 s.2
  rm : R ≠ M
  low : V.heap.size ≤ M
  bel : Below V.heap.size V W
section
variable {V W W' : World} {R M : Nat} {s s' : Rs} {v0 v1 v2 v3 v4 v' : Value} {m : Img} {F : Nat → Prop}
/-- Kept by whatever leaves its blocks alone. -/
theorem GtAt.kept (h : GtAt V W R M s v0 v1 v2 v3 v4 m) (k : Keeps F W W') (hM : ¬ F M) (hR : ¬ F R) (h0 : ∀ j, v0.ownBlock = some j → ¬ F j) (h1 : ∀ j, v1.ownBlock = some j → ¬ F j) (h2 : ∀ j, v2.ownBlock = some j → ¬ F j) (h3 : ∀ j, v3.ownBlock = some j → ¬ F j) (h4 : ∀ j, v4.ownBlock = some j → ¬ F j) (hF : ∀ j, F j → V.heap.size ≤ j) : GtAt V W' R M s v0 v1 v2 v3 v4 m :=
  ⟨h.blk.kept k hM, own_kept h.r0 k h0, own_kept h.r1 k h1, own_kept h.r2 k h2, own_kept h.r3 k h3, own_kept h.r4 k h4, h.ap, h.rd.kept k hR hF, h.rm, h.low, k.below h.bel h.bel.size hF⟩
theorem GtAt.keep (h : GtAt V W R M s v0 v1 v2 v3 v4 m) (k : Below W.heap.size W W') : GtAt V W' R M s v0 v1 v2 v3 v4 m :=
  h.kept (Keeps.of_below (fun _ => False) k) id id (fun _ _ q => q) (fun _ _ q => q) (fun _ _ q => q) (fun _ _ q => q) (fun _ _ q => q) fun _ q => q.elim
/-- The reader has read. -/
theorem GtAt.read {l : List Int} {e : Int} (h : GtAt V W R M s v0 v1 v2 v3 v4 m) (k : RdTo V.heap.size W R l e W') : GtAt V W' R M (l, e) v0 v1 v2 v3 v4 m := by
  obtain ⟨k1, k2⟩ := k
  obtain ⟨a, n, c, hb, -, -⟩ := h.rd.ex
  have kk : Keeps (fun j => j = R) W W' := ⟨k2.os, k2.tape, k2.output, k2.size, fun j hj hn => k2.block j hn hj⟩
  have g : ∀ {size n : Nat} {T : TypeId} {v : Value} {xs : List Value}, W.ownsRow V.heap.size T size v n xs → 47 ≠ T → ∀ j, v.ownBlock = some j → ¬ (j = R) := fun o hT j q e => own_off_type o hb hT (e ▸ q)
  exact ⟨h.blk.kept kk fun e => h.rm e.symm, own_kept h.r0 kk (g h.r0 (by decide)), own_kept h.r1 kk (g h.r1 (by decide)), own_kept h.r2 kk (g h.r2 (by decide)), own_kept h.r3 kk (g h.r3 (by decide)), own_kept h.r4 kk (g h.r4 (by decide)), h.ap, k1, h.rm, h.low, kk.below h.bel h.bel.size fun j e => e ▸ h.rd.low⟩
/-- What grows is a row of its own: the others stay, and what is laid in its place is its own. -/
theorem GtAt.off (h : GtAt V W R M s v0 v1 v2 v3 v4 m) {size n : Nat} {T : TypeId} {v : Value} {xs : List Value} (o : W.ownsRow V.heap.size T size v n xs) (h1 : 27 ≠ T) (h2 : 47 ≠ T) : v.ownBlock ≠ some M ∧ v.ownBlock ≠ some R := by
  obtain ⟨a, n, c, hb, -, -⟩ := h.rd.ex
  exact ⟨own_off_type o h.blk h1, own_off_type o hb h2⟩
theorem own_set {w : World} {base size n M k : Nat} {T U : TypeId} {cs : Array Value} {v u : Value} {xs : List Value} (o : w.ownsRow base T size v n xs) (hb : BlkAt M U cs w) (hT : U ≠ T) : (w.setCell ⟨M, k, none⟩ u).ownsRow base T size v n xs :=
  own_kept o (Keeps.set1 w M k u) fun _ q e => own_off_type o hb hT (e ▸ q)
theorem GtAt.code {x : Int} (h : GtAt V W R M s v0 v1 v2 v3 v4 m) (o : OwnW .u32 W' V.heap.size 43 v' (m.code ++ [x])) (g : W.grownBy W' v0.ownBlock) : GtAt V (W'.setCell ⟨M, 0, none⟩ v') R M s v' v1 v2 v3 v4 { m with code := m.code ++ [x] } := by
  obtain ⟨q1, q2⟩ := h.off h.r0 (by decide) (by decide)
  have k : Keeps (fun j => v0.ownBlock = some j) W W' := Keeps.of_grown g fun _ q => q
  have hb := h.blk.kept k q1
  have kf : ∀ j, v0.ownBlock = some j → V.heap.size ≤ j := fun j q => (h.r0.lt j q).1
  have two : ∀ {size n : Nat} {T : TypeId} {v : Value} {xs : List Value}, W.ownsRow V.heap.size T size v n xs → T ≠ 43 → ∀ j, v.ownBlock = some j → ¬ v0.ownBlock = some j := fun o' hT => own_two o' h.r0 hT
  refine ⟨(hb.set 0 v').eq rfl, own_set o hb (by decide), own_set (own_kept h.r1 k (two h.r1 (by decide))) hb (by decide), own_set (own_kept h.r2 k (two h.r2 (by decide))) hb (by decide), own_set (own_kept h.r3 k (two h.r3 (by decide))) hb (by decide), own_set (own_kept h.r4 k (two h.r4 (by decide))) hb (by decide), h.ap, ?_, h.rm, h.low, ?_⟩
  · exact (h.rd.kept k q2 kf).kept (Keeps.set1 W' M 0 v') h.rm fun j e => e ▸ h.low
  · exact (Keeps.set1 W' M 0 v').below (k.below h.bel h.bel.size kf) (Nat.le_trans h.bel.size k.size) fun j e => e ▸ h.low
theorem GtAt.data {x : Int} (h : GtAt V W R M s v0 v1 v2 v3 v4 m) (o : OwnW .i32 W' V.heap.size 21 v' (m.data ++ [x])) (g : W.grownBy W' v1.ownBlock) : GtAt V (W'.setCell ⟨M, 1, none⟩ v') R M s v0 v' v2 v3 v4 { m with data := m.data ++ [x] } := by
  obtain ⟨q1, q2⟩ := h.off h.r1 (by decide) (by decide)
  have k : Keeps (fun j => v1.ownBlock = some j) W W' := Keeps.of_grown g fun _ q => q
  have hb := h.blk.kept k q1
  have kf : ∀ j, v1.ownBlock = some j → V.heap.size ≤ j := fun j q => (h.r1.lt j q).1
  have two : ∀ {size n : Nat} {T : TypeId} {v : Value} {xs : List Value}, W.ownsRow V.heap.size T size v n xs → T ≠ 21 → ∀ j, v.ownBlock = some j → ¬ v1.ownBlock = some j := fun o' hT => own_two o' h.r1 hT
  refine ⟨(hb.set 1 v').eq rfl, own_set (own_kept h.r0 k (two h.r0 (by decide))) hb (by decide), own_set o hb (by decide), own_set (own_kept h.r2 k (two h.r2 (by decide))) hb (by decide), own_set (own_kept h.r3 k (two h.r3 (by decide))) hb (by decide), own_set (own_kept h.r4 k (two h.r4 (by decide))) hb (by decide), h.ap, ?_, h.rm, h.low, ?_⟩
  · exact (h.rd.kept k q2 kf).kept (Keeps.set1 W' M 1 v') h.rm fun j e => e ▸ h.low
  · exact (Keeps.set1 W' M 1 v').below (k.below h.bel h.bel.size kf) (Nat.le_trans h.bel.size k.size) fun j e => e ▸ h.low
theorem GtAt.sec {x : Bool} (h : GtAt V W R M s v0 v1 v2 v3 v4 m) (o : OwnEl boolK W' V.heap.size 4 v' (m.sec ++ [x])) (g : W.grownBy W' v2.ownBlock) : GtAt V (W'.setCell ⟨M, 2, none⟩ v') R M s v0 v1 v' v3 v4 { m with sec := m.sec ++ [x] } := by
  obtain ⟨q1, q2⟩ := h.off h.r2 (by decide) (by decide)
  have k : Keeps (fun j => v2.ownBlock = some j) W W' := Keeps.of_grown g fun _ q => q
  have hb := h.blk.kept k q1
  have kf : ∀ j, v2.ownBlock = some j → V.heap.size ≤ j := fun j q => (h.r2.lt j q).1
  have two : ∀ {size n : Nat} {T : TypeId} {v : Value} {xs : List Value}, W.ownsRow V.heap.size T size v n xs → T ≠ 4 → ∀ j, v.ownBlock = some j → ¬ v2.ownBlock = some j := fun o' hT => own_two o' h.r2 hT
  refine ⟨(hb.set 2 v').eq rfl, own_set (own_kept h.r0 k (two h.r0 (by decide))) hb (by decide), own_set (own_kept h.r1 k (two h.r1 (by decide))) hb (by decide), own_set o hb (by decide), own_set (own_kept h.r3 k (two h.r3 (by decide))) hb (by decide), own_set (own_kept h.r4 k (two h.r4 (by decide))) hb (by decide), h.ap, ?_, h.rm, h.low, ?_⟩
  · exact (h.rd.kept k q2 kf).kept (Keeps.set1 W' M 2 v') h.rm fun j e => e ▸ h.low
  · exact (Keeps.set1 W' M 2 v').below (k.below h.bel h.bel.size kf) (Nat.le_trans h.bel.size k.size) fun j e => e ▸ h.low
theorem GtAt.inn {x : Int} (h : GtAt V W R M s v0 v1 v2 v3 v4 m) (o : OwnW .i64 W' V.heap.size 3 v' (m.inn ++ [x])) (g : W.grownBy W' v3.ownBlock) (nx : Nexts W v3 v') : GtAt V (W'.setCell ⟨M, 3, none⟩ v') R M s v0 v1 v2 v' v4 { m with inn := m.inn ++ [x] } := by
  obtain ⟨q1, q2⟩ := h.off h.r3 (by decide) (by decide)
  have k : Keeps (fun j => v3.ownBlock = some j) W W' := Keeps.of_grown g fun _ q => q
  have hb := h.blk.kept k q1
  have kf : ∀ j, v3.ownBlock = some j → V.heap.size ≤ j := fun j q => (h.r3.lt j q).1
  have two : ∀ {size n : Nat} {T : TypeId} {v : Value} {xs : List Value}, W.ownsRow V.heap.size T size v n xs → T ≠ 3 → ∀ j, v.ownBlock = some j → ¬ v3.ownBlock = some j := fun o' hT => own_two o' h.r3 hT
  have apx : ∀ j, v4.ownBlock = some j → ¬ v3.ownBlock = some j := fun j q r => h.ap j r q
  refine ⟨(hb.set 3 v').eq rfl, own_set (own_kept h.r0 k (two h.r0 (by decide))) hb (by decide), own_set (own_kept h.r1 k (two h.r1 (by decide))) hb (by decide), own_set (own_kept h.r2 k (two h.r2 (by decide))) hb (by decide), own_set o hb (by decide), own_set (own_kept h.r4 k apx) hb (by decide), fun j q r => (nx j q).elim (fun e => h.ap j e r) fun e => absurd (h.r4.lt j r).2 (by omega), ?_, h.rm, h.low, ?_⟩
  · exact (h.rd.kept k q2 kf).kept (Keeps.set1 W' M 3 v') h.rm fun j e => e ▸ h.low
  · exact (Keeps.set1 W' M 3 v').below (k.below h.bel h.bel.size kf) (Nat.le_trans h.bel.size k.size) fun j e => e ▸ h.low
theorem GtAt.out {x : Int} (h : GtAt V W R M s v0 v1 v2 v3 v4 m) (o : OwnW .i64 W' V.heap.size 3 v' (m.out ++ [x])) (g : W.grownBy W' v4.ownBlock) (nx : Nexts W v4 v') : GtAt V (W'.setCell ⟨M, 4, none⟩ v') R M s v0 v1 v2 v3 v' { m with out := m.out ++ [x] } := by
  obtain ⟨q1, q2⟩ := h.off h.r4 (by decide) (by decide)
  have k : Keeps (fun j => v4.ownBlock = some j) W W' := Keeps.of_grown g fun _ q => q
  have hb := h.blk.kept k q1
  have kf : ∀ j, v4.ownBlock = some j → V.heap.size ≤ j := fun j q => (h.r4.lt j q).1
  have two : ∀ {size n : Nat} {T : TypeId} {v : Value} {xs : List Value}, W.ownsRow V.heap.size T size v n xs → T ≠ 3 → ∀ j, v.ownBlock = some j → ¬ v4.ownBlock = some j := fun o' hT => own_two o' h.r4 hT
  have apx : ∀ j, v3.ownBlock = some j → ¬ v4.ownBlock = some j := h.ap
  refine ⟨(hb.set 4 v').eq rfl, own_set (own_kept h.r0 k (two h.r0 (by decide))) hb (by decide), own_set (own_kept h.r1 k (two h.r1 (by decide))) hb (by decide), own_set (own_kept h.r2 k (two h.r2 (by decide))) hb (by decide), own_set (own_kept h.r3 k apx) hb (by decide), own_set o hb (by decide), fun j q r => (nx j r).elim (fun e => h.ap j q e) fun e => absurd (h.r3.lt j q).2 (by omega), ?_, h.rm, h.low, ?_⟩
  · exact (h.rd.kept k q2 kf).kept (Keeps.set1 W' M 4 v') h.rm fun j e => e ▸ h.low
  · exact (Keeps.set1 W' M 4 v').below (k.below h.bel h.bel.size kf) (Nat.le_trans h.bel.size k.size) fun j e => e ▸ h.low
end
end Go.Proofs.YtochnjbacglhbaaDoor
