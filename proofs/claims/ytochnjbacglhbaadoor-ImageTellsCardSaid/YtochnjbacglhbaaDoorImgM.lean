/- Package image: what the reader has read so far, in memory. -/
import Derived.Test.YtochnjbacglhbaaDoorImgL
namespace Go.Proofs.YtochnjbacglhbaaDoor
open Go.RowKit Go.IntWalk

/-- What Get has so far: the image's block M with five rows of its own, the reader's R; what was there since V stays. -/
structure GmAt (B : Nat) (V W : World) (R M Q : Nat) (s : List Int) (v0 v1 v2 v3 v4 : Value) (m : Img) : Prop where
  blk : BlkAt M 27 #[v0, v1, v2, v3, v4] W
  r0 : OwnW .u32 W V.heap.size 43 v0 m.code
  r1 : OwnW .i32 W V.heap.size 21 v1 m.data
  r2 : OwnEl boolK W V.heap.size 4 v2 m.sec
  r3 : OwnW .i64 W V.heap.size 3 v3 m.inn
  r4 : OwnW .i64 W V.heap.size 3 v4 m.out
  rd : RaAt B W R s
  rm : R ≠ M
  low : V.heap.size ≤ M
  bel : OnlyB R V W
  lR : R < V.heap.size
  res : BlkAt Q 27 #[.slice none 0 0, .slice none 0 0, .slice none 0 0, .slice none 0 0, .slice none 0 0] W
  mq : ¬ Q = M
  rq : ¬ Q = R
  lq : V.heap.size ≤ Q
theorem only_kept {F : Nat → Prop} {R : Nat} {V W W' : World} (h : OnlyB R V W) (k : Keeps F W W') (hF : ∀ j, F j → V.heap.size ≤ j) : OnlyB R V W' :=
  ⟨k.os.trans h.os, k.tape.trans h.tape, k.output.trans h.output, Nat.le_trans h.size k.size, fun j hj hl => (k.block j (Nat.lt_of_lt_of_le hl h.size) fun f => absurd (hF j f) (by omega)).trans (h.block j hj hl)⟩
section
variable {V W W' : World} {B R M Q : Nat} {s : List Int} {v0 v1 v2 v3 v4 v' : Value} {m : Img} {F : Nat → Prop}
theorem GmAt.kb (h : GmAt B V W R M Q s v0 v1 v2 v3 v4 m) {j : Nat} (hj : V.heap.size ≤ j) : B ≤ j := by
  have h1 := h.rd.low
  have h2 := h.lR
  omega
/-- Kept by whatever leaves its blocks alone. -/
theorem GmAt.kept (h : GmAt B V W R M Q s v0 v1 v2 v3 v4 m) (k : Keeps F W W') (hM : ¬ F M) (hR : ¬ F R) (hQ : ¬ F Q) (h0 : ∀ j, v0.ownBlock = some j → ¬ F j) (h1 : ∀ j, v1.ownBlock = some j → ¬ F j) (h2 : ∀ j, v2.ownBlock = some j → ¬ F j) (h3 : ∀ j, v3.ownBlock = some j → ¬ F j) (h4 : ∀ j, v4.ownBlock = some j → ¬ F j) (hF : ∀ j, F j → V.heap.size ≤ j) : GmAt B V W' R M Q s v0 v1 v2 v3 v4 m :=
  ⟨h.blk.kept k hM, own_kept h.r0 k h0, own_kept h.r1 k h1, own_kept h.r2 k h2, own_kept h.r3 k h3, own_kept h.r4 k h4, h.rd.kept k hR (fun j f => h.kb (hF j f)), h.rm, h.low, only_kept h.bel k hF, h.lR, h.res.kept k hQ, h.mq, h.rq, h.lq⟩
theorem GmAt.keep (h : GmAt B V W R M Q s v0 v1 v2 v3 v4 m) (k : Below W.heap.size W W') : GmAt B V W' R M Q s v0 v1 v2 v3 v4 m :=
  h.kept (Keeps.of_below (fun _ => False) k) id id id (fun _ _ q => q) (fun _ _ q => q) (fun _ _ q => q) (fun _ _ q => q) (fun _ _ q => q) fun _ q => q.elim
/-- The reader has read. -/
theorem GmAt.read {l : List Int} (h : GmAt B V W R M Q s v0 v1 v2 v3 v4 m) (k : RaTo B W R l W') : GmAt B V W' R M Q l v0 v1 v2 v3 v4 m := by
  have kk := k.keeps
  exact ⟨h.blk.kept kk fun e => h.rm e.symm, own_kept h.r0 kk (h.rd.off h.r0 (by decide)), own_kept h.r1 kk (h.rd.off h.r1 (by decide)), own_kept h.r2 kk (h.rd.off h.r2 (by decide)), own_kept h.r3 kk (h.rd.off h.r3 (by decide)), own_kept h.r4 kk (h.rd.off h.r4 (by decide)), k.1, h.rm, h.low, h.bel.trans k.2, h.lR, h.res.kept kk h.rq, h.mq, h.rq, h.lq⟩
/-- What grows is a row of its own: the others stay, and what is laid in its place is its own. -/
theorem GmAt.off (h : GmAt B V W R M Q s v0 v1 v2 v3 v4 m) {size n : Nat} {T : TypeId} {v : Value} {xs : List Value} (o : W.ownsRow V.heap.size T size v n xs) (h1 : 27 ≠ T) (h2 : 66 ≠ T) : v.ownBlock ≠ some M ∧ v.ownBlock ≠ some R ∧ v.ownBlock ≠ some Q := by
  obtain ⟨a, n, c, hb, -, -⟩ := h.rd.ex
  exact ⟨own_off_type o h.blk h1, own_off_type o hb h2, own_off_type o h.res h1⟩
theorem own_setM {w : World} {base size n M k : Nat} {T U : TypeId} {cs : Array Value} {v u : Value} {xs : List Value} (o : w.ownsRow base T size v n xs) (hb : BlkAt M U cs w) (hT : U ≠ T) : (w.setCell ⟨M, k, none⟩ u).ownsRow base T size v n xs :=
  own_kept o (Keeps.set1 w M k u) fun _ q e => own_off_type o hb hT (e ▸ q)
theorem GmAt.code {x : Int} (h : GmAt B V W R M Q s v0 v1 v2 v3 v4 m) (o : OwnW .u32 W' V.heap.size 43 v' (m.code ++ [x])) (g : W.grownBy W' v0.ownBlock) : GmAt B V (W'.setCell ⟨M, 0, none⟩ v') R M Q s v' v1 v2 v3 v4 { m with code := m.code ++ [x] } := by
  obtain ⟨q1, q2, q3⟩ := h.off h.r0 (by decide) (by decide)
  have k : Keeps (fun j => v0.ownBlock = some j) W W' := Keeps.of_grown g fun _ q => q
  have hb := h.blk.kept k q1
  have kf : ∀ j, v0.ownBlock = some j → V.heap.size ≤ j := fun j q => (h.r0.lt j q).1
  have two : ∀ {size n : Nat} {T : TypeId} {v : Value} {xs : List Value}, W.ownsRow V.heap.size T size v n xs → T ≠ 43 → ∀ j, v.ownBlock = some j → ¬ v0.ownBlock = some j := fun o' hT => own_two o' h.r0 hT
  refine ⟨(hb.set 0 v').eq rfl, own_setM o hb (by decide), own_setM (own_kept h.r1 k (two h.r1 (by decide))) hb (by decide), own_setM (own_kept h.r2 k (two h.r2 (by decide))) hb (by decide), own_setM (own_kept h.r3 k (two h.r3 (by decide))) hb (by decide), own_setM (own_kept h.r4 k (two h.r4 (by decide))) hb (by decide), ?_, h.rm, h.low, ?_, h.lR, ?_, h.mq, h.rq, h.lq⟩
  · exact (h.rd.kept k q2 fun j q => h.kb (kf j q)).kept (Keeps.set1 W' M 0 v') h.rm fun j e => h.kb (e ▸ h.low)
  · exact only_kept (only_kept h.bel k kf) (Keeps.set1 W' M 0 v') fun j e => e ▸ h.low
  · exact (h.res.kept k q3).kept (Keeps.set1 W' M 0 v') h.mq
theorem GmAt.data {x : Int} (h : GmAt B V W R M Q s v0 v1 v2 v3 v4 m) (o : OwnW .i32 W' V.heap.size 21 v' (m.data ++ [x])) (g : W.grownBy W' v1.ownBlock) : GmAt B V (W'.setCell ⟨M, 1, none⟩ v') R M Q s v0 v' v2 v3 v4 { m with data := m.data ++ [x] } := by
  obtain ⟨q1, q2, q3⟩ := h.off h.r1 (by decide) (by decide)
  have k : Keeps (fun j => v1.ownBlock = some j) W W' := Keeps.of_grown g fun _ q => q
  have hb := h.blk.kept k q1
  have kf : ∀ j, v1.ownBlock = some j → V.heap.size ≤ j := fun j q => (h.r1.lt j q).1
  have two : ∀ {size n : Nat} {T : TypeId} {v : Value} {xs : List Value}, W.ownsRow V.heap.size T size v n xs → T ≠ 21 → ∀ j, v.ownBlock = some j → ¬ v1.ownBlock = some j := fun o' hT => own_two o' h.r1 hT
  refine ⟨(hb.set 1 v').eq rfl, own_setM (own_kept h.r0 k (two h.r0 (by decide))) hb (by decide), own_setM o hb (by decide), own_setM (own_kept h.r2 k (two h.r2 (by decide))) hb (by decide), own_setM (own_kept h.r3 k (two h.r3 (by decide))) hb (by decide), own_setM (own_kept h.r4 k (two h.r4 (by decide))) hb (by decide), ?_, h.rm, h.low, ?_, h.lR, ?_, h.mq, h.rq, h.lq⟩
  · exact (h.rd.kept k q2 fun j q => h.kb (kf j q)).kept (Keeps.set1 W' M 1 v') h.rm fun j e => h.kb (e ▸ h.low)
  · exact only_kept (only_kept h.bel k kf) (Keeps.set1 W' M 1 v') fun j e => e ▸ h.low
  · exact (h.res.kept k q3).kept (Keeps.set1 W' M 1 v') h.mq
theorem GmAt.sec {x : Bool} (h : GmAt B V W R M Q s v0 v1 v2 v3 v4 m) (o : OwnEl boolK W' V.heap.size 4 v' (m.sec ++ [x])) (g : W.grownBy W' v2.ownBlock) : GmAt B V (W'.setCell ⟨M, 2, none⟩ v') R M Q s v0 v1 v' v3 v4 { m with sec := m.sec ++ [x] } := by
  obtain ⟨q1, q2, q3⟩ := h.off h.r2 (by decide) (by decide)
  have k : Keeps (fun j => v2.ownBlock = some j) W W' := Keeps.of_grown g fun _ q => q
  have hb := h.blk.kept k q1
  have kf : ∀ j, v2.ownBlock = some j → V.heap.size ≤ j := fun j q => (h.r2.lt j q).1
  have two : ∀ {size n : Nat} {T : TypeId} {v : Value} {xs : List Value}, W.ownsRow V.heap.size T size v n xs → T ≠ 4 → ∀ j, v.ownBlock = some j → ¬ v2.ownBlock = some j := fun o' hT => own_two o' h.r2 hT
  refine ⟨(hb.set 2 v').eq rfl, own_setM (own_kept h.r0 k (two h.r0 (by decide))) hb (by decide), own_setM (own_kept h.r1 k (two h.r1 (by decide))) hb (by decide), own_setM o hb (by decide), own_setM (own_kept h.r3 k (two h.r3 (by decide))) hb (by decide), own_setM (own_kept h.r4 k (two h.r4 (by decide))) hb (by decide), ?_, h.rm, h.low, ?_, h.lR, ?_, h.mq, h.rq, h.lq⟩
  · exact (h.rd.kept k q2 fun j q => h.kb (kf j q)).kept (Keeps.set1 W' M 2 v') h.rm fun j e => h.kb (e ▸ h.low)
  · exact only_kept (only_kept h.bel k kf) (Keeps.set1 W' M 2 v') fun j e => e ▸ h.low
  · exact (h.res.kept k q3).kept (Keeps.set1 W' M 2 v') h.mq
theorem GmAt.inn {q : List Int} (h : GmAt B V W R M Q s v0 v1 v2 v3 v4 m) (o : OwnW .i64 W V.heap.size 3 v' q) : GmAt B V (W.setCell ⟨M, 3, none⟩ v') R M Q s v0 v1 v2 v' v4 { m with inn := q } := by
  have hb := h.blk
  refine ⟨(hb.set 3 v').eq rfl, own_setM h.r0 hb (by decide), own_setM h.r1 hb (by decide), own_setM h.r2 hb (by decide), own_setM o hb (by decide), own_setM h.r4 hb (by decide), h.rd.kept (Keeps.set1 W M 3 v') h.rm fun j e => h.kb (e ▸ h.low), h.rm, h.low, ?_, h.lR, h.res.kept (Keeps.set1 W M 3 v') h.mq, h.mq, h.rq, h.lq⟩
  exact only_kept h.bel (Keeps.set1 W M 3 v') fun j e => e ▸ h.low
theorem GmAt.out {q : List Int} (h : GmAt B V W R M Q s v0 v1 v2 v3 v4 m) (o : OwnW .i64 W V.heap.size 3 v' q) : GmAt B V (W.setCell ⟨M, 4, none⟩ v') R M Q s v0 v1 v2 v3 v' { m with out := q } := by
  have hb := h.blk
  refine ⟨(hb.set 4 v').eq rfl, own_setM h.r0 hb (by decide), own_setM h.r1 hb (by decide), own_setM h.r2 hb (by decide), own_setM h.r3 hb (by decide), own_setM o hb (by decide), h.rd.kept (Keeps.set1 W M 4 v') h.rm fun j e => h.kb (e ▸ h.low), h.rm, h.low, ?_, h.lR, h.res.kept (Keeps.set1 W M 4 v') h.mq, h.mq, h.rq, h.lq⟩
  exact only_kept h.bel (Keeps.set1 W M 4 v') fun j e => e ▸ h.low
end
end Go.Proofs.YtochnjbacglhbaaDoor
