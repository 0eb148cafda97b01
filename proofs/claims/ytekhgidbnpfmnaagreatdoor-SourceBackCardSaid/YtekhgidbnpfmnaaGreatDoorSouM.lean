/- Package source's reader in memory; lines of data, of addresses; an instruction. Conditions: the tables and errors that the program lists lie as its text has them. -/
import Derived.Test.YtekhgidbnpfmnaaGreatDoorLabA
import Derived.Test.YtekhgidbnpfmnaaGreatDoorLinA
import Derived.Test.YtekhgidbnpfmnaaGreatDoorSouP
import Derived.Test.YtekhgidbnpfmnaaGreatDoorPlaP
import Derived.Test.YtekhgidbnpfmnaaGreatDoorLinT
namespace Go.Proofs.YtekhgidbnpfmnaaGreatDoor
open Go.RowKit

section
open Go.RowKit Go.Maps Go.IntWalk

/-- Where an instruction stands that goes to a name. -/
def aimK : Kd (ByteArray × Nat × Nat) where
  k := 3
  enc r := [.string r.1, .int .i64 r.2.1, .int .i64 r.2.2]
  len _ := rfl
  ones := by intro x v hv; simp at hv; rcases hv with rfl | rfl | rfl <;> rfl
  pos := by decide
/-! ### the doers -/
def fnElem (v : Value) : Option (DataW Unit × List MemPlace) :=
  match v with
  | .func (.func n) a b => if a.size = 0 ∧ b.size = 0 then some (.lit (.int .i64 n), []) else none
  | .nilFunc => some (.nil, [])
  | _ => none
theorem fnElem_mk (n : Nat) : fnElem (.func (.func n) #[] #[]) = some (.lit (.int .i64 n), []) := rfl
theorem fnElem_inv {v : Value} {n : Nat} {ps : List MemPlace} (h : fnElem v = some (.lit (.int .i64 n), ps)) : v = .func (.func n) #[] #[] := by
  unfold fnElem at h
  split at h
  · rename_i k a b
    split at h
    · rename_i q
      obtain rfl := Array.eq_empty_of_size_eq_zero q.1
      obtain rfl := Array.eq_empty_of_size_eq_zero q.2
      simp at h
      obtain ⟨e, -⟩ := h
      first
        | (subst e; rfl)
        | (have e' : k = n := Int.ofNat_inj.1 e; rw [e'])
        | (have e' : k = n := by exact_mod_cast e
           rw [e'])
    · cases h
  · cases h
  · cases h
theorem zeroDoer (w : World) : (zeroValue 94).run Tryz.prog w = .ok .nilFunc w := by kernel_rfl
/-- A text's bytes as a word. -/
def dRows : List (ByteArray × Nat) := [(txt [119, 111, 114, 100], 68), (txt [115, 101, 99, 114, 101, 116], 69), (txt [105, 110], 70), (txt [111, 117, 116], 71), (txt [98, 101, 113], 72), (txt [98, 110, 101], 72), (txt [98, 108, 116], 72), (txt [106, 117, 109, 112], 72), (txt [106, 97, 108], 72)]
/-- The map tells each first word's doer. -/
def DoersAt (w : World) (M : Nat) : Prop := ∃ m D, w.ownsMap Tryz.prog 9 fnElem M m D ∧ NmIs D dRows
theorem DoersAt.kept {F : Nat → Prop} {w w' : World} {M : Nat} (h : DoersAt w M) (k : Keeps F w w') (hn : ¬ F M) : DoersAt w' M := by
  obtain ⟨m, D, h1, h2⟩ := h
  exact ⟨m, D, map_kept h1 k hn, h2⟩
theorem DoersAt.lt {w : World} {M : Nat} (h : DoersAt w M) : M < w.heap.size := by
  obtain ⟨m, D, h1, h2⟩ := h
  exact h1.lt
theorem DoersAt.look {w : World} {M : Nat} (h : DoersAt w M) {s : ByteArray} {b : Nat} (hr : (s, b) ∈ dRows) (hs : s.size ≤ maxLen) :
    (Instr.lookup 44 (.map (some M)) (.string s) true).run Tryz.prog w = .ok (.tuple #[.func (.func b) #[] #[], .bool true]) w := by
  obtain ⟨m, D, hm, hn⟩ := h
  obtain ⟨x, ps, hrun, hx⟩ := hm.look_ok strLaw Tryz.underlying44 (zeroDoer w) (zd := .nil) (zp := []) rfl (key := .string s) (WideMaps.keyOf_string_mk Tryz.underlying9 hs)
  obtain ⟨h1, h2⟩ := hn.here _ hr
  have e : Lit.string s.data.toList = sLit s := rfl
  rw [e, h1] at hrun
  rw [e, h2] at hx
  rw [hrun, fnElem_inv hx]
theorem DoersAt.look_no {w : World} {M : Nat} (h : DoersAt w M) {s : ByteArray} (hr : s ∉ dRows.map (·.1)) (hs : s.size ≤ maxLen) :
    (Instr.lookup 44 (.map (some M)) (.string s) true).run Tryz.prog w = .ok (.tuple #[.nilFunc, .bool false]) w := by
  obtain ⟨m, D, ⟨es, clock, hb, Ft, _, hD⟩, hn⟩ := h
  have e : Lit.string s.data.toList = sLit s := rfl
  have hf := hn.far s hr
  rcases Maps.fit_look true strLaw Tryz.underlying44 (zeroDoer w) hb Ft (key := .string s) (WideMaps.keyOf_string_mk Tryz.underlying9 hs) with ⟨hrun, _, _⟩ | ⟨e0, y, _, _, _, _, hat, _⟩
  · exact hrun
  · exfalso
    have := Maps.has_true_of_atKey hat
    rw [← hD, e, hf] at this
    cases this
/-! ### the reader -/
/-- What has been read, in memory: the reader's block R, the doers' M, the names' t (their blocks F); line n is read; what was there since w0 stays. -/
structure RdAt (w0 w : World) (R M t : Nat) (F : Nat → Prop) (n : Int) (vc vd vs vi vo va : Value) (s : Sst) : Prop where
  blk : BlkAt R 48 #[.map (some M), .int .i64 n, vc, vd, vs, vi, vo, .pointer (some ⟨t, 0, none⟩), va] w
  map : DoersAt w M
  code : OwnEl (numK .u32) w w0.heap.size 41 vc (s.ins.map encQ)
  data : OwnEl (numK .i32) w w0.heap.size 21 vd s.data
  sec : OwnEl boolK w w0.heap.size 4 vs s.sec
  inn : OwnEl (numK .i64) w w0.heap.size 3 vi s.inn
  out : OwnEl (numK .i64) w w0.heap.size 3 vo s.out
  aims : OwnEl aimK w w0.heap.size 100 va s.us
  io : Apart vi vo
  lab : LabAt w0.heap.size w t s.ds [] F
  fr : ¬ F R
  fm : ¬ F M
  fo : ∀ v ∈ [vc, vd, vs, vi, vo, va], ∀ j, v.ownBlock = some j → ¬ F j
  om : ∀ v ∈ [vc, vd, vs, vi, vo, va], v.ownBlock ≠ some M
  rm : R ≠ M
  lr : w0.heap.size ≤ R
  lm : w0.heap.size ≤ M
  bel : Below w0.heap.size w0 w
section
variable {w0 w w' : World} {R M t : Nat} {F G : Nat → Prop} {n : Int} {vc vd vs vi vo va v' : Value} {s : Sst}
theorem RdAt.sz (h : RdAt w0 w R M t F n vc vd vs vi vo va s) : w0.heap.size ≤ w.heap.size := h.bel.size
/-- Kept by whatever leaves its blocks alone. -/
theorem RdAt.kept (h : RdAt w0 w R M t F n vc vd vs vi vo va s) (k : Keeps G w w') (hR : ¬ G R) (hM : ¬ G M) (hv : ∀ v ∈ [vc, vd, vs, vi, vo, va], ∀ j, v.ownBlock = some j → ¬ G j) (hF : ∀ j, F j → ¬ G j) (hG : ∀ j, G j → w0.heap.size ≤ j) : RdAt w0 w' R M t F n vc vd vs vi vo va s :=
  ⟨h.blk.kept k hR, h.map.kept k hM, h.code.kept k (hv _ (by simp)), h.data.kept k (hv _ (by simp)), h.sec.kept k (hv _ (by simp)), h.inn.kept k (hv _ (by simp)), h.out.kept k (hv _ (by simp)), h.aims.kept k (hv _ (by simp)), h.io, h.lab.kept k hF, h.fr, h.fm, h.fo, h.om, h.rm, h.lr, h.lm, k.below h.bel h.sz hG⟩
theorem RdAt.keep (h : RdAt w0 w R M t F n vc vd vs vi vo va s) (k : Below w.heap.size w w') : RdAt w0 w' R M t F n vc vd vs vi vo va s :=
  h.kept (Keeps.of_below (fun _ => False) k) id id (fun _ _ _ _ q => q) (fun _ _ q => q) fun _ q => q.elim
/-- The names' table has been told something. -/
theorem RdAt.told (h : RdAt w0 w R M t F n vc vd vs vi vo va s) {ds : Df} {F' : Nat → Prop} (hl : LabAt w0.heap.size w' t ds [] F') (g : Grows F w F' w') : RdAt w0 w' R M t F' n vc vd vs vi vo va { s with ds := ds } := by
  have k := g.keeps
  have hF := h.lab.low
  have new : ∀ j, j < w.heap.size → ¬ F j → ¬ F' j := fun j hj hn q => (g.new j q).elim hn fun e => by omega
  have lt : ∀ {α : Type} [Inhabited α] {K : Kd α} {e : TypeId} {v : Value} {l : List α}, OwnEl K w w0.heap.size e v l → ∀ j, v.ownBlock = some j → j < w.heap.size := fun o j q => (o.lt j q).2
  refine ⟨h.blk.kept k h.fr, h.map.kept k h.fm, h.code.kept k (h.fo _ (by simp)), h.data.kept k (h.fo _ (by simp)), h.sec.kept k (h.fo _ (by simp)), h.inn.kept k (h.fo _ (by simp)), h.out.kept k (h.fo _ (by simp)), h.aims.kept k (h.fo _ (by simp)), h.io, hl, new R h.blk.lt h.fr, new M h.map.lt h.fm, ?_, h.om, h.rm, h.lr, h.lm, k.below h.bel h.sz fun j q => (hF j q).1⟩
  intro v hv j q
  refine new j ?_ (h.fo v hv j q)
  simp only [List.mem_cons, List.not_mem_nil, or_false] at hv
  rcases hv with rfl | rfl | rfl | rfl | rfl | rfl
  · exact lt h.code j q
  · exact lt h.data j q
  · exact lt h.sec j q
  · exact lt h.inn j q
  · exact lt h.out j q
  · exact lt h.aims j q
/-- Another place in line. -/
theorem RdAt.line (h : RdAt w0 w R M t F n vc vd vs vi vo va s) (n' : Int) : RdAt w0 (w.setCell ⟨R, 1, none⟩ (.int .i64 n')) R M t F n' vc vd vs vi vo va s := by
  have k := Keeps.set1 w R 1 (.int .i64 n')
  have off : ∀ v ∈ [vc, vd, vs, vi, vo, va], ∀ j, v.ownBlock = some j → ¬ (j = R) := by
    intro v hv j q e
    subst e
    simp only [List.mem_cons, List.not_mem_nil, or_false] at hv
    rcases hv with rfl | rfl | rfl | rfl | rfl | rfl
    · exact own_off_type h.code h.blk (by decide) q
    · exact own_off_type h.data h.blk (by decide) q
    · exact own_off_type h.sec h.blk (by decide) q
    · exact own_off_type h.inn h.blk (by decide) q
    · exact own_off_type h.out h.blk (by decide) q
    · exact own_off_type h.aims h.blk (by decide) q
  exact ⟨(h.blk.set 1 _).eq rfl, h.map.kept k fun e => h.rm e.symm, h.code.kept k (off _ (by simp)), h.data.kept k (off _ (by simp)), h.sec.kept k (off _ (by simp)), h.inn.kept k (off _ (by simp)), h.out.kept k (off _ (by simp)), h.aims.kept k (off _ (by simp)), h.io, h.lab.kept k fun j q e => h.fr (e ▸ q), h.fr, h.fm, h.fo, h.om, h.rm, h.lr, h.lm, k.below h.bel h.sz fun j e => e ▸ h.lr⟩
/-- What one of its lists owns next is none of its others'. -/
structure Own1 (w w' : World) (w0 : World) (R M : Nat) (F : Nat → Prop) (v v' : Value) : Prop where
  keeps : Keeps (fun j => v.ownBlock = some j ∨ j = R) w w'
  off : ∀ j, v'.ownBlock = some j → ¬ F j
  om : v'.ownBlock ≠ some M
theorem RdAt.own1 (h : RdAt w0 w R M t F n vc vd vs vi vo va s) {w1 : World} {v : Value} (hv : v ∈ [vc, vd, vs, vi, vo, va]) (hx : Nexts w v v') (g : w.grownBy w1 v.ownBlock) (k : Nat) : Own1 w (w1.setCell ⟨R, k, none⟩ v') w0 R M F v v' := by
  have hF := h.lab.low
  refine ⟨(Keeps.of_grown (F := fun j => v.ownBlock = some j ∨ j = R) g fun j q => .inl q).trans ((Keeps.set1 w1 R k v').mono fun j _ e => .inr e), fun j q f => ?_, fun q => ?_⟩
  · exact (hx j q).elim (fun e => h.fo v hv j e f) fun e => by have := (hF j f).2; omega
  · exact (hx M q).elim (h.om v hv) fun e => by have := h.map.lt; omega
theorem RdAt.grow_code (h : RdAt w0 w R M t F n vc vd vs vi vo va s) {x : Q5} {w1 : World} (o : OwnEl (numK .u32) w1 w0.heap.size 41 v' ((s.ins ++ [x]).map encQ)) (g : w.grownBy w1 vc.ownBlock) (hx : Nexts w vc v') : RdAt w0 (w1.setCell ⟨R, 2, none⟩ v') R M t F n v' vd vs vi vo va { s with ins := s.ins ++ [x] } := by
  have q1 := h.own1 (v := vc) (by simp) hx g 2
  have hb : BlkAt R 48 _ w1 := h.blk.kept (Keeps.of_grown (F := fun j => vc.ownBlock = some j) g fun j q => q) (own_off_type h.code h.blk (by decide))
  have k := q1.keeps
  refine ⟨(hb.set 2 v').eq rfl, h.map.kept k fun r => r.elim (fun e => h.om vc (by simp) e) fun e => h.rm e.symm, o.kept (Keeps.set1 w1 R 2 v') fun j q e => own_off_type o hb (by decide) (e ▸ q), h.data.kept k fun j q r => r.elim (fun e => own_two h.data h.code (by decide) j q e) fun e => own_off_type h.data h.blk (by decide) (e ▸ q), h.sec.kept k fun j q r => r.elim (fun e => own_two h.sec h.code (by decide) j q e) fun e => own_off_type h.sec h.blk (by decide) (e ▸ q), h.inn.kept k fun j q r => r.elim (fun e => own_two h.inn h.code (by decide) j q e) fun e => own_off_type h.inn h.blk (by decide) (e ▸ q), h.out.kept k fun j q r => r.elim (fun e => own_two h.out h.code (by decide) j q e) fun e => own_off_type h.out h.blk (by decide) (e ▸ q), h.aims.kept k fun j q r => r.elim (fun e => own_two h.aims h.code (by decide) j q e) fun e => own_off_type h.aims h.blk (by decide) (e ▸ q), h.io, h.lab.kept k fun j q r => r.elim (fun e => h.fo vc (by simp) j e q) fun e => h.fr (e ▸ q), h.fr, h.fm, ?_, ?_, h.rm, h.lr, h.lm, k.below h.bel h.sz fun j r => r.elim (fun e => (h.code.lt j e).1) fun e => e ▸ h.lr⟩
  · intro u hu
    simp only [List.mem_cons, List.not_mem_nil, or_false] at hu
    rcases hu with rfl | rfl | rfl | rfl | rfl | rfl
    · exact q1.off
    · exact h.fo _ (by simp)
    · exact h.fo _ (by simp)
    · exact h.fo _ (by simp)
    · exact h.fo _ (by simp)
    · exact h.fo _ (by simp)
  · intro u hu
    simp only [List.mem_cons, List.not_mem_nil, or_false] at hu
    rcases hu with rfl | rfl | rfl | rfl | rfl | rfl
    · exact q1.om
    · exact h.om _ (by simp)
    · exact h.om _ (by simp)
    · exact h.om _ (by simp)
    · exact h.om _ (by simp)
    · exact h.om _ (by simp)
theorem RdAt.grow_data (h : RdAt w0 w R M t F n vc vd vs vi vo va s) {x : Int} {w1 : World} (o : OwnEl (numK .i32) w1 w0.heap.size 21 v' (s.data ++ [x])) (g : w.grownBy w1 vd.ownBlock) (hx : Nexts w vd v') : RdAt w0 (w1.setCell ⟨R, 3, none⟩ v') R M t F n vc v' vs vi vo va { s with data := s.data ++ [x] } := by
  have q1 := h.own1 (v := vd) (by simp) hx g 3
  have hb : BlkAt R 48 _ w1 := h.blk.kept (Keeps.of_grown (F := fun j => vd.ownBlock = some j) g fun j q => q) (own_off_type h.data h.blk (by decide))
  have k := q1.keeps
  refine ⟨(hb.set 3 v').eq rfl, h.map.kept k fun r => r.elim (fun e => h.om vd (by simp) e) fun e => h.rm e.symm, h.code.kept k fun j q r => r.elim (fun e => own_two h.code h.data (by decide) j q e) fun e => own_off_type h.code h.blk (by decide) (e ▸ q), o.kept (Keeps.set1 w1 R 3 v') fun j q e => own_off_type o hb (by decide) (e ▸ q), h.sec.kept k fun j q r => r.elim (fun e => own_two h.sec h.data (by decide) j q e) fun e => own_off_type h.sec h.blk (by decide) (e ▸ q), h.inn.kept k fun j q r => r.elim (fun e => own_two h.inn h.data (by decide) j q e) fun e => own_off_type h.inn h.blk (by decide) (e ▸ q), h.out.kept k fun j q r => r.elim (fun e => own_two h.out h.data (by decide) j q e) fun e => own_off_type h.out h.blk (by decide) (e ▸ q), h.aims.kept k fun j q r => r.elim (fun e => own_two h.aims h.data (by decide) j q e) fun e => own_off_type h.aims h.blk (by decide) (e ▸ q), h.io, h.lab.kept k fun j q r => r.elim (fun e => h.fo vd (by simp) j e q) fun e => h.fr (e ▸ q), h.fr, h.fm, ?_, ?_, h.rm, h.lr, h.lm, k.below h.bel h.sz fun j r => r.elim (fun e => (h.data.lt j e).1) fun e => e ▸ h.lr⟩
  · intro u hu
    simp only [List.mem_cons, List.not_mem_nil, or_false] at hu
    rcases hu with rfl | rfl | rfl | rfl | rfl | rfl
    · exact h.fo _ (by simp)
    · exact q1.off
    · exact h.fo _ (by simp)
    · exact h.fo _ (by simp)
    · exact h.fo _ (by simp)
    · exact h.fo _ (by simp)
  · intro u hu
    simp only [List.mem_cons, List.not_mem_nil, or_false] at hu
    rcases hu with rfl | rfl | rfl | rfl | rfl | rfl
    · exact h.om _ (by simp)
    · exact q1.om
    · exact h.om _ (by simp)
    · exact h.om _ (by simp)
    · exact h.om _ (by simp)
    · exact h.om _ (by simp)
theorem RdAt.grow_sec (h : RdAt w0 w R M t F n vc vd vs vi vo va s) {x : Bool} {w1 : World} (o : OwnEl boolK w1 w0.heap.size 4 v' (s.sec ++ [x])) (g : w.grownBy w1 vs.ownBlock) (hx : Nexts w vs v') : RdAt w0 (w1.setCell ⟨R, 4, none⟩ v') R M t F n vc vd v' vi vo va { s with sec := s.sec ++ [x] } := by
  have q1 := h.own1 (v := vs) (by simp) hx g 4
  have hb : BlkAt R 48 _ w1 := h.blk.kept (Keeps.of_grown (F := fun j => vs.ownBlock = some j) g fun j q => q) (own_off_type h.sec h.blk (by decide))
  have k := q1.keeps
  refine ⟨(hb.set 4 v').eq rfl, h.map.kept k fun r => r.elim (fun e => h.om vs (by simp) e) fun e => h.rm e.symm, h.code.kept k fun j q r => r.elim (fun e => own_two h.code h.sec (by decide) j q e) fun e => own_off_type h.code h.blk (by decide) (e ▸ q), h.data.kept k fun j q r => r.elim (fun e => own_two h.data h.sec (by decide) j q e) fun e => own_off_type h.data h.blk (by decide) (e ▸ q), o.kept (Keeps.set1 w1 R 4 v') fun j q e => own_off_type o hb (by decide) (e ▸ q), h.inn.kept k fun j q r => r.elim (fun e => own_two h.inn h.sec (by decide) j q e) fun e => own_off_type h.inn h.blk (by decide) (e ▸ q), h.out.kept k fun j q r => r.elim (fun e => own_two h.out h.sec (by decide) j q e) fun e => own_off_type h.out h.blk (by decide) (e ▸ q), h.aims.kept k fun j q r => r.elim (fun e => own_two h.aims h.sec (by decide) j q e) fun e => own_off_type h.aims h.blk (by decide) (e ▸ q), h.io, h.lab.kept k fun j q r => r.elim (fun e => h.fo vs (by simp) j e q) fun e => h.fr (e ▸ q), h.fr, h.fm, ?_, ?_, h.rm, h.lr, h.lm, k.below h.bel h.sz fun j r => r.elim (fun e => (h.sec.lt j e).1) fun e => e ▸ h.lr⟩
  · intro u hu
    simp only [List.mem_cons, List.not_mem_nil, or_false] at hu
    rcases hu with rfl | rfl | rfl | rfl | rfl | rfl
    · exact h.fo _ (by simp)
    · exact h.fo _ (by simp)
    · exact q1.off
    · exact h.fo _ (by simp)
    · exact h.fo _ (by simp)
    · exact h.fo _ (by simp)
  · intro u hu
    simp only [List.mem_cons, List.not_mem_nil, or_false] at hu
    rcases hu with rfl | rfl | rfl | rfl | rfl | rfl
    · exact h.om _ (by simp)
    · exact h.om _ (by simp)
    · exact q1.om
    · exact h.om _ (by simp)
    · exact h.om _ (by simp)
    · exact h.om _ (by simp)
theorem RdAt.grow_inn (h : RdAt w0 w R M t F n vc vd vs vi vo va s) {x : Int} {w1 : World} (o : OwnEl (numK .i64) w1 w0.heap.size 3 v' (s.inn ++ [x])) (g : w.grownBy w1 vi.ownBlock) (hx : Nexts w vi v') : RdAt w0 (w1.setCell ⟨R, 5, none⟩ v') R M t F n vc vd vs v' vo va { s with inn := s.inn ++ [x] } := by
  have q1 := h.own1 (v := vi) (by simp) hx g 5
  have hb : BlkAt R 48 _ w1 := h.blk.kept (Keeps.of_grown (F := fun j => vi.ownBlock = some j) g fun j q => q) (own_off_type h.inn h.blk (by decide))
  have k := q1.keeps
  refine ⟨(hb.set 5 v').eq rfl, h.map.kept k fun r => r.elim (fun e => h.om vi (by simp) e) fun e => h.rm e.symm, h.code.kept k fun j q r => r.elim (fun e => own_two h.code h.inn (by decide) j q e) fun e => own_off_type h.code h.blk (by decide) (e ▸ q), h.data.kept k fun j q r => r.elim (fun e => own_two h.data h.inn (by decide) j q e) fun e => own_off_type h.data h.blk (by decide) (e ▸ q), h.sec.kept k fun j q r => r.elim (fun e => own_two h.sec h.inn (by decide) j q e) fun e => own_off_type h.sec h.blk (by decide) (e ▸ q), o.kept (Keeps.set1 w1 R 5 v') fun j q e => own_off_type o hb (by decide) (e ▸ q), h.out.kept k fun j q r => r.elim (fun e => h.io.symm j q e) fun e => own_off_type h.out h.blk (by decide) (e ▸ q), h.aims.kept k fun j q r => r.elim (fun e => own_two h.aims h.inn (by decide) j q e) fun e => own_off_type h.aims h.blk (by decide) (e ▸ q), h.io.next hx fun j q => (h.out.lt j q).2, h.lab.kept k fun j q r => r.elim (fun e => h.fo vi (by simp) j e q) fun e => h.fr (e ▸ q), h.fr, h.fm, ?_, ?_, h.rm, h.lr, h.lm, k.below h.bel h.sz fun j r => r.elim (fun e => (h.inn.lt j e).1) fun e => e ▸ h.lr⟩
  · intro u hu
    simp only [List.mem_cons, List.not_mem_nil, or_false] at hu
    rcases hu with rfl | rfl | rfl | rfl | rfl | rfl
    · exact h.fo _ (by simp)
    · exact h.fo _ (by simp)
    · exact h.fo _ (by simp)
    · exact q1.off
    · exact h.fo _ (by simp)
    · exact h.fo _ (by simp)
  · intro u hu
    simp only [List.mem_cons, List.not_mem_nil, or_false] at hu
    rcases hu with rfl | rfl | rfl | rfl | rfl | rfl
    · exact h.om _ (by simp)
    · exact h.om _ (by simp)
    · exact h.om _ (by simp)
    · exact q1.om
    · exact h.om _ (by simp)
    · exact h.om _ (by simp)
theorem RdAt.grow_out (h : RdAt w0 w R M t F n vc vd vs vi vo va s) {x : Int} {w1 : World} (o : OwnEl (numK .i64) w1 w0.heap.size 3 v' (s.out ++ [x])) (g : w.grownBy w1 vo.ownBlock) (hx : Nexts w vo v') : RdAt w0 (w1.setCell ⟨R, 6, none⟩ v') R M t F n vc vd vs vi v' va { s with out := s.out ++ [x] } := by
  have q1 := h.own1 (v := vo) (by simp) hx g 6
  have hb : BlkAt R 48 _ w1 := h.blk.kept (Keeps.of_grown (F := fun j => vo.ownBlock = some j) g fun j q => q) (own_off_type h.out h.blk (by decide))
  have k := q1.keeps
  refine ⟨(hb.set 6 v').eq rfl, h.map.kept k fun r => r.elim (fun e => h.om vo (by simp) e) fun e => h.rm e.symm, h.code.kept k fun j q r => r.elim (fun e => own_two h.code h.out (by decide) j q e) fun e => own_off_type h.code h.blk (by decide) (e ▸ q), h.data.kept k fun j q r => r.elim (fun e => own_two h.data h.out (by decide) j q e) fun e => own_off_type h.data h.blk (by decide) (e ▸ q), h.sec.kept k fun j q r => r.elim (fun e => own_two h.sec h.out (by decide) j q e) fun e => own_off_type h.sec h.blk (by decide) (e ▸ q), h.inn.kept k fun j q r => r.elim (fun e => h.io j q e) fun e => own_off_type h.inn h.blk (by decide) (e ▸ q), o.kept (Keeps.set1 w1 R 6 v') fun j q e => own_off_type o hb (by decide) (e ▸ q), h.aims.kept k fun j q r => r.elim (fun e => own_two h.aims h.out (by decide) j q e) fun e => own_off_type h.aims h.blk (by decide) (e ▸ q), (h.io.symm.next hx fun j q => (h.inn.lt j q).2).symm, h.lab.kept k fun j q r => r.elim (fun e => h.fo vo (by simp) j e q) fun e => h.fr (e ▸ q), h.fr, h.fm, ?_, ?_, h.rm, h.lr, h.lm, k.below h.bel h.sz fun j r => r.elim (fun e => (h.out.lt j e).1) fun e => e ▸ h.lr⟩
  · intro u hu
    simp only [List.mem_cons, List.not_mem_nil, or_false] at hu
    rcases hu with rfl | rfl | rfl | rfl | rfl | rfl
    · exact h.fo _ (by simp)
    · exact h.fo _ (by simp)
    · exact h.fo _ (by simp)
    · exact h.fo _ (by simp)
    · exact q1.off
    · exact h.fo _ (by simp)
  · intro u hu
    simp only [List.mem_cons, List.not_mem_nil, or_false] at hu
    rcases hu with rfl | rfl | rfl | rfl | rfl | rfl
    · exact h.om _ (by simp)
    · exact h.om _ (by simp)
    · exact h.om _ (by simp)
    · exact h.om _ (by simp)
    · exact q1.om
    · exact h.om _ (by simp)
theorem RdAt.grow_aims (h : RdAt w0 w R M t F n vc vd vs vi vo va s) {x : (ByteArray × Nat × Nat)} {w1 : World} (o : OwnEl aimK w1 w0.heap.size 100 v' (s.us ++ [x])) (g : w.grownBy w1 va.ownBlock) (hx : Nexts w va v') : RdAt w0 (w1.setCell ⟨R, 8, none⟩ v') R M t F n vc vd vs vi vo v' { s with us := s.us ++ [x] } := by
  have q1 := h.own1 (v := va) (by simp) hx g 8
  have hb : BlkAt R 48 _ w1 := h.blk.kept (Keeps.of_grown (F := fun j => va.ownBlock = some j) g fun j q => q) (own_off_type h.aims h.blk (by decide))
  have k := q1.keeps
  refine ⟨(hb.set 8 v').eq rfl, h.map.kept k fun r => r.elim (fun e => h.om va (by simp) e) fun e => h.rm e.symm, h.code.kept k fun j q r => r.elim (fun e => own_two h.code h.aims (by decide) j q e) fun e => own_off_type h.code h.blk (by decide) (e ▸ q), h.data.kept k fun j q r => r.elim (fun e => own_two h.data h.aims (by decide) j q e) fun e => own_off_type h.data h.blk (by decide) (e ▸ q), h.sec.kept k fun j q r => r.elim (fun e => own_two h.sec h.aims (by decide) j q e) fun e => own_off_type h.sec h.blk (by decide) (e ▸ q), h.inn.kept k fun j q r => r.elim (fun e => own_two h.inn h.aims (by decide) j q e) fun e => own_off_type h.inn h.blk (by decide) (e ▸ q), h.out.kept k fun j q r => r.elim (fun e => own_two h.out h.aims (by decide) j q e) fun e => own_off_type h.out h.blk (by decide) (e ▸ q), o.kept (Keeps.set1 w1 R 8 v') fun j q e => own_off_type o hb (by decide) (e ▸ q), h.io, h.lab.kept k fun j q r => r.elim (fun e => h.fo va (by simp) j e q) fun e => h.fr (e ▸ q), h.fr, h.fm, ?_, ?_, h.rm, h.lr, h.lm, k.below h.bel h.sz fun j r => r.elim (fun e => (h.aims.lt j e).1) fun e => e ▸ h.lr⟩
  · intro u hu
    simp only [List.mem_cons, List.not_mem_nil, or_false] at hu
    rcases hu with rfl | rfl | rfl | rfl | rfl | rfl
    · exact h.fo _ (by simp)
    · exact h.fo _ (by simp)
    · exact h.fo _ (by simp)
    · exact h.fo _ (by simp)
    · exact h.fo _ (by simp)
    · exact q1.off
  · intro u hu
    simp only [List.mem_cons, List.not_mem_nil, or_false] at hu
    rcases hu with rfl | rfl | rfl | rfl | rfl | rfl
    · exact h.om _ (by simp)
    · exact h.om _ (by simp)
    · exact h.om _ (by simp)
    · exact h.om _ (by simp)
    · exact h.om _ (by simp)
    · exact q1.om
end
end

section
open Go.RowKit Go.Maps Go.IntWalk

/-- A line's words in memory. -/
def WdAt (w0 w : World) (A : Nat) (ws : List Tx) : Prop := OwnEl strK w w0.heap.size 9 (.slice (some ⟨A, 0, none⟩) ws.length ws.length) (ws.map txt)
section
variable {w0 w w' : World} {A : Nat} {ws : List Tx}
theorem WdAt.cell (h : WdAt w0 w A ws) {i : Nat} (hi : i < ws.length) : w.cell? ⟨A, i, none⟩ = some (.string (txt (wAt ws i))) := by
  unfold WdAt at h
  have := OwnEl.cell h (by simp) (i := i) (j := 0) hi (by decide)
  have e : el (ws.map txt) i = txt (wAt ws i) := by
    unfold el wAt
    rw [List.getD_eq_getElem?_getD, List.getD_eq_getElem?_getD, List.getElem?_map, List.getElem?_eq_getElem hi]
    rfl
  rw [e] at this
  simpa [strK] using this
theorem WdAt.free (h : WdAt w0 w A ws) (j : Nat) : w.frozen? ⟨A, j, none⟩ = false := by
  unfold WdAt at h
  exact OwnEl.free h (by simp) j
theorem WdAt.keep (h : WdAt w0 w A ws) (k : Below w.heap.size w w') : WdAt w0 w' A ws := OwnEl.keep h k
theorem WdAt.low (h : WdAt w0 w A ws) : w0.heap.size ≤ A ∧ A < w.heap.size := OwnEl.lt h A rfl
end
/-- What a line leaves: the error, or the reader. -/
def TakeTo (w0 : World) (R M t : Nat) (n : Int) (r : Except Int Sst) (e : Ending) (w' : World) : Prop :=
  match r with
  | .error k => e = .returned (.int .i64 k) ∧ w'.cell? ⟨R, 1, none⟩ = some (.int .i64 n) ∧ Below w0.heap.size w0 w'
  | .ok s' => ∃ F vc vd vs vi vo va, e = .returned (.int .i64 0) ∧ RdAt w0 w' R M t F n vc vd vs vi vo va s'
theorem TakeTo.int {w0 : World} {R M t : Nat} {n : Int} {r : Except Int Sst} {e : Ending} {w' : World} (h : TakeTo w0 R M t n r e w') : ∃ k : Int, e = .returned (.int .i64 k) ∧ TakeTo w0 R M t n r (.returned (.int .i64 k)) w' := by
  have h0 := h
  cases r with
  | error k => exact ⟨k, h.1, h.1 ▸ h0⟩
  | ok s =>
    obtain ⟨_, _, _, _, _, _, _, e, _⟩ := h
    exact ⟨0, e, e ▸ h0⟩
def opW (ws : List Tx) : Tx := if ws.length = 2 then wAt ws 1 else []
theorem souOperand_is {w0 w : World} {A : Nat} {ws : List Tx} (h : WdAt w0 w A ws) :
    Calls Tryz.prog 135 #[.slice (some ⟨A, 0, none⟩) ws.length ws.length] w fun e w' => e = .returned (.string (txt (opW ws))) ∧ w = w' := by
  by_cases hl : ws.length = 2
  · have c1 := h.cell (i := 1) (by omega)
    have e : opW ws = wAt ws 1 := if_pos hl
    rw [e]
    generalize ws.length = m at *
    subst hl
    clear h e
    go_enter Tryz.func135, Tryz.ntmps135
    go_wp2
    go_ret
    exact ⟨rfl, rfl⟩
  · have e : opW ws = [] := if_neg hl
    rw [e]
    have hl' : ((ws.length : Int) != 2) = true := by simp; omega
    clear h e
    generalize ws.length = m at *
    clear hl
    go_enter Tryz.func135, Tryz.ntmps135
    go_wp2
    go_ret
    exact ⟨rfl, rfl⟩
def valV (l : Tx) : Int := (valO l).getD 0
def valB (l : Tx) : Bool := (valO l).isSome
theorem souFormat_is (n : Int) (w : World) (h0 : -9223372036854775808 ≤ n) (h1 : n ≤ 9223372036854775807) (hL : LinLaid w) :
    Calls Tryz.prog 153 #[.int .i64 n, .int .i64 10] w fun e w' => e = .returned (.string (txt (decL n))) ∧ Below w.heap.size w w' := by
  refine (strconv_FormatInt_10 n h0 h1 w hL.tab).mono ?_
  rintro e w' ⟨rfl, k, os, rfl⟩
  rw [decL_itoa h0 h1]
  exact ⟨rfl, Lib.below_grow _ _ (Nat.le_refl _) k os⟩
/-- What ParseInt answers, at 32 bits. -/
def PintTo (l : Tx) (w : World) (e : Ending) (w' : World) : Prop := (∃ v, Lib.parseIntB 32 l = .ok v ∧ e = .returned (.tuple #[.int .i64 v, .nilIface])) ∧ Below w.heap.size w w'
def PintNo (w : World) (e : Ending) (w' : World) : Prop := (∃ (v : Int) (T : TypeId) (p : Value), e = .returned (.tuple #[.int .i64 v, .iface T p])) ∧ Below w.heap.size w w'
theorem souPint_ok (l : Tx) (v : Int) (w : World) (hl : l.length ≤ 281474976710656) (h : Lib.parseIntB 32 l = .ok v) :
    Calls Tryz.prog 152 #[.string (txt l), .int .i64 10, .int .i64 32] w fun e w' => e = .returned (.tuple #[.int .i64 v, .nilIface]) ∧ Below w.heap.size w w' := by
  refine (strconv_ParseInt_10_at32_ok (txt l) (by rw [txt_size]; omega) v (by rw [txt_list]; exact h) w).mono ?_
  rintro e w' ⟨rfl, rfl | ⟨t, rfl⟩⟩
  · exact ⟨rfl, Below.refl _ _⟩
  · exact ⟨rfl, Lib.bytesWorld_below _ _ _⟩
theorem souPint_no (l : Tx) (w : World) (hl : l.length ≤ 281474976710656) (hL : LinLaid w) (h : ∀ n, Lib.parseIntB 32 l ≠ .ok n) :
    Calls Tryz.prog 152 #[.string (txt l), .int .i64 10, .int .i64 32] w (PintNo w) := by
  have hsz : (txt l).size ≤ 281474976710656 := by rw [txt_size]; exact hl
  cases k : Lib.parseIntB 32 l
  · exact absurd k (h _)
  · obtain ⟨tp, p, hv⟩ := hL.syn
    have h0 := World.var?_cell laysC174.m15 hv 0
    refine (Any.strconv_ParseInt_10_at32_syntax laysC174 (txt l) hsz (by rw [txt_list]; exact k) (.iface tp p) w (by simpa using h0) (Or.inr ⟨tp, p, rfl⟩)).mono ?_
    rintro e w' ⟨N, rfl, -, -, hb⟩
    exact ⟨⟨_, _, _, rfl⟩, hb⟩
  · obtain ⟨tp, p, hv⟩ := hL.rng
    have h0 := World.var?_cell laysC174.m16 hv 0
    refine (Any.strconv_ParseInt_10_at32_range laysC174 (txt l) hsz (by rw [txt_list]; exact k) (.iface tp p) w (by simpa using h0) (Or.inr ⟨tp, p, rfl⟩)).mono ?_
    rintro e w' ⟨N, rfl, -, -, hb⟩
    exact ⟨⟨_, _, _, rfl⟩, hb⟩
set_option maxHeartbeats 1000000 in
theorem souValue_is (l : Tx) (s : ByteArray) (w : World) (hs : s = txt l) (hl : l.length ≤ 281474976710656) (hL : LinLaid w) :
    Calls Tryz.prog 134 #[.string s] w fun e w' => e = .returned (.tuple #[.int .i32 (valV l), .bool (valB l)]) ∧ Below w.heap.size w w' := by
  subst hs
  by_cases h : ∃ v, Lib.parseIntB 32 l = .ok v
  · obtain ⟨v, h⟩ := h
    have hA := Lib.hid (fun W => souPint_ok l v W hl h)
    have HL := Lib.hid hL
    have hbd := Lib.parseIntB_bounds h
    have ex : ((2 ^ (32 - 1) : Nat) : Int) = 2147483648 := by decide
    rw [ex] at hbd
    have hv := val_pint h
    obtain ⟨hb1, hb2⟩ := hbd
    clear hL
    by_cases k3 : decL v = l
    · rw [if_pos k3] at hv
      have e1 : valV l = v := by unfold valV; rw [hv]; rfl
      have e2 : valB l = true := by unfold valB; rw [hv]; rfl
      rw [e1, e2]
      have k4 := str_same (congrArg txt k3)
      clear h e1 e2 hv ex
      have K3 := Lib.hid k3
      clear k3
      go_enter Tryz.func134, Tryz.ntmps134
      go_wp2_with (first
        | (go_at_call 152; ((with_reducible refine (hA.out _).mono ?_); rintro e w1 ⟨rfl, hb⟩; have HB := Lib.hid hb; clear hb))
        | (go_at_call 153; ((with_reducible refine (souFormat_is v _ (by omega) (by omega) (HL.out.below HB.out (Nat.le_refl _))).mono ?_); rintro e w2 ⟨rfl, hb2⟩); have HB2 := Lib.hid hb2; clear hb2))
      go_ret2
      exact ⟨rfl, HB.out.trans (HB2.out.mono HB.out.size)⟩
    · rw [if_neg k3] at hv
      have e1 : valV l = 0 := by unfold valV; rw [hv]; rfl
      have e2 : valB l = false := by unfold valB; rw [hv]; rfl
      rw [e1, e2]
      have k4 := str_apart (fun e => k3 (txt_inj e))
      clear h e1 e2 hv ex
      have K3 := Lib.hid k3
      clear k3
      go_enter Tryz.func134, Tryz.ntmps134
      go_wp2_with (first
        | (go_at_call 152; ((with_reducible refine (hA.out _).mono ?_); rintro e w1 ⟨rfl, hb⟩; have HB := Lib.hid hb; clear hb))
        | (go_at_call 153; ((with_reducible refine (souFormat_is v _ (by omega) (by omega) (HL.out.below HB.out (Nat.le_refl _))).mono ?_); rintro e w2 ⟨rfl, hb2⟩); have HB2 := Lib.hid hb2; clear hb2))
      go_ret2
      exact ⟨rfl, HB.out.trans (HB2.out.mono HB.out.size)⟩
  · have hv := val_fail (l := l) fun n q => h ⟨n, q⟩
    have hA := Lib.hid (souPint_no l w hl hL fun n q => h ⟨n, q⟩)
    have e1 : valV l = 0 := by unfold valV; rw [hv]; rfl
    have e2 : valB l = false := by unfold valB; rw [hv]; rfl
    rw [e1, e2]
    clear h hv e1 e2 hL
    go_enter Tryz.func134, Tryz.ntmps134
    go_wp2_with (go_at_call 152; ((with_reducible refine (hA.out).mono ?_); rintro e w1 ⟨⟨v, T, p, rfl⟩, hb⟩; have HB := Lib.hid hb; clear hb))
    go_ret2
    exact ⟨rfl, HB.out⟩
end

section
open Go.RowKit Go.Maps Go.IntWalk

theorem infoI32 : (Tryz.prog.info? 21).map (fun i => (i.zero, i.size, i.bytes)) = some (some (.int .i32 0), 1, 4) := by kernel_rfl
theorem infoU32 : (Tryz.prog.info? 41).map (fun i => (i.zero, i.size, i.bytes)) = some (some (.int .u32 0), 1, 4) := by kernel_rfl
theorem infoBl : (Tryz.prog.info? 4).map (fun i => (i.zero, i.size, i.bytes)) = some (some (.bool false), 1, 1) := by kernel_rfl
theorem infoInt : (Tryz.prog.info? 3).map (fun i => (i.zero, i.size, i.bytes)) = some (some (.int .i64 0), 1, 8) := by kernel_rfl
section
variable {w0 w : World} {R M t A : Nat} {F : Nat → Prop} {n : Int} {vc vd vs vi vo va : Value} {s : Sst} {ws : List Tx}
theorem dataS (s : Sst) (ws : List Tx) (b : Bool) : (if ws.length ≠ 2 then Except.error 3 else match valO (wAt ws 1) with | none => Except.error (3 : Int) | some x => .ok { s with data := s.data ++ [x], sec := s.sec ++ [b] }) = if valB (opW ws) = true then .ok { s with data := s.data ++ [valV (opW ws)], sec := s.sec ++ [b] } else .error 3 := by
  unfold opW
  by_cases h : ws.length = 2
  · rw [if_neg (fun q => q h), if_pos h]
    unfold valB valV
    cases valO (wAt ws 1) <;> rfl
  · rw [if_pos h, if_neg h]
    rfl
theorem addrS (ws : List Tx) (f : Int → Sst) : (if ws.length ≠ 2 then Except.error 3 else if numOk (wAt ws 1) = true then Except.ok (f (numV (wAt ws 1))) else .error (3 : Int)) = if numOk (opW ws) = true then .ok (f (numV (opW ws))) else .error 3 := by
  unfold opW
  by_cases h : ws.length = 2
  · rw [if_neg (fun q => q h), if_pos h]
  · rw [if_pos h, if_neg h, numOk_nil]
    rfl
set_option maxRecDepth 100000 in
set_option maxHeartbeats 2000000 in
theorem souData_is (b : Bool) (h : RdAt w0 w R M t F n vc vd vs vi vo va s) (hW : WdAt w0 w A ws) (hL : LinLaid w0) (hl : (opW ws).length ≤ 281474976710656) (hn : s.data.length ≤ 1000000) (hm : s.sec.length ≤ 1000000) :
    Calls Tryz.prog 105 #[.pointer (some ⟨R, 0, none⟩), .slice (some ⟨A, 0, none⟩) ws.length ws.length, .bool b] w (TakeTo w0 R M t n (if valB (opW ws) = true then .ok { s with data := s.data ++ [valV (opW ws)], sec := s.sec ++ [b] } else .error 3)) := by
  have HO := Lib.hid (souOperand_is hW)
  have HV := Lib.hid (souValue_is (opW ws) (txt (opW ws)) w rfl hl (hL.below h.bel (Nat.le_refl _)))
  have H := Lib.hid h
  clear hW hL hl
  generalize valV (opW ws) = x at *
  cases hv : valB (opW ws)
  · rw [hv] at HV
    rw [if_neg (by decide)]
    clear h hv
    go_enter Tryz.func105, Tryz.ntmps105
    go_wp2_with (first
      | (go_at_call 135; ((with_reducible refine (HO.out).mono ?_); rintro e w1 ⟨rfl, rfl⟩))
      | (go_at_call 134; ((with_reducible refine (HV.out).mono ?_); rintro e w2 ⟨rfl, hb⟩; have HB := Lib.hid hb; clear hb)))
    go_ret
    have h2 := H.out.keep HB.out
    exact ⟨rfl, h2.blk.cell 1, h2.bel⟩
  · rw [hv] at HV
    rw [if_pos rfl]
    obtain ⟨i0, hi, hz0, hz1, hz2⟩ := info_el infoI32
    obtain ⟨j0, hj, hy0, hy1, hy2⟩ := info_el infoBl
    clear h hv
    go_enter Tryz.func105, Tryz.ntmps105
    go_wp2_with (first
      | (go_at_call 135; ((with_reducible refine (HO.out).mono ?_); rintro e w1 ⟨rfl, rfl⟩))
      | (go_at_call 134; ((with_reducible refine (HV.out).mono ?_); rintro e w2 ⟨rfl, hb⟩); have H2 := Lib.hid (H.out.keep hb); have c3 := H2.out.blk.cell 3; have hs2 := H2.out.sz; have B2 := Lib.hid ((Below.refl w2.heap.size w2).alloc (Nat.le_refl _) (.cells #[.int .i32 x] 21)); have D2 := Lib.hid (H2.out.keep B2.out); have E2 := Lib.hid (one_el (K := numK .i32) (b := w2.heap.size) w2 21 x #[.int .i32 x] rfl rfl); clear hb)
      | (at_builtin; refine wpList_append_el1 rfl _ _ 23 rfl w0.heap.size 21 i0 _ Tryz.underlying23 hi hz0 hz1 (by omega) rfl rfl D2.out.data rfl E2.out (by omega) (by have := B2.out.size; omega) ?_; intro v3 w3 hown3 hgrow3 hnext3; obtain ⟨a3, n3, c3', rfl⟩ := OwnEl.shape hown3; have hbk : BlkAt R 48 _ w3 := D2.out.blk.kept (Keeps.of_grown (F := fun j => vd.ownBlock = some j) hgrow3 fun _ q => q) (own_off_type D2.out.data D2.out.blk (by decide)); have q3 := hbk.cell 3; have p3 := hbk.free 3; have q4 := hbk.cell 4; have p4 := hbk.free 4; have H3 := Lib.hid (D2.out.grow_data hown3 hgrow3 hnext3); have Z3 := Lib.hid (show w0.heap.size ≤ w3.heap.size by have := H3.out.sz; simpa [World.setCell] using this); have B3 := Lib.hid (fun o => H3.out.keep ((Below.refl _ (w3.setCell ⟨R, 3, none⟩ (.slice a3 n3 c3'))).alloc (Nat.le_refl _) o)); have E3 := Lib.hid (one_el (K := boolK) (b := w3.heap.size) (w3.setCell ⟨R, 3, none⟩ (.slice a3 n3 c3')) 4 b #[.bool b] rfl (by simp [World.setCell])); clear hown3 hgrow3 hnext3 hbk)
      | (at_builtin; refine wpList_append_el1 rfl _ _ 24 rfl w0.heap.size 4 j0 _ Tryz.underlying24 hj hy0 hy1 (by omega) rfl rfl (B3.out (.cells #[.bool b] 4)).sec rfl E3.out (by show s.sec.length + 1 ≤ 1048576; omega) (B3.out (.cells #[.bool b] 4)).sz ?_; intro v5 w5 hown5 hgrow5 hnext5; obtain ⟨a5, n5, c5', rfl⟩ := OwnEl.shape hown5; have hbk : BlkAt R 48 _ w5 := (B3.out (.cells #[.bool b] 4)).blk.kept (Keeps.of_grown (F := fun j => vs.ownBlock = some j) hgrow5 fun _ q => q) (own_off_type (B3.out (.cells #[.bool b] 4)).sec (B3.out (.cells #[.bool b] 4)).blk (by decide)); have r4 := hbk.cell 4; have u4 := hbk.free 4; have H5 := Lib.hid ((B3.out (.cells #[.bool b] 4)).grow_sec hown5 hgrow5 hnext5); clear hown5 hgrow5 hnext5 hbk))
    go_ret
    exact ⟨_, _, _, _, _, _, _, rfl, H5.out⟩
theorem souAdd_open (h : RdAt w0 w R M t F n vc vd vs vi vo va s) (hW : WdAt w0 w A ws) (hL : LinLaid w0) (hl : (opW ws).length ≤ 281474976710656) (hn : s.data.length ≤ 1000000) (hm : s.sec.length ≤ 1000000) :
    Calls Tryz.prog 68 #[.pointer (some ⟨R, 0, none⟩), .slice (some ⟨A, 0, none⟩) ws.length ws.length] w (TakeTo w0 R M t n (if valB (opW ws) = true then .ok { s with data := s.data ++ [valV (opW ws)], sec := s.sec ++ [false] } else .error 3)) := by
  have C := Lib.hid (souData_is false h hW hL hl hn hm)
  clear h hW hL hl hn hm
  obtain ⟨r, hr⟩ : ∃ r, (if valB (opW ws) = true then Except.ok { s with data := s.data ++ [valV (opW ws)], sec := s.sec ++ [false] } else Except.error (3 : Int)) = r := ⟨_, rfl⟩
  rw [hr] at C ⊢
  clear hr
  go_enter Tryz.func68, Tryz.ntmps68
  go_wp2_with (go_at_call 105; ((with_reducible refine (C.out).mono ?_); intro e w1 hr; obtain ⟨k, rfl, hk⟩ := hr.int; have HR := Lib.hid hk; clear hr hk))
  go_ret
  exact HR.out
theorem souAdd_secret (h : RdAt w0 w R M t F n vc vd vs vi vo va s) (hW : WdAt w0 w A ws) (hL : LinLaid w0) (hl : (opW ws).length ≤ 281474976710656) (hn : s.data.length ≤ 1000000) (hm : s.sec.length ≤ 1000000) :
    Calls Tryz.prog 69 #[.pointer (some ⟨R, 0, none⟩), .slice (some ⟨A, 0, none⟩) ws.length ws.length] w (TakeTo w0 R M t n (if valB (opW ws) = true then .ok { s with data := s.data ++ [valV (opW ws)], sec := s.sec ++ [true] } else .error 3)) := by
  have C := Lib.hid (souData_is true h hW hL hl hn hm)
  clear h hW hL hl hn hm
  obtain ⟨r, hr⟩ : ∃ r, (if valB (opW ws) = true then Except.ok { s with data := s.data ++ [valV (opW ws)], sec := s.sec ++ [true] } else Except.error (3 : Int)) = r := ⟨_, rfl⟩
  rw [hr] at C ⊢
  clear hr
  go_enter Tryz.func69, Tryz.ntmps69
  go_wp2_with (go_at_call 105; ((with_reducible refine (C.out).mono ?_); intro e w1 hr; obtain ⟨k, rfl, hk⟩ := hr.int; have HR := Lib.hid hk; clear hr hk))
  go_ret
  exact HR.out
set_option maxRecDepth 100000 in
set_option maxHeartbeats 2000000 in
theorem souAddress_in (h : RdAt w0 w R M t F n vc vd vs vi vo va s) (hW : WdAt w0 w A ws) (hL : LinLaid w0) (hl : (opW ws).length ≤ 281474976710656) (hn : s.inn.length ≤ 1000000) :
    Calls Tryz.prog 106 #[.pointer (some ⟨R, 5, none⟩), .slice (some ⟨A, 0, none⟩) ws.length ws.length] w (TakeTo w0 R M t n (if numOk (opW ws) = true then .ok { s with inn := s.inn ++ [numV (opW ws)] } else .error 3)) := by
  have HO := Lib.hid (souOperand_is hW)
  obtain ⟨x, hx⟩ : ∃ x, numV (opW ws) = x := ⟨_, rfl⟩
  obtain ⟨z, hz⟩ : ∃ z, numOk (opW ws) = z := ⟨_, rfl⟩
  have HV := Lib.hid (lineNumber_to (w := w) (rfl : txt (opW ws) = _) hl hx hz (hL.below h.bel (Nat.le_refl _)))
  have H := Lib.hid h
  rw [hx, hz]
  clear hW hL hl hx hz
  cases z
  · rw [if_neg (by decide)]
    clear h
    go_enter Tryz.func106, Tryz.ntmps106
    go_wp2_with (first
      | (go_at_call 135; ((with_reducible refine (HO.out).mono ?_); rintro e w1 ⟨rfl, rfl⟩))
      | (go_at_call 136; ((with_reducible refine (HV.out).mono ?_); rintro e w2 ⟨rfl, hb⟩; have HB := Lib.hid hb; clear hb)))
    go_ret
    have h2 := H.out.keep HB.out
    exact ⟨rfl, h2.blk.cell 1, h2.bel⟩
  · rw [if_pos rfl]
    obtain ⟨i0, hi, hz0, hz1, hz2⟩ := info_el infoInt
    clear h
    go_enter Tryz.func106, Tryz.ntmps106
    go_wp2_with (first
      | (go_at_call 135; ((with_reducible refine (HO.out).mono ?_); rintro e w1 ⟨rfl, rfl⟩))
      | (go_at_call 136; ((with_reducible refine (HV.out).mono ?_); rintro e w2 ⟨rfl, hb⟩); have H2 := Lib.hid (H.out.keep hb); have c3 := H2.out.blk.cell 5; have hs2 := H2.out.sz; have B2 := Lib.hid ((Below.refl w2.heap.size w2).alloc (Nat.le_refl _) (.cells #[.int .i64 x] 3)); have D2 := Lib.hid (H2.out.keep B2.out); have E2 := Lib.hid (one_el (K := numK .i64) (b := w2.heap.size) w2 3 x #[.int .i64 x] rfl rfl); clear hb)
      | (at_builtin; refine wpList_append_el1 rfl _ _ 25 rfl w0.heap.size 3 i0 _ Tryz.underlying25 hi hz0 hz1 (by omega) rfl rfl D2.out.inn rfl E2.out (by omega) (by have := B2.out.size; omega) ?_; intro v3 w3 hown3 hgrow3 hnext3; obtain ⟨a3, n3, c3', rfl⟩ := OwnEl.shape hown3; have hbk : BlkAt R 48 _ w3 := D2.out.blk.kept (Keeps.of_grown (F := fun j => vi.ownBlock = some j) hgrow3 fun _ q => q) (own_off_type D2.out.inn D2.out.blk (by decide)); have q3 := hbk.cell 5; have p3 := hbk.free 5; have H3 := Lib.hid (D2.out.grow_inn hown3 hgrow3 hnext3); clear hown3 hgrow3 hnext3 hbk))
    go_ret
    exact ⟨_, _, _, _, _, _, _, rfl, H3.out⟩
theorem souAdd_in (h : RdAt w0 w R M t F n vc vd vs vi vo va s) (hW : WdAt w0 w A ws) (hL : LinLaid w0) (hl : (opW ws).length ≤ 281474976710656) (hn : s.inn.length ≤ 1000000) :
    Calls Tryz.prog 70 #[.pointer (some ⟨R, 0, none⟩), .slice (some ⟨A, 0, none⟩) ws.length ws.length] w (TakeTo w0 R M t n (if numOk (opW ws) = true then .ok { s with inn := s.inn ++ [numV (opW ws)] } else .error 3)) := by
  have C := Lib.hid (souAddress_in h hW hL hl hn)
  clear h hW hL hl hn
  obtain ⟨r, hr⟩ : ∃ r, (if numOk (opW ws) = true then Except.ok { s with inn := s.inn ++ [numV (opW ws)] } else Except.error (3 : Int)) = r := ⟨_, rfl⟩
  rw [hr] at C ⊢
  clear hr
  go_enter Tryz.func70, Tryz.ntmps70
  go_wp2_with (go_at_call 106; ((with_reducible refine (C.out).mono ?_); intro e w1 hr; obtain ⟨k, rfl, hk⟩ := hr.int; have HR := Lib.hid hk; clear hr hk))
  go_ret
  exact HR.out
set_option maxRecDepth 100000 in
set_option maxHeartbeats 2000000 in
theorem souAddress_out (h : RdAt w0 w R M t F n vc vd vs vi vo va s) (hW : WdAt w0 w A ws) (hL : LinLaid w0) (hl : (opW ws).length ≤ 281474976710656) (hn : s.out.length ≤ 1000000) :
    Calls Tryz.prog 106 #[.pointer (some ⟨R, 6, none⟩), .slice (some ⟨A, 0, none⟩) ws.length ws.length] w (TakeTo w0 R M t n (if numOk (opW ws) = true then .ok { s with out := s.out ++ [numV (opW ws)] } else .error 3)) := by
  have HO := Lib.hid (souOperand_is hW)
  obtain ⟨x, hx⟩ : ∃ x, numV (opW ws) = x := ⟨_, rfl⟩
  obtain ⟨z, hz⟩ : ∃ z, numOk (opW ws) = z := ⟨_, rfl⟩
  have HV := Lib.hid (lineNumber_to (w := w) (rfl : txt (opW ws) = _) hl hx hz (hL.below h.bel (Nat.le_refl _)))
  have H := Lib.hid h
  rw [hx, hz]
  clear hW hL hl hx hz
  cases z
  · rw [if_neg (by decide)]
    clear h
    go_enter Tryz.func106, Tryz.ntmps106
    go_wp2_with (first
      | (go_at_call 135; ((with_reducible refine (HO.out).mono ?_); rintro e w1 ⟨rfl, rfl⟩))
      | (go_at_call 136; ((with_reducible refine (HV.out).mono ?_); rintro e w2 ⟨rfl, hb⟩; have HB := Lib.hid hb; clear hb)))
    go_ret
    have h2 := H.out.keep HB.out
    exact ⟨rfl, h2.blk.cell 1, h2.bel⟩
  · rw [if_pos rfl]
    obtain ⟨i0, hi, hz0, hz1, hz2⟩ := info_el infoInt
    clear h
    go_enter Tryz.func106, Tryz.ntmps106
    go_wp2_with (first
      | (go_at_call 135; ((with_reducible refine (HO.out).mono ?_); rintro e w1 ⟨rfl, rfl⟩))
      | (go_at_call 136; ((with_reducible refine (HV.out).mono ?_); rintro e w2 ⟨rfl, hb⟩); have H2 := Lib.hid (H.out.keep hb); have c3 := H2.out.blk.cell 6; have hs2 := H2.out.sz; have B2 := Lib.hid ((Below.refl w2.heap.size w2).alloc (Nat.le_refl _) (.cells #[.int .i64 x] 3)); have D2 := Lib.hid (H2.out.keep B2.out); have E2 := Lib.hid (one_el (K := numK .i64) (b := w2.heap.size) w2 3 x #[.int .i64 x] rfl rfl); clear hb)
      | (at_builtin; refine wpList_append_el1 rfl _ _ 25 rfl w0.heap.size 3 i0 _ Tryz.underlying25 hi hz0 hz1 (by omega) rfl rfl D2.out.out rfl E2.out (by omega) (by have := B2.out.size; omega) ?_; intro v3 w3 hown3 hgrow3 hnext3; obtain ⟨a3, n3, c3', rfl⟩ := OwnEl.shape hown3; have hbk : BlkAt R 48 _ w3 := D2.out.blk.kept (Keeps.of_grown (F := fun j => vo.ownBlock = some j) hgrow3 fun _ q => q) (own_off_type D2.out.out D2.out.blk (by decide)); have q3 := hbk.cell 6; have p3 := hbk.free 6; have H3 := Lib.hid (D2.out.grow_out hown3 hgrow3 hnext3); clear hown3 hgrow3 hnext3 hbk))
    go_ret
    exact ⟨_, _, _, _, _, _, _, rfl, H3.out⟩
theorem souAdd_out (h : RdAt w0 w R M t F n vc vd vs vi vo va s) (hW : WdAt w0 w A ws) (hL : LinLaid w0) (hl : (opW ws).length ≤ 281474976710656) (hn : s.out.length ≤ 1000000) :
    Calls Tryz.prog 71 #[.pointer (some ⟨R, 0, none⟩), .slice (some ⟨A, 0, none⟩) ws.length ws.length] w (TakeTo w0 R M t n (if numOk (opW ws) = true then .ok { s with out := s.out ++ [numV (opW ws)] } else .error 3)) := by
  have C := Lib.hid (souAddress_out h hW hL hl hn)
  clear h hW hL hl hn
  obtain ⟨r, hr⟩ : ∃ r, (if numOk (opW ws) = true then Except.ok { s with out := s.out ++ [numV (opW ws)] } else Except.error (3 : Int)) = r := ⟨_, rfl⟩
  rw [hr] at C ⊢
  clear hr
  go_enter Tryz.func71, Tryz.ntmps71
  go_wp2_with (go_at_call 106; ((with_reducible refine (C.out).mono ?_); intro e w1 hr; obtain ⟨k, rfl, hk⟩ := hr.int; have HR := Lib.hid hk; clear hr hk))
  go_ret
  exact HR.out
end
end

section
open Go.RowKit Go.Maps Go.IntWalk

section
variable {w0 w : World} {R M t A : Nat} {F : Nat → Prop} {n : Int} {vc vd vs vi vo va : Value} {s : Sst} {ws : List Tx}
theorem len_wsum : ∀ l : List Tx, l.length ≤ wsum l
  | [] => by simp
  | x :: l => by
    have ih := len_wsum l
    have e : wsum (x :: l) = x.length + 1 + wsum l := by simp [wsum]
    rw [List.length_cons]; omega
theorem words_back (ws : List Tx) : (ws.map txt).map (·.data.toList) = ws := by
  rw [List.map_map]
  conv => rhs; rw [← List.map_id ws]
  apply List.map_congr_left
  intro x _
  exact txt_list x
theorem souJoin_is (hW : WdAt w0 w A ws) (hs : wsum ws < 1000000) :
    Calls Tryz.prog 89 #[.slice (some ⟨A, 0, none⟩) ws.length ws.length, .string ⟨#[32]⟩] w fun e w' => e = .returned (.string (txt (Lib.join ws [32]))) ∧ Below w.heap.size w w' := by
  have hm : (ws.map txt).length = ws.length := by simp
  have hj := join_sum ws
  have hb : (⟨#[32]⟩ : ByteArray).data.toList = [32] := rfl
  have hle := len_wsum ws
  have := strings_Join A 0 ws.length (ws.map txt) ⟨#[32]⟩ w (fun j x hx => by
    obtain ⟨hj, e⟩ := List.getElem?_eq_some_iff.1 hx
    rw [hm] at hj
    have c := hW.cell hj
    rw [Nat.zero_add, c]
    rw [← e, List.getElem_map]
    unfold wAt
    rw [List.getD_eq_getElem?_getD, List.getElem?_eq_getElem hj]
    rfl) hW.low.2 (by omega) (by omega) (by rw [words_back, hb]; omega)
  rw [words_back, hb, hm] at this
  exact this
set_option maxRecDepth 100000 in
set_option maxHeartbeats 2000000 in
theorem souInstr_is (h : RdAt w0 w R M t F n vc vd vs vi vo va s) (hW : WdAt w0 w A ws) (hws : ∀ u ∈ ws, u ≠ [] ∧ ∀ x ∈ u, x ≠ 32) (hL : LinLaid w0) (hs : wsum ws < 1000000) (hn : s.ins.length ≤ 1000000) :
    Calls Tryz.prog 78 #[.pointer (some ⟨R, 0, none⟩), .slice (some ⟨A, 0, none⟩) ws.length ws.length] w (TakeTo w0 R M t n (insS s ws)) := by
  have CJ := Lib.hid (souJoin_is hW hs)
  have hwd := wds_join ws hws
  have hjl := join_sum ws
  have H := Lib.hid h
  have HL := Lib.hid hL
  obtain ⟨z, hz⟩ : ∃ z, pErr ws = z := ⟨_, rfl⟩
  obtain ⟨o, ho⟩ : ∃ z, pO ws = z := ⟨_, rfl⟩
  obtain ⟨d, hd⟩ : ∃ z, pF ws 0 = z := ⟨_, rfl⟩
  obtain ⟨a, ha⟩ : ∃ z, pF ws 1 = z := ⟨_, rfl⟩
  obtain ⟨b, hb⟩ : ∃ z, pF ws 2 = z := ⟨_, rfl⟩
  obtain ⟨m, hm⟩ : ∃ z, pF ws 3 = z := ⟨_, rfl⟩
  have CP := Lib.hid (fun w' (q : LinLaid w') => lineParse_to (l := Lib.join ws [32]) (o := o) (d := d) (a := a) (b := b) (n := m) (z := z) (w := w') rfl (by omega) (by rw [hwd]; exact ho) (by rw [hwd]; exact hd) (by rw [hwd]; exact ha) (by rw [hwd]; exact hb) (by rw [hwd]; exact hm) (by rw [hwd]; exact hz) q)
  unfold insS
  rw [hz, ho, hd, ha, hb, hm]
  generalize Lib.join ws [32] = jl at *
  clear hwd hjl hW hws hs hz ho hd ha hb hm hL
  by_cases hz : z = 0
  · subst hz
    rw [if_neg (fun q => q rfl)]
    obtain ⟨v, hv⟩ : ∃ v, cEnc o d a b m = v := ⟨_, rfl⟩
    obtain ⟨z, hz⟩ : ∃ z, cChk o d a b m = z := ⟨_, rfl⟩
    have CE := Lib.hid (fun w' (q : ShapesLaid w') => codeEncode_is o d a b m v z w' q hz hv)
    obtain ⟨i0, hi, hz0, hz1, hz2⟩ := info_el infoU32
    have hx : s.ins.map encQ ++ [v] = (s.ins ++ [(o, d, a, b, m)]).map encQ := by
      rw [List.map_append, ← hv]; rfl
    have HX := Lib.hid hx
    have hlen : (s.ins.map encQ).length = s.ins.length := List.length_map _
    clear h hz hv hx
    go_enter Tryz.func78, Tryz.ntmps78
    go_wp2_with (first
      | (go_at_call 89; ((with_reducible refine (CJ.out).mono ?_); rintro e w1 ⟨rfl, hk⟩); have HB := Lib.hid hk; clear hk)
      | (go_at_call 116; ((with_reducible refine (CP.out _ (HL.out.below (H.out.bel.trans (HB.out.mono H.out.sz)) (Nat.le_refl _))).mono ?_); rintro e w2 ⟨rfl, hk⟩); have HI := Lib.hid (InsW.new w w2 o d a b m 68 (HB.out.trans (hk.mono HB.out.size)) (HB.out.trans (hk.mono HB.out.size)).size); have c0 := HI.out.c0; have c1 := HI.out.c1; have c2 := HI.out.c2; have c3 := HI.out.c3; have c4 := HI.out.c4; clear hk)
      | (go_at_call 81; ((with_reducible refine (CE.out _ (HL.out.shapes.below (H.out.bel.trans (HI.out.below.mono H.out.sz)) HL.out.shapes.lt)).mono ?_); rintro e w3 ⟨rfl, hk⟩); have hI3 := HI.out.keep hk; have H3 := Lib.hid (H.out.keep hI3.below); have k2 := H3.out.blk.cell 2; have hs3 := H3.out.sz; have B3 := Lib.hid ((Below.refl w3.heap.size w3).alloc (Nat.le_refl _) (.cells #[.int .u32 v] 41)); have D3 := Lib.hid (H3.out.keep B3.out); have E3 := Lib.hid (one_el (K := numK .u32) (b := w3.heap.size) w3 41 v #[.int .u32 v] rfl rfl); clear hk hI3)
      | (at_builtin; refine wpList_append_el1 rfl _ _ 22 rfl w0.heap.size 41 i0 _ Tryz.underlying22 hi hz0 hz1 (by omega) rfl rfl D3.out.code rfl E3.out (by omega) (by have := B3.out.size; omega) ?_; intro v4 w4 hown4 hgrow4 hnext4; obtain ⟨a4, n4, c4', rfl⟩ := OwnEl.shape hown4; have hbk : BlkAt R 48 _ w4 := D3.out.blk.kept (Keeps.of_grown (F := fun j => vc.ownBlock = some j) hgrow4 fun _ q => q) (own_off_type D3.out.code D3.out.blk (by decide)); have q4 := hbk.cell 2; have p4 := hbk.free 2; rw [HX.out] at hown4; have H4 := Lib.hid (D3.out.grow_code hown4 hgrow4 hnext4); clear hown4 hgrow4 hnext4 hbk))
    go_ret
    exact ⟨_, _, _, _, _, _, _, rfl, H4.out⟩
  · rw [if_pos hz]
    have hz' : (z == 0) = false := by simpa using hz
    clear h hz
    go_enter Tryz.func78, Tryz.ntmps78
    go_wp2_with (first
      | (go_at_call 89; ((with_reducible refine (CJ.out).mono ?_); rintro e w1 ⟨rfl, hk⟩); have HB := Lib.hid hk; clear hk)
      | (go_at_call 116; ((with_reducible refine (CP.out _ (HL.out.below (H.out.bel.trans (HB.out.mono H.out.sz)) (Nat.le_refl _))).mono ?_); rintro e w2 ⟨rfl, hk⟩); have HI := Lib.hid (InsW.new w w2 o d a b m 68 (HB.out.trans (hk.mono HB.out.size)) (HB.out.trans (hk.mono HB.out.size)).size); clear hk))
    go_ret
    have h2 := H.out.keep HI.out.below
    exact ⟨rfl, h2.blk.cell 1, h2.bel⟩
end
end

end Go.Proofs.YtekhgidbnpfmnaaGreatDoor
