/- Package label's table in memory; made, spotOf, Place, Define, Use, New; of nobody's table. -/
import Derived.Test.YtekhgidbnpfmnaaGreatDoorProg
import Derived.Test.YtekhgidbnpfmnaaGreatDoorLabI
import Derived.Test.YtekhgidbnpfmnaaGreatDoorLabU
import Derived.Test.YtekhgidbnpfmnaaGreatDoorShelf
import Derived.Maps.RangeWalk
import Derived.Lib.Builder
import Derived.StillTailTactics
import Derived.Carry
namespace Go.Proofs.YtekhgidbnpfmnaaGreatDoor
open Go.RowKit

section
open Go.RowKit Go.Maps

/-- How an element of the map reads: by the block that it leads to. -/
def ptrElem (v : Value) : Option (DataW Unit × List MemPlace) :=
  match v with
  | .pointer none => some (.nil, [])
  | .pointer (some a) => if a.off = 0 ∧ a.spot = none then some (.lit (.int .i64 a.block), []) else none
  | _ => none
theorem ptrElem_mk (b : Nat) : ptrElem (.pointer (some ⟨b, 0, none⟩)) = some (.lit (.int .i64 b), []) := by simp [ptrElem]
theorem ptrElem_inv {v : Value} {b : Nat} {ps : List MemPlace} (h : ptrElem v = some (.lit (.int .i64 b), ps)) : v = .pointer (some ⟨b, 0, none⟩) := by
  unfold ptrElem at h
  split at h
  · cases h
  · rename_i a
    obtain ⟨x, y, z⟩ := a
    split at h
    · rename_i q
      simp at q
      obtain ⟨rfl, rfl⟩ := q
      simp at h
      obtain ⟨e, -⟩ := h
      have e' : x = b := by omega
      rw [e']
    · cases h
  · cases h
theorem ptrElem_nil {v : Value} {ps : List MemPlace} (h : ptrElem v = some (.nil, ps)) : v = .pointer none := by
  unfold ptrElem at h
  split at h
  · rfl
  · split at h <;> cases h
  · cases h
theorem ptrElem_shape {v : Value} {y : DataW Unit × List MemPlace} (h : ptrElem v = some y) : ∃ a, v = .pointer a := by
  unfold ptrElem at h
  split at h
  · exact ⟨_, rfl⟩
  · exact ⟨_, rfl⟩
  · cases h
def sLit (s : ByteArray) : Lit := .string s.data.toList
theorem sLit_inj {a b : ByteArray} (h : sLit a = sLit b) : a = b := by
  unfold sLit at h
  simp only [Lit.string.injEq] at h
  exact str_ext h
theorem sLit_key (s : ByteArray) : WideAt.IsKeyLit (sLit s) := trivial
abbrev Rw := List (ByteArray × Nat)
/-- The map tells each name's block. -/
structure NmIs (D : DataW Unit) (rows : Rw) : Prop where
  isMap : IsMap D
  far : ∀ s, s ∉ rows.map (·.1) → Maps.has D (sLit s) = false
  here : ∀ r ∈ rows, Maps.has D (sLit r.1) = true ∧ ∀ z, D.atKey (sLit r.1) z = .lit (.int .i64 r.2)
  once : (rows.map (·.1)).Nodup
theorem NmIs.nil : NmIs (.map []) [] := by
  refine ⟨isMap_empty, fun _ _ => rfl, ?_, List.nodup_nil⟩
  intro r h
  cases h
theorem NmIs.put {D : DataW Unit} {rows : Rw} (h : NmIs D rows) {s : ByteArray} (hs : s ∉ rows.map (·.1)) (b : Nat) : NmIs (D.put (sLit s) (.lit (.int .i64 b))) (rows ++ [(s, b)]) := by
  refine ⟨h.isMap.put _ _, fun q hq => ?_, fun r hr => ?_, ?_⟩
  · rw [List.map_append, List.mem_append] at hq
    have h1 : q ≠ s := fun e => hq (.inr (by simp [e]))
    rw [has_put_other fun e => h1 (sLit_inj e)]
    exact h.far q fun e => hq (.inl e)
  · rcases List.mem_append.1 hr with hr | hr
    · have h1 : r.1 ≠ s := fun e => hs (e ▸ List.mem_map_of_mem hr)
      rw [has_put_other fun e => h1 (sLit_inj e)]
      exact ⟨(h.here r hr).1, fun z => by rw [atKey_put_other fun e => h1 (sLit_inj e)]; exact (h.here r hr).2 z⟩
    · rw [List.mem_singleton.1 hr]
      exact ⟨has_put_same h.isMap (sLit_key s) _, fun z => atKey_put_same h.isMap (sLit_key s) _ z⟩
  · rw [List.map_append, List.nodup_append]
    refine ⟨h.once, by simp, fun a ha b hb => ?_⟩
    simp at hb
    subst hb
    intro e; subst e
    exact hs ha
theorem strLaw : Keyed Tryz.prog 9 := string_keyed Tryz.underlying9
theorem zeroSpot (w : World) : (zeroValue 126).run Tryz.prog w = .ok (.pointer none) w := by kernel_rfl
theorem map_kept {F : Nat → Prop} {w w' : World} {P : Program} {k : TypeId} {R : Value → Option (DataW Unit × List MemPlace)} {M n : Nat} {D : DataW Unit} (h : w.ownsMap P k R M n D) (k' : Keeps F w w') (hn : ¬ F M) : w'.ownsMap P k R M n D := by
  have hl := h.lt
  obtain ⟨es, clock, hb, r⟩ := h
  exact ⟨es, clock, (k'.block M hl hn).trans hb, r⟩
theorem map_ne {w : World} {P : Program} {k : TypeId} {R : Value → Option (DataW Unit × List MemPlace)} {M n b : Nat} {D : DataW Unit} {T : TypeId} {cs : Array Value} (h : w.ownsMap P k R M n D) (hb : BlkAt b T cs w) : b ≠ M := by
  rintro rfl
  obtain ⟨es, clock, hm, _⟩ := h
  unfold BlkAt at hb
  rw [hb] at hm
  cases hm
theorem map_own_ne {w : World} {P : Program} {k : TypeId} {R : Value → Option (DataW Unit × List MemPlace)} {M n base size m : Nat} {D : DataW Unit} {e : TypeId} {v : Value} {xs : List Value} (h : w.ownsMap P k R M n D) (ho : w.ownsRow base e size v m xs) : v.ownBlock ≠ some M := by
  intro q
  obtain ⟨es, clock, hm, _⟩ := h
  obtain ⟨_, hc⟩ := ho
  rcases hc with ⟨rfl, _⟩ | ⟨g, cap, cur, rfl, _, hg, _⟩
  · cases q
  · simp only [Value.ownBlock, Option.some.injEq] at q
    subst q
    rw [hg] at hm
    cases hm

/-- The table in memory: t's block, the map's, one for each name that was told, the uses' list; F: its blocks. -/
structure LabIn (B : Nat) (w : World) (t : Nat) (ds us : Df) (F : Nat → Prop) (M m : Nat) (D : DataW Unit) (rows : Rw) (v : Value) : Prop where
  blk : BlkAt t 118 #[.map (some M), v, .pointer (some ⟨t, 0, none⟩)] w
  map : w.ownsMap Tryz.prog 9 ptrElem M m D
  nms : NmIs D rows
  spots : ∀ r ∈ rows, BlkAt r.2 129 #[.string r.1, .int .i64 (plV ds r.1), .bool (plB ds r.1)] w
  apart : (rows.map (·.2)).Nodup
  defs : ∀ d ∈ ds, d.1 ∈ rows.map (·.1)
  uses : ∃ ub, OwnEl useK w B 237 v ub ∧ ub.length = us.length ∧ ∀ i, i < us.length → ((el us i).1, (el ub i).1) ∈ rows ∧ (el ub i).2 = (el us i).2
  once : Once ds
  long : ∀ r ∈ rows, nameB r.1 = true
  ft : F t
  fm : F M
  fs : ∀ r ∈ rows, F r.2
  fu : ∀ j, v.ownBlock = some j → F j
  low : ∀ j, F j → B ≤ j ∧ j < w.heap.size
def LabAt (B : Nat) (w : World) (t : Nat) (ds us : Df) (F : Nat → Prop) : Prop := ∃ M m D rows v, LabIn B w t ds us F M m D rows v ∧ m ≤ ds.length + us.length
section
variable {B t M m : Nat} {w w' : World} {ds us : Df} {F G : Nat → Prop} {D : DataW Unit} {rows : Rw} {v : Value}
theorem LabIn.kept (h : LabIn B w t ds us F M m D rows v) (k : Keeps G w w') (hn : ∀ j, F j → ¬ G j) : LabIn B w' t ds us F M m D rows v := by
  obtain ⟨ub, u1, u2, u3⟩ := h.uses
  exact ⟨h.blk.kept k (hn _ h.ft), map_kept h.map k (hn _ h.fm), h.nms, fun r hr => (h.spots r hr).kept k (hn _ (h.fs r hr)), h.apart, h.defs, ⟨ub, u1.kept k fun j q => hn j (h.fu j q), u2, u3⟩, h.once, h.long, h.ft, h.fm, h.fs, h.fu, fun j q => ⟨(h.low j q).1, Nat.lt_of_lt_of_le (h.low j q).2 k.size⟩⟩
theorem LabIn.keep (h : LabIn B w t ds us F M m D rows v) (k : Below w.heap.size w w') : LabIn B w' t ds us F M m D rows v := h.kept (Keeps.of_below (fun _ => False) k) fun _ _ q => q
theorem LabAt.kept (h : LabAt B w t ds us F) (k : Keeps G w w') (hn : ∀ j, F j → ¬ G j) : LabAt B w' t ds us F := by
  obtain ⟨M, m, D, rows, v, h, hm⟩ := h
  exact ⟨M, m, D, rows, v, h.kept k hn, hm⟩
theorem LabAt.keep (h : LabAt B w t ds us F) (k : Below w.heap.size w w') : LabAt B w' t ds us F := h.kept (Keeps.of_below (fun _ => False) k) fun _ _ q => q
theorem LabAt.low (h : LabAt B w t ds us F) : ∀ j, F j → B ≤ j ∧ j < w.heap.size := by obtain ⟨M, m, D, rows, v, h, _⟩ := h; exact h.low
theorem LabAt.once (h : LabAt B w t ds us F) : Once ds := by obtain ⟨M, m, D, rows, v, h, _⟩ := h; exact h.once
theorem LabIn.look_old (h : LabIn B w t ds us F M m D rows v) {s : ByteArray} {b : Nat} (hr : (s, b) ∈ rows) (hs : s.size ≤ maxLen) :
    (Instr.lookup 115 (.map (some M)) (.string s) true).run Tryz.prog w = .ok (.tuple #[.pointer (some ⟨b, 0, none⟩), .bool true]) w := by
  obtain ⟨x, ps, hrun, hx⟩ := h.map.look_ok strLaw Tryz.underlying115 (zeroSpot w) (zd := .nil) (zp := []) rfl (key := .string s) (WideMaps.keyOf_string_mk Tryz.underlying9 hs)
  obtain ⟨h1, h2⟩ := h.nms.here _ hr
  have e : Lit.string s.data.toList = sLit s := rfl
  rw [e, h1] at hrun
  rw [e, h2] at hx
  rw [hrun, ptrElem_inv hx]
theorem LabIn.look_new (h : LabIn B w t ds us F M m D rows v) {s : ByteArray} (hr : s ∉ rows.map (·.1)) (hs : s.size ≤ maxLen) :
    (Instr.lookup 115 (.map (some M)) (.string s) true).run Tryz.prog w = .ok (.tuple #[.pointer none, .bool false]) w := by
  obtain ⟨es, clock, hb, Ft, _, hD⟩ := h.map
  have e : Lit.string s.data.toList = sLit s := rfl
  have hf := h.nms.far s hr
  rcases Maps.fit_look true strLaw Tryz.underlying115 (zeroSpot w) hb Ft (key := .string s) (WideMaps.keyOf_string_mk Tryz.underlying9 hs) with ⟨hrun, _, _⟩ | ⟨e0, y, _, _, _, _, hat, _⟩
  · exact hrun
  · exfalso
    have := Maps.has_true_of_atKey hat
    rw [← hD, e, hf] at this
    cases this
/-- A name told for the first time: its block, its row in the map. -/
theorem LabIn.added (h : LabIn B w t ds us F M m D rows v) {s : ByteArray} (hs : s ∉ rows.map (·.1)) (hN : nameB s = true) {w1 w3 : World} (hB : B ≤ w.heap.size) (hb : Below w.heap.size w w1)
    (hm : w3.ownsMap Tryz.prog 9 ptrElem M (m + 1) (D.put (sLit s) (.lit (.int .i64 w1.heap.size)))) (hg : (w1.alloc (.cells #[.string s, .int .i64 0, .bool false] 129)).grownBy w3 (some M)) :
    LabIn B w3 t ds us (Wide F w w3) M (m + 1) (D.put (sLit s) (.lit (.int .i64 w1.heap.size))) (rows ++ [(s, w1.heap.size)]) v ∧ Grows F w (Wide F w w3) w3 := by
  have k1 : Keeps F w w1 := Keeps.of_below F hb
  have b2 := (Below.refl w1.heap.size w1).alloc (Nat.le_refl _) (.cells #[.string s, .int .i64 0, .bool false] 129)
  have k2 : Keeps F w1 (w1.alloc (.cells #[.string s, .int .i64 0, .bool false] 129)) := Keeps.of_below F b2
  have k3 : Keeps F (w1.alloc (.cells #[.string s, .int .i64 0, .bool false] 129)) w3 := Keeps.of_grown hg fun j q => by cases q; exact h.fm
  have K := (k1.trans k2).trans k3
  have kM : Keeps (fun j => j = M) (w1.alloc (.cells #[.string s, .int .i64 0, .bool false] 129)) w3 := Keeps.of_grown hg fun j q => by cases q; rfl
  have h2 := (h.keep hb).keep b2
  have bn := BlkAt.new w1 129 #[.string s, .int .i64 0, .bool false]
  have hnM : w1.heap.size ≠ M := map_ne h2.map bn
  have hoff : s ∉ ds.map (·.1) := fun q => by
    obtain ⟨d, hd, rfl⟩ := List.mem_map.1 q
    exact hs (h.defs d hd)
  obtain ⟨p1, p2⟩ := pl_off hoff
  obtain ⟨ub, u1, u2, u3⟩ := h2.uses
  have hs1 := hb.size
  have hs3 := hg.size
  rw [World.size_alloc] at hs3
  refine ⟨⟨h2.blk.kept kM (map_ne h2.map h2.blk), hm, h.nms.put hs _, ?_, ?_, ?_, ⟨ub, u1.kept kM fun j q e => map_own_ne h2.map u1 (e ▸ q), u2, fun i hi => ⟨List.mem_append_left _ (u3 i hi).1, (u3 i hi).2⟩⟩, h.once, ?_, .inl h.ft, .inl h.fm, ?_, fun j q => .inl (h.fu j q), ?_⟩, Wide.grows K⟩
  · intro r hr
    rcases List.mem_append.1 hr with hr | hr
    · exact (h2.spots r hr).kept kM (map_ne h2.map (h2.spots r hr))
    · rw [List.mem_singleton.1 hr]
      have := bn.kept kM hnM
      simp only [p1, p2]
      exact this
  · rw [List.map_append, List.nodup_append]
    refine ⟨h.apart, by simp, fun a ha b hb' => ?_⟩
    simp at hb'
    subst hb'
    obtain ⟨r, hr, rfl⟩ := List.mem_map.1 ha
    have := (h.spots r hr).lt
    omega
  · intro d hd
    rw [List.map_append]
    exact List.mem_append_left _ (h.defs d hd)
  · intro r hr
    rcases List.mem_append.1 hr with hr | hr
    · exact h.long r hr
    · rw [List.mem_singleton.1 hr]; exact hN
  · intro r hr
    rcases List.mem_append.1 hr with hr | hr
    · exact .inl (h.fs r hr)
    · rw [List.mem_singleton.1 hr]
      exact .inr ⟨hs1, by show w1.heap.size < _; omega⟩
  · rintro j (q | q)
    · exact ⟨(h.low j q).1, Nat.lt_of_lt_of_le (h.low j q).2 K.size⟩
    · exact ⟨by omega, q.2⟩
end

theorem labSelf (a : Addr) (w : World) : Sem.run Tryz.prog (binOp .eql 45 (.pointer (some a)) (.pointer (some a))) w = .ok (.bool true) w := by
  have hj : (Tryz.prog.info? 118).isSome = true := by kernel_rfl
  obtain ⟨j, hj⟩ := Option.isSome_iff_exists.1 hj
  exact run_eql_ptr_same w a Tryz.underlying45 hj
theorem labOther (a : Addr) (w : World) : Sem.run Tryz.prog (binOp .eql 45 (.pointer none) (.pointer (some a))) w = .ok (.bool false) w := by
  have h : ∀ d : Nat, (Op.equalIn (d + 1) 45 (.pointer none) (.pointer (some a))).run Tryz.prog w = .ok false w := fun d => by
    simp [Op.equalIn, run_underlying Tryz.underlying45]
  simp only [binOp]
  simp [Op.equal, Op.maxDepth, h 9999]
/-- Whether p is a table that New made. -/
def MadeL (p : Value) (w : World) (z : Bool) : Prop := ∀ w1, Below w.heap.size w w1 → Calls Tryz.prog 80 #[p] w1 fun e w' => e = .returned (.bool z) ∧ w1 = w'
theorem MadeL.keep {p : Value} {z : Bool} {w w' : World} (h : MadeL p w z) (hb : Below w.heap.size w w') : MadeL p w' z := fun w1 h1 => h w1 (hb.trans (h1.mono hb.size))
theorem MadeL.now {p : Value} {z : Bool} {w : World} (h : MadeL p w z) : Calls Tryz.prog 80 #[p] w fun e w' => e = .returned (.bool z) ∧ w = w' := h w (Below.refl _ _)
theorem madeL_nil (w : World) : MadeL (.pointer none) w false := by
  intro w1 _
  go_enter Tryz.func80, Tryz.ntmps80
  go_wp2
  go_ret
  exact ⟨rfl, rfl⟩
theorem madeL_odd {b : Nat} {w : World} (h : w.cell? ⟨b, 2, none⟩ = some (.pointer none)) : MadeL (.pointer (some ⟨b, 0, none⟩)) w false := by
  intro w1 hb
  have c1 := (hb.cell (p := ⟨b, 2, none⟩) (cell_lt h)).trans h
  have q0 := labSelf
  have q1 := labOther
  clear h hb
  go_enter Tryz.func80, Tryz.ntmps80
  go_wp2
  go_ret
  exact ⟨rfl, rfl⟩
theorem madeL_is {b : Nat} {w : World} (h : w.cell? ⟨b, 2, none⟩ = some (.pointer (some ⟨b, 0, none⟩))) : MadeL (.pointer (some ⟨b, 0, none⟩)) w true := by
  intro w1 hb
  have c1 := (hb.cell (p := ⟨b, 2, none⟩) (cell_lt h)).trans h
  have q0 := labSelf
  have q1 := labOther
  clear h hb
  go_enter Tryz.func80, Tryz.ntmps80
  go_wp2
  go_ret
  exact ⟨rfl, rfl⟩
theorem LabIn.made {B t M m : Nat} {w : World} {ds us : Df} {F : Nat → Prop} {D : DataW Unit} {rows : Rw} {v : Value} (h : LabIn B w t ds us F M m D rows v) : MadeL (.pointer (some ⟨t, 0, none⟩)) w true := madeL_is (h.blk.cell 2)
/-- Of nobody's table: no spot. -/
theorem labSpot_nobody (p : Value) (s : ByteArray) (w : World) (h : MadeL p w false) : Calls Tryz.prog 115 #[p, .string s] w fun e w' => e = .returned (.tuple #[.pointer none, .int .i64 1]) ∧ w = w' := by
  have H := Lib.hid h
  clear h
  go_enter Tryz.func115, Tryz.ntmps115
  go_wp2_with (go_at_call 80; ((with_reducible refine (H.out.now).mono ?_); rintro e w1 ⟨rfl, rfl⟩))
  go_ret2
  exact ⟨rfl, rfl⟩
section
variable {B t M m : Nat} {ds us : Df} {F : Nat → Prop} {D : DataW Unit} {rows : Rw} {v : Value}
set_option maxHeartbeats 1000000 in
theorem labSpot_no {w : World} (h : LabIn B w t ds us F M m D rows v) (s : ByteArray) (hs : s.size ≤ maxLen) (hN : nameB s = false) :
    Calls Tryz.prog 115 #[.pointer (some ⟨t, 0, none⟩), .string s] w fun e w' => e = .returned (.tuple #[.pointer none, .int .i64 8]) ∧ w = w' := by
  have H := Lib.hid h.made
  have C := Lib.hid fun w => labIs_is s w hs
  have HN := Lib.hid hN
  clear h hs hN
  go_enter Tryz.func115, Tryz.ntmps115
  go_wp2_with (first
    | (go_at_call 80; ((with_reducible refine (H.out.now).mono ?_); rintro e w1 ⟨rfl, rfl⟩))
    | (go_at_call 76; ((with_reducible refine (C.out _).mono ?_); rintro e w1 ⟨rfl, rfl⟩); have hN := HN.out))
  go_ret2
  exact ⟨rfl, rfl⟩
set_option maxHeartbeats 1000000 in
theorem labSpot_old {w : World} (h : LabIn B w t ds us F M m D rows v) (s : ByteArray) (b : Nat) (hs : s.size ≤ maxLen) (hN : nameB s = true) (hr : (s, b) ∈ rows) :
    Calls Tryz.prog 115 #[.pointer (some ⟨t, 0, none⟩), .string s] w fun e w' => e = .returned (.tuple #[.pointer (some ⟨b, 0, none⟩), .int .i64 0]) ∧ w = w' := by
  have H := Lib.hid h.made
  have C := Lib.hid fun w => labIs_is s w hs
  have HN := Lib.hid hN
  have hl := h.look_old hr hs
  have c0 : w.cell? ⟨t, 0, none⟩ = some (.map (some M)) := h.blk.cell 0
  clear h hs hN hr
  go_enter Tryz.func115, Tryz.ntmps115
  go_wp2_with (first
    | (go_at_call 80; ((with_reducible refine (H.out.now).mono ?_); rintro e w1 ⟨rfl, rfl⟩))
    | (go_at_call 76; ((with_reducible refine (C.out _).mono ?_); rintro e w1 ⟨rfl, rfl⟩); have hN := HN.out))
  go_ret2
  exact ⟨rfl, rfl⟩
/-- What is left where a name is told for the first time. -/
def SpotNew (B t M m : Nat) (ds us : Df) (F : Nat → Prop) (rows : Rw) (v : Value) (s : ByteArray) (w : World) (e : Ending) (w' : World) : Prop :=
  ∃ b D' F', e = .returned (.tuple #[.pointer (some ⟨b, 0, none⟩), .int .i64 0]) ∧ LabIn B w' t ds us F' M (m + 1) D' (rows ++ [(s, b)]) v ∧ Grows F w F' w'
set_option maxRecDepth 100000 in
set_option maxHeartbeats 2000000 in
theorem labSpot_new {w : World} (h : LabIn B w t ds us F M m D rows v) (s : ByteArray) (hs : s.size ≤ maxLen) (hN : nameB s = true) (hr : s ∉ rows.map (·.1)) (hm : m ≤ 2000000) (hB : B ≤ w.heap.size) :
    Calls Tryz.prog 115 #[.pointer (some ⟨t, 0, none⟩), .string s] w (SpotNew B t M m ds us F rows v s w) := by
  have HMD := Lib.hid h.made
  have C := Lib.hid fun w => labIs_is s w hs
  have HN := Lib.hid hN
  have hl := h.look_new hr hs
  have hsz := name_size hN
  have HC := Lib.hid fun w => strClone_is s w (by omega)
  have c0 : w.cell? ⟨t, 0, none⟩ = some (.map (some M)) := h.blk.cell 0
  have HKEY := Lib.hid (WideMaps.keyOf_string_mk Tryz.underlying9 hs)
  have H := Lib.hid h
  have HR := Lib.hid hr
  clear h hs hN hr hsz
  go_enter Tryz.func115, Tryz.ntmps115
  go_wp2_with (first
    | (go_at_call 80; ((with_reducible refine (HMD.out.now).mono ?_); rintro e w1 ⟨rfl, rfl⟩))
    | (go_at_call 76; ((with_reducible refine (C.out _).mono ?_); rintro e w1 ⟨rfl, rfl⟩); have hN := HN.out)
    | (go_at_call 45; ((with_reducible refine (HC.out _).mono ?_); rintro e w1 ⟨rfl, hb⟩); have HB := Lib.hid hb; clear hb))
  have HI := Lib.hid ((H.out.keep HB.out).keep ((Below.refl w1.heap.size w1).alloc (Nat.le_refl _) (.cells #[.string s, .int .i64 0, .bool false] 129)))
  have HA := Lib.hid (fun w3 hm hg => LabIn.added H.out HR.out HN.out (w3 := w3) hB HB.out hm hg)
  have HK := Lib.hid (BlkAt.new w1 129 #[.string s, .int .i64 0, .bool false])
  obtain ⟨W2, hW2⟩ : ∃ W2, w1.alloc (.cells #[.string s, .int .i64 0, .bool false] 129) = W2 := ⟨_, rfl⟩
  obtain ⟨nb, hnb⟩ : ∃ nb, w1.heap.size = nb := ⟨_, rfl⟩
  rw [hW2, hnb] at HA HK
  rw [hW2] at HI
  rw [hW2]
  simp only [hnb]
  have d0 : W2.cell? ⟨t, 0, none⟩ = some (.map (some M)) := HI.out.blk.cell 0
  have d1 : W2.cell? ⟨nb, 0, none⟩ = some (.string s) := HK.out.cell 0
  clear hW2 hnb hl c0 hN
  go_still_tail 9, (by kernel_rfl)
  refine wpList_mapUpdate_own _ rfl _ _ _ 115 rfl 9 126 strLaw Tryz.underlying115 ptrElem M m D rfl HI.out.map.drew (by unfold maxLen; omega) _ _ (sLit s) rfl rfl HKEY.out _ [] (ptrElem_mk nb) ?_
  intro w3 hown3 hgrow3
  have HG := Lib.hid (HA.out w3 hown3 ⟨hgrow3.os, hgrow3.tape, hgrow3.output, hgrow3.size, hgrow3.block⟩)
  clear hown3 hgrow3
  go_wp2
  go_ret2
  exact ⟨nb, _, _, rfl, HG.out.1, HG.out.2⟩
end
end

section
open Go.RowKit Go.Maps

theorem nodup_one {α β : Type} {l : List (α × β)} (h : (l.map (·.1)).Nodup) {a : α} {b c : β} (h1 : (a, b) ∈ l) (h2 : (a, c) ∈ l) : b = c := by
  induction l with
  | nil => cases h1
  | cons x l ih =>
    rw [List.map_cons, List.nodup_cons] at h
    rcases List.mem_cons.1 h1 with e1 | k1 <;> rcases List.mem_cons.1 h2 with e2 | k2
    · rw [← e1] at e2; cases e2; rfl
    · subst e1; exact absurd (List.mem_map_of_mem (f := (·.1)) k2) h.1
    · subst e2; exact absurd (List.mem_map_of_mem (f := (·.1)) k1) h.1
    · exact ih h.2 k1 k2
theorem nodup_two {α β : Type} {l : List (α × β)} (h : (l.map (·.2)).Nodup) {a c : α} {b : β} (h1 : (a, b) ∈ l) (h2 : (c, b) ∈ l) : a = c := by
  induction l with
  | nil => cases h1
  | cons x l ih =>
    rw [List.map_cons, List.nodup_cons] at h
    rcases List.mem_cons.1 h1 with e1 | k1 <;> rcases List.mem_cons.1 h2 with e2 | k2
    · rw [← e1] at e2; cases e2; rfl
    · subst e1; exact absurd (List.mem_map_of_mem (f := (·.2)) k2) h.1
    · subst e2; exact absurd (List.mem_map_of_mem (f := (·.2)) k1) h.1
    · exact ih h.2 k1 k2
section
variable {B t M m : Nat} {w w' : World} {ds us : Df} {F G : Nat → Prop} {D : DataW Unit} {rows : Rw} {v : Value}
/-- A name gets its place. -/
theorem LabIn.placed (h : LabIn B w t ds us F M m D rows v) {s : ByteArray} {b : Nat} (hr : (s, b) ∈ rows) (hp : plB ds s = false) (p : Int) :
    LabIn B ((w.setCell ⟨b, 1, none⟩ (.int .i64 p)).setCell ⟨b, 2, none⟩ (.bool true)) t (ds ++ [(s, p)]) us F M m D rows v ∧ Grows F w F ((w.setCell ⟨b, 1, none⟩ (.int .i64 p)).setCell ⟨b, 2, none⟩ (.bool true)) := by
  have k : ∀ (X : Nat → Prop), X b → Keeps X w ((w.setCell ⟨b, 1, none⟩ (.int .i64 p)).setCell ⟨b, 2, none⟩ (.bool true)) := fun X hX => (Keeps.set hX w 1 _).trans (Keeps.set hX _ 2 _)
  have k1 := k (fun j => j = b) rfl
  have hbk := h.spots _ hr
  obtain ⟨ub, u1, u2, u3⟩ := h.uses
  have hn : s ∉ ds.map (·.1) := fun q => by rw [pl_mem.2 q] at hp; cases hp
  refine ⟨⟨h.blk.kept k1 (blk_ne h.blk hbk (by decide)), map_kept h.map k1 fun e => map_ne h.map hbk e.symm, h.nms, ?_, h.apart, ?_, ⟨ub, u1.kept k1 fun j q e => own_blk_ne u1 hbk (by decide) (e ▸ q), u2, u3⟩, ?_, h.long, h.ft, h.fm, h.fs, h.fu, ?_⟩, ⟨k F (h.fs _ hr), fun _ q => .inl q⟩⟩
  · rintro ⟨n, c⟩ hr'
    by_cases e : n = s
    · subst e
      obtain rfl := nodup_one h.nms.once hr hr'
      obtain ⟨q1, q2⟩ := pl_snoc_same (p := p) hp
      simp only [q1, q2]
      exact ((hbk.set 1 (.int .i64 p)).set 2 (.bool true)).eq rfl
    · obtain ⟨q1, q2⟩ := pl_snoc_other (ds := ds) (p := p) e
      simp only [q1, q2]
      exact (h.spots _ hr').kept k1 fun e' => e (nodup_two h.apart (b := b) (by rw [← e']; exact hr') hr)
  · intro d hd
    rcases List.mem_append.1 hd with hd | hd
    · exact h.defs d hd
    · rw [List.mem_singleton.1 hd]; exact List.mem_map_of_mem (f := (·.1)) hr
  · have := h.once
    unfold Once at *
    rw [List.map_append, List.nodup_append]
    refine ⟨this, by simp, fun a ha b hb => ?_⟩
    simp at hb
    subst hb
    intro e; subst e
    exact hn ha
  · intro j q
    have := h.low j q
    simpa [World.setCell] using this
/-- A name is used. -/
theorem LabIn.used (h : LabIn B w t ds us F M m D rows v) {s : ByteArray} {b : Nat} (hr : (s, b) ∈ rows) (p : Int) (hB : B ≤ w.heap.size) {cs : Array Value} {w1 : World} {v' : Value} {ub : List (Nat × Int)}
    (u0 : OwnEl useK w B 237 v ub) (u2 : ub.length = us.length) (u3 : ∀ i, i < us.length → ((el us i).1, (el ub i).1) ∈ rows ∧ (el ub i).2 = (el us i).2)
    (o1 : OwnEl useK w1 B 237 v' (ub ++ [(b, p)])) (hg : (w.alloc (.cells cs 237)).grownBy w1 v.ownBlock) (hx : Nexts (w.alloc (.cells cs 237)) v v') :
    LabIn B (w1.setCell ⟨t, 1, none⟩ v') t ds (us ++ [(s, p)]) (Wide F w (w1.setCell ⟨t, 1, none⟩ v')) M m D rows v' ∧ Grows F w (Wide F w (w1.setCell ⟨t, 1, none⟩ v')) (w1.setCell ⟨t, 1, none⟩ v') := by
  have ba := (Below.refl w.heap.size w).alloc (Nat.le_refl _) (.cells cs 237)
  have h1 := h.keep ba
  have ua := u0.keep ba
  have kx : Keeps (fun j => v.ownBlock = some j) (w.alloc (.cells cs 237)) w1 := Keeps.of_grown hg fun _ q => q
  have bt : BlkAt t 118 #[.map (some M), v, .pointer (some ⟨t, 0, none⟩)] w1 := h1.blk.kept kx (own_blk_ne ua h1.blk (by decide))
  have km : w1.ownsMap Tryz.prog 9 ptrElem M m D := map_kept h1.map kx (map_own_ne h1.map ua)
  have kt : Keeps (fun j => j = t) w1 (w1.setCell ⟨t, 1, none⟩ v') := Keeps.set1 w1 t 1 v'
  have K := ((Keeps.of_below F ba).trans (Keeps.of_grown (F := F) hg h.fu)).trans (Keeps.set h.ft w1 1 v')
  refine ⟨⟨(bt.set 1 v').eq rfl, map_kept km kt fun e => map_ne km bt e.symm, h.nms, fun r hr => ?_, h.apart, h.defs, ⟨ub ++ [(b, p)], o1.kept kt fun j q e => own_blk_ne o1 bt (by decide) (e ▸ q), by rw [List.length_append, List.length_append, u2]; rfl, ?_⟩, h.once, h.long, .inl h.ft, .inl h.fm, fun r hr => .inl (h.fs r hr), ?_, ?_⟩, Wide.grows K⟩
  · have q1 := (h1.spots r hr).kept kx (own_blk_ne ua (h1.spots r hr) (by decide))
    exact q1.kept kt fun e => blk_ne q1 bt (by decide) e
  · intro i hi
    rw [List.length_append, List.length_singleton] at hi
    rcases Nat.lt_succ_iff_lt_or_eq.1 hi with q | q
    · rw [el_left q, el_left (by omega)]; exact u3 i q
    · subst q
      have e : el (ub ++ [(b, p)]) us.length = (b, p) := by rw [← u2]; exact el_last _ _
      rw [el_last, e]
      exact ⟨hr, rfl⟩
  · intro j q
    rcases hx j q with r | r
    · exact .inl (h.fu j r)
    · refine .inr ⟨by simp at r; omega, ?_⟩
      have := (o1.lt j q).2
      simpa [World.setCell] using this
  · rintro j (q | q)
    · exact ⟨(h.low j q).1, Nat.lt_of_lt_of_le (h.low j q).2 K.size⟩
    · exact ⟨by omega, q.2⟩
end
/-- What a call that tells leaves. -/
def LabTo (B t : Nat) (k : Int) (ds us : Df) (F : Nat → Prop) (w : World) (e : Ending) (w' : World) : Prop := ∃ F', e = .returned (.int .i64 k) ∧ LabAt B w' t ds us F' ∧ Grows F w F' w'
theorem infoUse : (Tryz.prog.info? 237).map (fun i => (i.zero, i.size, i.bytes)) = some (some (.agg #[.pointer none, .int .i64 0]), 2, 16) := by kernel_rfl
set_option maxRecDepth 100000 in
set_option maxHeartbeats 2000000 in
theorem labPlace_is (B t : Nat) (ds us : Df) (F : Nat → Prop) (s : ByteArray) (w : World) (h : LabAt B w t ds us F) (hs : s.size ≤ maxLen) :
    Calls Tryz.prog 48 #[.pointer (some ⟨t, 0, none⟩), .string s] w fun e w' => e = .returned (.tuple #[.int .i64 (plV ds s), .bool (plB ds s)]) ∧ w = w' := by
  obtain ⟨M, m, D, rows, v, h, -⟩ := h
  have HMD := Lib.hid h.made
  have c0 : w.cell? ⟨t, 0, none⟩ = some (.map (some M)) := h.blk.cell 0
  by_cases hr : s ∈ rows.map (·.1)
  · obtain ⟨⟨n, b⟩, hr2, e⟩ := List.mem_map.1 hr
    simp only at e
    subst e
    clear hr
    have hr := hr2
    clear hr2
    have hl := h.look_old hr hs
    have hb := h.spots _ hr
    have c1 : w.cell? ⟨b, 1, none⟩ = some (.int .i64 (plV ds n)) := hb.cell 1
    have c2 : w.cell? ⟨b, 2, none⟩ = some (.bool (plB ds n)) := hb.cell 2
    clear h hs hr hb
    cases hp : plB ds n
    · have hz : plV ds n = 0 := by
        unfold plB at hp; unfold plV
        cases q : plc ds n with
        | none => rfl
        | some z => rw [q] at hp; cases hp
      have HZ := Lib.hid hz
      rw [hp] at c2
      clear hz hp
      go_enter Tryz.func48, Tryz.ntmps48
      go_wp2_with (go_at_call 80; ((with_reducible refine (HMD.out.now).mono ?_); rintro e w1 ⟨rfl, rfl⟩))
      go_ret2
      exact ⟨by rw [HZ.out]; first | done | rfl, rfl⟩
    · rw [hp] at c2
      clear hp
      go_enter Tryz.func48, Tryz.ntmps48
      go_wp2_with (go_at_call 80; ((with_reducible refine (HMD.out.now).mono ?_); rintro e w1 ⟨rfl, rfl⟩))
      go_ret2
      exact ⟨rfl, rfl⟩
  · have hl := h.look_new hr hs
    have hn : s ∉ ds.map (·.1) := fun q => by
      obtain ⟨d, hd, rfl⟩ := List.mem_map.1 q
      exact hr (h.defs d hd)
    have HP := Lib.hid (pl_off hn)
    clear h hs hr hn
    go_enter Tryz.func48, Tryz.ntmps48
    go_wp2_with (go_at_call 80; ((with_reducible refine (HMD.out.now).mono ?_); rintro e w1 ⟨rfl, rfl⟩))
    go_ret2
    exact ⟨by rw [HP.out.1, HP.out.2]; first | done | rfl, rfl⟩
set_option maxRecDepth 100000 in
set_option maxHeartbeats 2000000 in
theorem labDefine_is (B t : Nat) (ds us : Df) (F : Nat → Prop) (s : ByteArray) (p : Int) (w : World) (h : LabAt B w t ds us F) (hs : s.size ≤ maxLen) (hn : ds.length + us.length ≤ 1000000) (hB : B ≤ w.heap.size) :
    Calls Tryz.prog 77 #[.pointer (some ⟨t, 0, none⟩), .string s, .int .i64 p] w (LabTo B t (defE ds s) (defS ds s p) us F w) := by
  have H := Lib.hid h
  obtain ⟨M, m, D, rows, v, h, hm⟩ := h
  cases hN : nameB s
  · obtain ⟨e1, e2⟩ := def_no (ds := ds) p hN
    rw [e1, e2]
    have C := Lib.hid (labSpot_no h s hs hN)
    clear h hs hN e1 e2
    go_enter Tryz.func77, Tryz.ntmps77
    go_wp2_with (go_at_call 115; ((with_reducible refine (C.out).mono ?_); rintro e w1 ⟨rfl, rfl⟩))
    go_ret
    exact ⟨F, rfl, H.out, Grows.refl _ _⟩
  · by_cases hr : s ∈ rows.map (·.1)
    · obtain ⟨⟨n, b⟩, hr2, e⟩ := List.mem_map.1 hr
      simp only at e
      subst e
      clear hr
      have hr := hr2
      clear hr2
      have C := Lib.hid (labSpot_old h n b hs hN hr)
      have hbk := h.spots _ hr
      have c2 : w.cell? ⟨b, 2, none⟩ = some (.bool (plB ds n)) := hbk.cell 2
      cases hp : plB ds n
      · obtain ⟨e1, e2⟩ := def_yes (ds := ds) p hN hp
        rw [e1, e2]
        have c1 : w.cell? ⟨b, 1, none⟩ = some (.int .i64 (plV ds n)) := hbk.cell 1
        have f1 := hbk.free 1
        have f2 := hbk.free 2
        rw [hp] at c2
        have HP := Lib.hid (h.placed hr hp p)
        have HM := Lib.hid hm
        clear h hs hN e1 e2 hp hr hbk hm
        go_enter Tryz.func77, Tryz.ntmps77
        go_wp2_with (go_at_call 115; ((with_reducible refine (C.out).mono ?_); rintro e w1 ⟨rfl, rfl⟩))
        go_ret
        exact ⟨F, rfl, ⟨M, m, D, rows, v, HP.out.1, by have := HM.out; rw [List.length_append]; omega⟩, HP.out.2⟩
      · obtain ⟨e1, e2⟩ := def_twice (ds := ds) p hN hp
        rw [e1, e2]
        rw [hp] at c2
        clear h hs hN e1 e2 hp hr hbk
        go_enter Tryz.func77, Tryz.ntmps77
        go_wp2_with (go_at_call 115; ((with_reducible refine (C.out).mono ?_); rintro e w1 ⟨rfl, rfl⟩))
        go_ret
        exact ⟨F, rfl, H.out, Grows.refl _ _⟩
    · have C := Lib.hid (labSpot_new h s hs hN hr (by omega) hB)
      have hn' : s ∉ ds.map (·.1) := fun q => by
        obtain ⟨d, hd, rfl⟩ := List.mem_map.1 q
        exact hr (h.defs d hd)
      have hp := (pl_off hn').1
      obtain ⟨e1, e2⟩ := def_yes (ds := ds) p hN hp
      rw [e1, e2]
      have HP := Lib.hid hp
      have HM := Lib.hid hm
      clear h hs hN e1 e2 hp hr hm hn'
      go_enter Tryz.func77, Tryz.ntmps77
      go_wp2_with (go_at_call 115; ((with_reducible refine (C.out).mono ?_); rintro e w1 ⟨b, D', F', rfl, hI, hG⟩); have hbk := hI.spots (s, b) (by simp); have c1 : w1.cell? ⟨b, 1, none⟩ = some (.int .i64 (plV ds s)) := hbk.cell 1; have c2 : w1.cell? ⟨b, 2, none⟩ = some (.bool (plB ds s)) := hbk.cell 2; rw [HP.out] at c2; have f1 := hbk.free 1; have f2 := hbk.free 2; have HI := Lib.hid (hI.placed (s := s) (b := b) (by simp) HP.out p); have HG := Lib.hid hG; clear hI hG hbk)
      go_ret
      exact ⟨F', rfl, ⟨M, m + 1, D', _, v, HI.out.1, by have := HM.out; rw [List.length_append, List.length_singleton]; omega⟩, HG.out.trans HI.out.2⟩
end

section
open Go.RowKit Go.Maps

/-- What New answers: a table of its own. -/
def LabNew (B : Nat) (w : World) (e : Ending) (w' : World) : Prop := ∃ t F, e = .returned (.pointer (some ⟨t, 0, none⟩)) ∧ LabAt B w' t [] [] F ∧ (∀ j, F j → w.heap.size ≤ j) ∧ Below w.heap.size w w'
set_option maxHeartbeats 2000000 in
theorem labNew_is (B : Nat) (w : World) (hB : B ≤ w.heap.size) : Calls Tryz.prog 41 #[] w (LabNew B w) := by
  have hmm := @run_makeMap Tryz.prog
  have HM0 := Lib.hid (World.ownsMap_made w Tryz.prog 9 ptrElem)
  go_enter Tryz.func41, Tryz.ntmps41
  go_wp2
  go_ret
  have hm := HM0.out
  have b1 := (Below.refl w.heap.size w).alloc (Nat.le_refl _) (.map #[] 0)
  have bt := BlkAt.new (w.alloc (.map #[] 0)) 118 #[.map (some w.heap.size), .slice none 0 0, .pointer (some ⟨w.heap.size + 1, 0, none⟩)]
  have hs1 : (w.alloc (.map #[] 0)).heap.size = w.heap.size + 1 := by simp
  rw [hs1] at bt
  have hm2 := hm.alloc (.cells #[.map (some w.heap.size), .slice none 0 0, .pointer (some ⟨w.heap.size + 1, 0, none⟩)] 118)
  refine ⟨w.heap.size + 1, fun j => j = w.heap.size ∨ j = w.heap.size + 1, rfl, ⟨w.heap.size, 0, .map [], [], .slice none 0 0, ⟨bt, hm2, NmIs.nil, ?_, List.nodup_nil, ?_, ⟨[], OwnEl.nil _ _ _ _, rfl, ?_⟩, List.nodup_nil, ?_, .inr rfl, .inl rfl, ?_, ?_, ?_⟩, Nat.le_refl _⟩, ?_, ?_⟩
  · intro r hr; cases hr
  · intro d hd; cases hd
  · intro i hi; cases hi
  · intro r hr; cases hr
  · intro r hr; cases hr
  · intro j q; cases q
  · intro j q
    simp
    omega
  · intro j q; omega
  · exact b1.alloc (by simp) _

/-! ### nobody's table -/
section
variable {p : Value} {w : World}
theorem labDefine_nobody (s : ByteArray) (x : Int) (h : MadeL p w false) : Calls Tryz.prog 77 #[p, .string s, .int .i64 x] w fun e w' => e = .returned (.int .i64 1) ∧ w = w' := by
  have C := Lib.hid (labSpot_nobody p s w h)
  clear h
  go_enter Tryz.func77, Tryz.ntmps77
  go_wp2_with (go_at_call 115; ((with_reducible refine (C.out).mono ?_); rintro e w1 ⟨rfl, rfl⟩))
  go_ret
  exact ⟨rfl, rfl⟩
theorem labPlace_nobody (s : ByteArray) (h : MadeL p w false) : Calls Tryz.prog 48 #[p, .string s] w fun e w' => e = .returned (.tuple #[.int .i64 0, .bool false]) ∧ w = w' := by
  have C := Lib.hid h
  clear h
  go_enter Tryz.func48, Tryz.ntmps48
  go_wp2_with (go_at_call 80; ((with_reducible refine (C.out.now).mono ?_); rintro e w1 ⟨rfl, rfl⟩))
  go_ret2
  exact ⟨rfl, rfl⟩
end
end

end Go.Proofs.YtekhgidbnpfmnaaGreatDoor
