/- What package line's Parse answers. Conditions: the tables and errors that the program lists lie as its text has them. -/
import Derived.Test.YtheflkhbmbfajaaDoorLinB
import Derived.Test.YtheflkhbmbfajaaDoorLinC
import Derived.Test.YtheflkhbmbfajaaDoorOpsN
import Derived.Test.YtheflkhbmbfajaaDoorCodE
namespace Go.Proofs.YtheflkhbmbfajaaDoor
open Go.RowKit Go.Shelf

/-- A letter and its place. -/
theorem letter_at {o : Int} (h : isOp o) {k : Nat} (hk : k < 4) : (shL o k = 100 ∧ k + 1 = 1 ∨ shL o k = 97 ∧ k + 1 = 2 ∨ shL o k = 98 ∧ k + 1 = 3 ∨ (shL o k = 115 ∨ shL o k = 117) ∧ k + 1 = 4) ∨ shL o k = 45 := by
  obtain ⟨_, _, _, _, _, _, _, _, _, hs⟩ := shaped h
  unfold Shaped at hs
  obtain rfl | rfl | rfl | rfl : k = 0 ∨ k = 1 ∨ k = 2 ∨ k = 3 := by omega
  all_goals omega
theorem letter_small {o : Int} (h : isOp o) : ∃ x0 x1 x2 x3 : UInt8, wShape o = ⟨#[x0, x1, x2, x3]⟩ ∧ (x0.toNat < 128 ∧ x1.toNat < 128 ∧ x2.toNat < 128 ∧ x3.toNat < 128) ∧ ∀ k, k < 4 → (((#[x0, x1, x2, x3] : Array UInt8).getD k 0).toNat : Int) = shL o k := by
  have q := fun k hk => @letter_at o h k hk
  obtain ⟨x0, x1, x2, x3, hs, e0, e1, e2, e3, _⟩ := shaped h
  refine ⟨x0, x1, x2, x3, hs, ?_, ?_⟩
  · have q0 := q 0 (by omega)
    have q1 := q 1 (by omega)
    have q2 := q 2 (by omega)
    have q3 := q 3 (by omega)
    omega
  · intro k hk
    obtain rfl | rfl | rfl | rfl : k = 0 ∨ k = 1 ∨ k = 2 ∨ k = 3 := by omega
    · exact e0.symm
    · exact e1.symm
    · exact e2.symm
    · exact e3.symm
theorem okTo_mono {o : Int} {ws : List (List UInt8)} {j : Nat} : ∀ {k : Nat}, j ≤ k → okTo o ws k = true → okTo o ws j = true
  | 0, h, hk => by obtain rfl : j = 0 := by omega
                   exact hk
  | k + 1, h, hk => by
    by_cases e : j = k + 1
    · subst e; exact hk
    · rw [okTo, Bool.and_eq_true] at hk
      exact okTo_mono (by omega) hk.1
/-- A field that has been read, or not yet. -/
def fvOf (o : Int) (ops : List (List UInt8)) (k j : Nat) : Int := if j < k then fldR o ops j else 0
/-- The reader behind k letters. -/
structure TakeAt (w0 : World) (B A : Nat) (o : Int) (nw : ByteArray) (ops : List (List UInt8)) (k : Nat) (w : World) : Prop where
  ok : okTo o ops k = true
  blk : BlkAt B 42 (rdC o (fvOf o ops k 0) (fvOf o ops k 1) (fvOf o ops k 2) (fvOf o ops k 3) (opsV A ops (used o k))) w
  own : w.ownsRow 0 9 1 (.slice (some ⟨A, 0, none⟩) (ops.length + 1) (ops.length + 1)) (ops.length + 1) ((nw :: ops.map txt).map Value.string)
  below : Below w0.heap.size w0 w
theorem TakeAt.keep {w0 w w' : World} {B A k : Nat} {o : Int} {nw : ByteArray} {ops : List (List UInt8)} (h : TakeAt w0 B A o nw ops k w) (hb : Below w.heap.size w w') : TakeAt w0 B A o nw ops k w' :=
  ⟨h.ok, h.blk.keep hb, own_keep h.own hb, h.below.trans (hb.mono h.below.size)⟩
theorem TakeAt.iter {w0 w : World} {B A k I : Nat} {o : Int} {nw : ByteArray} {ops : List (List UInt8)} {s : ByteArray} {p : Nat} (h : TakeAt w0 B A o nw ops k w) (hI : w0.heap.size ≤ I) (hi : w.heap[I]? = some (.stringIter s p)) (q : Nat) : TakeAt w0 B A o nw ops k (w.iterAt I s q) := by
  refine ⟨h.ok, ?_, ?_, Lib.below_iterAt h.below hI s q⟩
  · have hb := h.blk
    unfold BlkAt at *
    rw [Lib.iterAt_other _ _ _ _ _ (fun e => by subst e; rw [hi] at hb; cases hb)]
    exact hb
  · exact own_iterAt h.own hi q
theorem TakeAt.text {w0 w : World} {B A k : Nat} {o : Int} {nw : ByteArray} {ops : List (List UInt8)} (h : TakeAt w0 B A o nw ops k w) : ∀ j x, ops[j]? = some x → w.cell? ⟨A, j + 1, none⟩ = some (.string (txt x)) := by
  intro j x hx
  have e := own_text (l := nw :: ops.map txt) (by simpa using h.own) (j := j + 1) (x := txt x) (by simp [hx])
  exact e
theorem rd_set {o : Int} {ops : List (List UInt8)} {k : Nat} {v v' : Value} (hk : k < 4) :
    ((rdC o (fvOf o ops k 0) (fvOf o ops k 1) (fvOf o ops k 2) (fvOf o ops k 3) v).setIfInBounds 5 v').setIfInBounds (k + 1) (.int .i64 (fldR o ops k)) = rdC o (fvOf o ops (k + 1) 0) (fvOf o ops (k + 1) 1) (fvOf o ops (k + 1) 2) (fvOf o ops (k + 1) 3) v' := by
  obtain rfl | rfl | rfl | rfl : k = 0 ∨ k = 1 ∨ k = 2 ∨ k = 3 := by omega
  all_goals simp [rdC, fvOf]
theorem rd_same {o : Int} {ops : List (List UInt8)} {k : Nat} {v : Value} (hk : k < 4) (h0 : fldR o ops k = 0) :
    rdC o (fvOf o ops k 0) (fvOf o ops k 1) (fvOf o ops k 2) (fvOf o ops k 3) v = rdC o (fvOf o ops (k + 1) 0) (fvOf o ops (k + 1) 1) (fvOf o ops (k + 1) 2) (fvOf o ops (k + 1) 3) v := by
  obtain rfl | rfl | rfl | rfl : k = 0 ∨ k = 1 ∨ k = 2 ∨ k = 3 := by omega
  all_goals simp [rdC, fvOf, h0]
theorem rd_field {o : Int} {ops : List (List UInt8)} {k : Nat} {v : Value} (hk : k < 4) :
    (rdC o (fvOf o ops k 0) (fvOf o ops k 1) (fvOf o ops k 2) (fvOf o ops k 3) v)[k + 1]? = some (.int .i64 0) := by
  obtain rfl | rfl | rfl | rfl : k = 0 ∨ k = 1 ∨ k = 2 ∨ k = 3 := by omega
  all_goals simp [rdC, fvOf]
/-- What is left where a letter's word is none. -/
def Refused (w0 : World) (o : Int) (ops : List (List UInt8)) (w : World) : Prop := okTo o ops 4 = false ∧ Below w0.heap.size w0 w
theorem lineTake_step (w0 : World) (B A k : Nat) (o c : Int) (nw : ByteArray) (ops : List (List UInt8)) (w : World) (hop : isOp o) (hk : k < 4) (hc : c = shL o k) (h : TakeAt w0 B A o nw ops k w) (hl : ops.length < 1000000) (hw : ∀ x ∈ ops, x.length ≤ 4294967296) (hL : LinLaid w0) (hB : w0.heap.size ≤ B) :
    Calls Tryd.prog 39 #[.pointer (some ⟨B, 0, none⟩), .int .i32 c, takeR B, takeN B] w (StepTo (TakeAt w0 B A o nw ops (k + 1)) (Refused w0 o ops) w) := by
  subst hc
  rcases letter_at hop hk with hq | hq
  · have hu : used o (k + 1) = used o k + 1 := by
      rw [used, if_pos]
      unfold isReg isNum
      omega
    refine (lineTakeOne_is B A (used o k) (k + 1) (shL o k) 0 ops _ w w0 h.blk rfl h.text hl hw hL h.below hB hq (rd_field hk)).mono ?_
    rintro e w' ⟨rfl, ho, hb⟩
    have hb' := hb.eq (rd_set hk)
    have hbl := ho.below h.below hB h.below.size
    refine ⟨fun I s p hI => ho.iter h.blk hI, ?_⟩
    cases hv : opdOk (shL o k) (wAt ops (used o k))
    · refine .inr ⟨rfl, ?_, hbl⟩
      cases q : okTo o ops 4
      · rfl
      · have := okTo_mono (j := k + 1) (by omega) q
        rw [okTo, hv] at this
        simp at this
    · refine .inl ⟨rfl, by rw [okTo, h.ok, hv]; rfl, by rw [hu]; exact hb', own_off h.own h.blk (by decide) ho, hbl⟩
  · have hr : ¬ isReg (shL o k) := by unfold isReg; omega
    have hn : ¬ isNum (shL o k) := by unfold isNum; omega
    have hu : used o (k + 1) = used o k := by
      rw [used, if_neg (fun e => e.elim hr hn)]
      rfl
    have h0 : fldR o ops k = 0 := by unfold fldR opdV; rw [if_neg hr, if_neg hn]
    have hv : opdOk (shL o k) (wAt ops (used o k)) = true := by unfold opdOk; rw [if_neg hr, if_neg hn]
    rw [hq]
    refine (lineNoOne_is B _ _ w).mono ?_
    rintro e w' ⟨rfl, rfl⟩
    exact ⟨fun _ _ _ hI => hI, .inl ⟨rfl, by rw [okTo, h.ok, hv]; rfl, by rw [hu]; exact h.blk.eq (rd_same hk h0), h.own, h.below⟩⟩
theorem lineTake_is (w0 : World) (B A : Nat) (o : Int) (nw : ByteArray) (ops : List (List UInt8)) (w : World) (hop : isOp o) (h : TakeAt w0 B A o nw ops 0 w) (hl : ops.length < 1000000) (hw : ∀ x ∈ ops, x.length ≤ 4294967296) (hL : LinLaid w0) (hB : w0.heap.size ≤ B) :
    Calls Tryd.prog 19 #[.pointer (some ⟨B, 0, none⟩), .func (.func 27) #[.pointer (some ⟨B, 0, none⟩)] #[], .func (.func 28) #[.pointer (some ⟨B, 0, none⟩)] #[]] w (EndTo (TakeAt w0 B A o nw ops 4) (Refused w0 o ops)) := by
  obtain ⟨x0, x1, x2, x3, hs, hx, he⟩ := letter_small hop
  exact lineOperands_is B (takeR B) (takeN B) o x0 x1 x2 x3 _ (TakeAt w0 B A o nw ops) _ w rfl hs hx (h.blk.cell 0) (hL.below h.below (Nat.le_refl _)).shapes (fun w' hb => h.keep hb)
    (fun k w' I s p q hI hj hi => hj.iter (Nat.le_trans h.below.size hI) hi q) (fun k w' hk hj => lineTake_step w0 B A k o _ nw ops w' hop hk (he k hk) hj hl hw hL hB)
theorem opsV_0 (A : Nat) (ops : List (List UInt8)) : opsV A ops 0 = .slice (some ⟨A, if ops.length = 0 then 0 else 1, none⟩) ops.length ops.length := by
  unfold opsV
  rw [Nat.sub_zero]
  unfold remV
  by_cases k : ops.length = 0
  · rw [if_pos k, if_pos k, k]
  · rw [if_neg k, if_neg k, show ops.length + 1 - ops.length = 1 by omega]
theorem TakeAt.start (w : World) (A off : Nat) (o : Int) (nw : ByteArray) (ops : List (List UInt8)) (hoff : off = if ops.length = 0 then 0 else 1) (hown : w.ownsRow 0 9 1 (.slice (some ⟨A, 0, none⟩) (ops.length + 1) (ops.length + 1)) (ops.length + 1) ((nw :: ops.map txt).map Value.string)) :
    TakeAt w w.heap.size A o nw ops 0 (w.alloc (.cells #[.int .i64 o, .int .i64 0, .int .i64 0, .int .i64 0, .int .i64 0, .slice (some ⟨A, off, none⟩) ops.length ops.length] 42)) := by
  have hb := (Below.refl w.heap.size w).alloc (Nat.le_refl _) (.cells #[.int .i64 o, .int .i64 0, .int .i64 0, .int .i64 0, .int .i64 0, .slice (some ⟨A, off, none⟩) ops.length ops.length] 42)
  refine ⟨rfl, (BlkAt.new w _ _).eq ?_, own_keep hown hb, hb⟩
  subst hoff
  rw [show used o 0 = 0 from rfl, opsV_0]
  simp only [rdC, fvOf, Nat.not_lt_zero, if_false]


/-- What Parse answers. -/
def RetIns (w : World) (ws : List (List UInt8)) (e : Ending) (w' : World) : Prop :=
  e = .returned (.tuple #[.agg #[.int .i64 (pO ws), .int .i64 (pF ws 0), .int .i64 (pF ws 1), .int .i64 (pF ws 2), .int .i64 (pF ws 3)], .int .i64 (pErr ws)]) ∧ Below w.heap.size w w'
theorem pErr_no {ws : List (List UInt8)} (h : pGood ws = false) : pErr ws = 3 ∧ pO ws = 0 ∧ ∀ k, pF ws k = 0 := by
  have e : pErr ws = 3 := by unfold pErr; rw [h]; rfl
  refine ⟨e, ?_, fun k => ?_⟩
  · unfold pO; rw [e]; rfl
  · unfold pF; rw [e]; rfl
theorem pErr_bad {ws : List (List UInt8)} (h : pErr ws ≠ 0) : pO ws = 0 ∧ ∀ k, pF ws k = 0 := by
  refine ⟨?_, fun k => ?_⟩
  · unfold pO; rw [if_neg h]
  · unfold pF; rw [if_neg h]
theorem lineWords_none (l : List UInt8) (w : World) (hl : l.length < 1000000) (h : wds l = []) :
    Calls Tryd.prog 14 #[.string (txt l)] w fun e w' => ∃ A, e = .returned (.slice (some ⟨A, 0, none⟩) 0 0) ∧ Below w.heap.size w w' := by
  refine (lineWords_is (txt l) w (by rw [txt_size]; omega)).mono ?_
  unfold wtx
  rw [txt_list, h]
  rintro e w' ⟨A, rfl, _, _, hb⟩
  exact ⟨A, rfl, hb⟩
theorem lineWords_some (l nw : List UInt8) (ops : List (List UInt8)) (w : World) (hl : l.length < 1000000) (h : wds l = nw :: ops) :
    Calls Tryd.prog 14 #[.string (txt l)] w fun e w' => ∃ A, e = .returned (.slice (some ⟨A, 0, none⟩) (ops.length + 1) (ops.length + 1)) ∧ w.heap.size ≤ A ∧
      w'.ownsRow w.heap.size 9 1 (.slice (some ⟨A, 0, none⟩) (ops.length + 1) (ops.length + 1)) (ops.length + 1) ((txt nw :: ops.map txt).map Value.string) ∧ Below w.heap.size w w' := by
  refine (lineWords_is (txt l) w (by rw [txt_size]; omega)).mono ?_
  unfold wtx
  rw [txt_list, h]
  rintro e w' ⟨A, rfl, hA, ho, hb⟩
  simp only [List.map_cons, List.length_cons, List.length_map] at ho ⊢
  exact ⟨A, rfl, hA, ho, hb⟩
set_option maxHeartbeats 4000000 in
theorem lineParse_none (l : List UInt8) (w : World) (hl : l.length < 1000000) (h : wds l = []) :
    Calls Tryd.prog 9 #[.string (txt l)] w fun e w' => e = .returned (.tuple #[.agg #[.int .i64 0, .int .i64 0, .int .i64 0, .int .i64 0, .int .i64 0], .int .i64 3]) ∧ Below w.heap.size w w' := by
  have HW := Lib.hid h
  have HI := Lib.hid (fun T => InsW.new w w 0 0 0 0 0 T (Below.refl _ _) (Nat.le_refl _))
  clear h
  go_enter Tryd.func9, Tryd.ntmps9
  go_wp2_with (go_at_call 14; ((with_reducible refine (lineWords_none l _ hl HW.out).mono ?_); rintro e w1 ⟨A, rfl, hb⟩); have hR := (HI.out _).keep hb; clear hb; have c0 := hR.c0; have c1 := hR.c1; have c2 := hR.c2; have c3 := hR.c3; have c4 := hR.c4; have f0 := hR.f0; have f1 := hR.f1; have f2 := hR.f2; have f3 := hR.f3; have f4 := hR.f4)
  exact bodyPost_ret (v := .tuple #[.agg #[.int .i64 0, .int .i64 0, .int .i64 0, .int .i64 0, .int .i64 0], .int .i64 3]) (by simp [results, Tryd.results9, go_sem, c0, c1, c2, c3, c4]) rfl ⟨rfl, hR.end5 _ _ _ _ _⟩
set_option maxHeartbeats 4000000 in
theorem lineParse_name (l nw : List UInt8) (ops : List (List UInt8)) (w : World) (hl : l.length < 1000000) (h : wds l = nw :: ops) (ho : wFind (txt nw) = 0) :
    Calls Tryd.prog 9 #[.string (txt l)] w fun e w' => e = .returned (.tuple #[.agg #[.int .i64 0, .int .i64 0, .int .i64 0, .int .i64 0, .int .i64 0], .int .i64 3]) ∧ Below w.heap.size w w' := by
  have HW := Lib.hid h
  have HI := Lib.hid (fun T => InsW.new w w 0 0 0 0 0 T (Below.refl _ _) (Nat.le_refl _))
  have HO := Lib.hid ho
  clear h ho
  go_enter Tryd.func9, Tryd.ntmps9
  go_wp2_with (first
    | (go_at_call 14; ((with_reducible refine (lineWords_some l nw ops _ hl HW.out).mono ?_); rintro e w1 ⟨A, rfl, hA, hown, hb⟩); have hR := (HI.out _).keep hb; have hx := own_text (l := txt nw :: ops.map txt) hown (j := 0) (x := txt nw) rfl; clear hb hA hown)
    | (go_at_call 26; ((with_reducible refine (find_is (txt nw) _).mono ?_); rintro e w2 ⟨rfl, hb⟩); rw [HO.out]; have hR := hR.keep hb; clear hb; have c0 := hR.c0; have c1 := hR.c1; have c2 := hR.c2; have c3 := hR.c3; have c4 := hR.c4; have f0 := hR.f0; have f1 := hR.f1; have f2 := hR.f2; have f3 := hR.f3; have f4 := hR.f4))
  exact bodyPost_ret (v := .tuple #[.agg #[.int .i64 0, .int .i64 0, .int .i64 0, .int .i64 0, .int .i64 0], .int .i64 3]) (by simp [results, Tryd.results9, go_sem, c0, c1, c2, c3, c4]) rfl ⟨rfl, hR.end5 _ _ _ _ _⟩
/-- What is left to do behind the operands. -/
theorem pGood_false {o : Int} {nw : List UInt8} {ops : List (List UInt8)} (ho : wFind (txt nw) = o) (h : okTo o ops 4 = false ∨ ops.length ≠ used o 4) : pGood (nw :: ops) = false := by
  have e : pOp (nw :: ops) = o := ho
  unfold pGood
  rw [e, show (nw :: ops).tail = ops from rfl]
  rcases h with h | h
  · rw [h]; simp
  · simp [h]
theorem pGood_true {o : Int} {nw : List UInt8} {ops : List (List UInt8)} (ho : wFind (txt nw) = o) (hz : o ≠ 0) (h : okTo o ops 4 = true) (h2 : ops.length = used o 4) : pErr (nw :: ops) = cChk o (fldR o ops 0) (fldR o ops 1) (fldR o ops 2) (fldR o ops 3) ∧ pOp (nw :: ops) = o := by
  have e : pOp (nw :: ops) = o := ho
  have g : pGood (nw :: ops) = true := by
    unfold pGood
    rw [e, show (nw :: ops).tail = ops from rfl, h, h2]
    simp [hz]
  refine ⟨?_, e⟩
  unfold pErr
  rw [if_pos g, e]
  rfl
set_option maxHeartbeats 4000000 in
theorem lineParse_op (l nw : List UInt8) (ops : List (List UInt8)) (o : Int) (w : World) (hl : l.length < 1000000) (h : wds l = nw :: ops) (ho : wFind (txt nw) = o) (hz : o ≠ 0) (hL : LinLaid w) :
    Calls Tryd.prog 9 #[.string (txt l)] w (RetIns w (nw :: ops)) := by
  have HW := Lib.hid h
  have HI := Lib.hid (fun T => InsW.new w w 0 0 0 0 0 T (Below.refl _ _) (Nat.le_refl _))
  have HO := Lib.hid ho
  have HL := Lib.hid hL
  have hop : isOp o := by rw [← ho] at hz ⊢; exact find_op hz
  have hlen : ops.length < 1000000 := by have := wds_len l; rw [h] at this; simp at this; omega
  have HE := Lib.hid (fun x (hx : x ∈ ops) => show x.length ≤ 4294967296 by have := wds_each (l := l) (w := x) (by rw [h]; exact .tail _ hx); omega)
  have hz' : (o == 0) = false := by simpa using hz
  have HZ := Lib.hid hz
  have HOP := Lib.hid hop
  have HLEN := Lib.hid hlen
  clear h ho hz hL hop hlen
  unfold RetIns
  obtain ⟨zE, hzE⟩ : ∃ z, pErr (nw :: ops) = z := ⟨_, rfl⟩
  obtain ⟨zO, hzO⟩ : ∃ z, pO (nw :: ops) = z := ⟨_, rfl⟩
  obtain ⟨z0, hz0⟩ : ∃ z, pF (nw :: ops) 0 = z := ⟨_, rfl⟩
  obtain ⟨z1, hz1⟩ : ∃ z, pF (nw :: ops) 1 = z := ⟨_, rfl⟩
  obtain ⟨z2, hz2⟩ : ∃ z, pF (nw :: ops) 2 = z := ⟨_, rfl⟩
  obtain ⟨z3, hz3⟩ : ∃ z, pF (nw :: ops) 3 = z := ⟨_, rfl⟩
  rw [hzE, hzO, hz0, hz1, hz2, hz3]
  have HR := Lib.hid (And.intro hzE (And.intro hzO (And.intro hz0 (And.intro hz1 (And.intro hz2 hz3)))))
  clear hzE hzO hz0 hz1 hz2 hz3
  by_cases h0 : ops.length = 0
  · obtain rfl := List.length_eq_zero_iff.1 h0
    clear h0
    go_enter Tryd.func9, Tryd.ntmps9
    go_wp2_with (first
      | (go_at_call 14; ((with_reducible refine (lineWords_some l nw [] _ hl HW.out).mono ?_); rintro e w1 ⟨A, rfl, hA, hown, hb⟩); have hR := (HI.out _).keep hb; have hx := own_text (l := [txt nw]) hown (j := 0) (x := txt nw) rfl; have HA := Lib.hid hown; clear hb hA hown)
      | (go_at_call 26; ((with_reducible refine (find_is (txt nw) _).mono ?_); rintro e w2 ⟨rfl, hb⟩); rw [HO.out]; have hR := hR.keep hb; have HA2 := Lib.hid (own_keep HA.out hb); clear hb hx))
    have hS := TakeAt.start w2 A 0 o (txt nw) [] rfl (own_lower HA2.out (Nat.zero_le _))
    refine (lineTake_is w2 w2.heap.size A o (txt nw) [] _ HOP.out hS HLEN.out HE.out (HL.out.below hR.below (Nat.le_refl _)) (Nat.le_refl _)).mono ?_
    clear hS
    rintro e w3 (⟨rfl, hT⟩ | ⟨rfl, hQ⟩)
    · have hR := hR.keep hT.below
      have c0 := hR.c0; have c1 := hR.c1; have c2 := hR.c2; have c3 := hR.c3; have c4 := hR.c4; have f0 := hR.f0; have f1 := hR.f1; have f2 := hR.f2; have f3 := hR.f3; have f4 := hR.f4
      have hu := okTo_used 4 hT.ok
      have b0 := hT.blk.cell 0; have b1 := hT.blk.cell 1; have b2 := hT.blk.cell 2; have b3 := hT.blk.cell 3; have b4 := hT.blk.cell 4; have b5 := hT.blk.cell 5
      have hv : ∀ j, j < 4 → fvOf o ([] : List (List UInt8)) 4 j = fldR o ([] : List (List UInt8)) j := fun j hj => if_pos hj
      simp only [rdC, hv 0 (by decide), hv 1 (by decide), hv 2 (by decide), hv 3 (by decide)] at b0 b1 b2 b3 b4 b5
      unfold opsV remV at b5
      have HT := Lib.hid hT
      by_cases hm : ([] : List (List UInt8)).length = used o 4
      · obtain ⟨e0, e1⟩ := pGood_true HO.out HZ.out hT.ok hm
        have hm0 : ([] : List (List UInt8)).length - used o 4 = 0 := by omega
        rw [hm0, if_pos rfl] at b5
        obtain ⟨r0, r1, r2, r3, r4, r5⟩ := HR.out
        rw [e0] at r0
        unfold pO at r1
        unfold pF at r2 r3 r4 r5
        rw [e0, r0, e1] at r1 r2 r3 r4 r5
        rw [show (nw :: ([] : List (List UInt8))).tail = ([] : List (List UInt8)) from rfl] at r2 r3 r4 r5
        obtain ⟨x0, hx0⟩ : ∃ x, fldR o ([] : List (List UInt8)) 0 = x := ⟨_, rfl⟩
        obtain ⟨x1, hx1⟩ : ∃ x, fldR o ([] : List (List UInt8)) 1 = x := ⟨_, rfl⟩
        obtain ⟨x2, hx2⟩ : ∃ x, fldR o ([] : List (List UInt8)) 2 = x := ⟨_, rfl⟩
        obtain ⟨x3, hx3⟩ : ∃ x, fldR o ([] : List (List UInt8)) 3 = x := ⟨_, rfl⟩
        rw [hx0, hx1, hx2, hx3] at r0
        rw [hx0] at r2 b1
        rw [hx1] at r3 b2
        rw [hx2] at r4 b3
        rw [hx3] at r5 b4
        have R0 := Lib.hid r0
        clear hT hm hm0 e0 e1 hx0 hx1 hx2 hx3 hu hv r0
        by_cases hzE : zE = 0
        · rw [if_pos hzE] at r1 r2 r3 r4 r5
          subst r1 r2 r3 r4 r5 hzE
          go_wp2_with (go_at_call 17; ((with_reducible refine (codeCheckI_is o x0 x1 x2 x3 0 _ (HL.out.below hR.below (Nat.le_refl _)).shapes R0.out).mono ?_); rintro e w4 ⟨rfl, hq⟩); have hR := hR.keep hq; have hB := (Below.block hq w2.heap.size HT.out.blk.lt); clear c0 c1 c2 c3 c4 f0 f1 f2 f3 f4; have c0 := hR.c0; have c1 := hR.c1; have c2 := hR.c2; have c3 := hR.c3; have c4 := hR.c4; have f0 := hR.f0; have f1 := hR.f1; have f2 := hR.f2; have f3 := hR.f3; have f4 := hR.f4; have hl := HT.out.blk.lt; have b0 := (hq.cell (p := ⟨w2.heap.size, 0, none⟩) hl).trans b0; have b1 := (hq.cell (p := ⟨w2.heap.size, 1, none⟩) hl).trans b1; have b2 := (hq.cell (p := ⟨w2.heap.size, 2, none⟩) hl).trans b2; have b3 := (hq.cell (p := ⟨w2.heap.size, 3, none⟩) hl).trans b3; have b4 := (hq.cell (p := ⟨w2.heap.size, 4, none⟩) hl).trans b4; clear hq hB hl)
          exact bodyPost_ret (v := .tuple #[.agg #[.int .i64 o, .int .i64 x0, .int .i64 x1, .int .i64 x2, .int .i64 x3], .int .i64 0]) (by simp [results, Tryd.results9, go_sem, c0, c1, c2, c3, c4]) rfl ⟨rfl, hR.end5 _ _ _ _ _⟩
        · rw [if_neg hzE] at r1 r2 r3 r4 r5
          subst r1 r2 r3 r4 r5
          have hzE' : (zE != 0) = true := by simpa using hzE
          clear hzE
          go_wp2_with (go_at_call 17; ((with_reducible refine (codeCheckI_is o x0 x1 x2 x3 zE _ (HL.out.below hR.below (Nat.le_refl _)).shapes R0.out).mono ?_); rintro e w4 ⟨rfl, hq⟩); have hR := hR.keep hq; clear c0 c1 c2 c3 c4 f0 f1 f2 f3 f4; have c0 := hR.c0; have c1 := hR.c1; have c2 := hR.c2; have c3 := hR.c3; have c4 := hR.c4; have f0 := hR.f0; have f1 := hR.f1; have f2 := hR.f2; have f3 := hR.f3; have f4 := hR.f4; clear hq)
          exact bodyPost_ret (v := .tuple #[.agg #[.int .i64 0, .int .i64 0, .int .i64 0, .int .i64 0, .int .i64 0], .int .i64 zE]) (by simp [results, Tryd.results9, go_sem, c0, c1, c2, c3, c4]) rfl ⟨rfl, hR.end5 _ _ _ _ _⟩
      · have hp : ([] : List (List UInt8)).length - used o 4 ≠ 0 := by omega
        rw [if_neg hp] at b5
        obtain ⟨e0, e1, e2⟩ := pErr_no (pGood_false HO.out (.inr hm))
        obtain ⟨r0, r1, r2, r3, r4, r5⟩ := HR.out
        rw [e0] at r0
        rw [e1] at r1
        rw [e2] at r2 r3 r4 r5
        subst r0 r1 r2 r3 r4 r5
        have hp' : 0 < ([] : List (List UInt8)).length - used o 4 := by omega
        generalize ([] : List (List UInt8)).length - used o 4 = m at *
        clear e0 e1 e2 hT hm hu hv hp
        go_wp2
        exact bodyPost_ret (v := .tuple #[.agg #[.int .i64 0, .int .i64 0, .int .i64 0, .int .i64 0, .int .i64 0], .int .i64 3]) (by simp [results, Tryd.results9, go_sem, c0, c1, c2, c3, c4]) rfl ⟨rfl, hR.end5 _ _ _ _ _⟩
    · have hR := hR.keep hQ.2
      have c0 := hR.c0; have c1 := hR.c1; have c2 := hR.c2; have c3 := hR.c3; have c4 := hR.c4; have f0 := hR.f0; have f1 := hR.f1; have f2 := hR.f2; have f3 := hR.f3; have f4 := hR.f4
      obtain ⟨e0, e1, e2⟩ := pErr_no (pGood_false HO.out (.inl hQ.1))
      obtain ⟨r0, r1, r2, r3, r4, r5⟩ := HR.out
      rw [e0] at r0
      rw [e1] at r1
      rw [e2] at r2 r3 r4 r5
      subst r0 r1 r2 r3 r4 r5
      clear e0 e1 e2 hQ
      go_wp2
      exact bodyPost_ret (v := .tuple #[.agg #[.int .i64 0, .int .i64 0, .int .i64 0, .int .i64 0, .int .i64 0], .int .i64 3]) (by simp [results, Tryd.results9, go_sem, c0, c1, c2, c3, c4]) rfl ⟨rfl, hR.end5 _ _ _ _ _⟩
  · go_enter Tryd.func9, Tryd.ntmps9
    go_wp2_with (first
      | (go_at_call 14; ((with_reducible refine (lineWords_some l nw ops _ hl HW.out).mono ?_); rintro e w1 ⟨A, rfl, hA, hown, hb⟩); have hR := (HI.out _).keep hb; have hx := own_text (l := txt nw :: ops.map txt) hown (j := 0) (x := txt nw) rfl; have HA := Lib.hid hown; clear hb hA hown)
      | (go_at_call 26; ((with_reducible refine (find_is (txt nw) _).mono ?_); rintro e w2 ⟨rfl, hb⟩); rw [HO.out]; have hR := hR.keep hb; have HA2 := Lib.hid (own_keep HA.out hb); clear hb hx))
    have hS := TakeAt.start w2 A 1 o (txt nw) ops (by rw [if_neg h0]) (own_lower HA2.out (Nat.zero_le _))
    refine (lineTake_is w2 w2.heap.size A o (txt nw) ops _ HOP.out hS HLEN.out HE.out (HL.out.below hR.below (Nat.le_refl _)) (Nat.le_refl _)).mono ?_
    clear hS
    rintro e w3 (⟨rfl, hT⟩ | ⟨rfl, hQ⟩)
    · have hR := hR.keep hT.below
      have c0 := hR.c0; have c1 := hR.c1; have c2 := hR.c2; have c3 := hR.c3; have c4 := hR.c4; have f0 := hR.f0; have f1 := hR.f1; have f2 := hR.f2; have f3 := hR.f3; have f4 := hR.f4
      have hu := okTo_used 4 hT.ok
      have b0 := hT.blk.cell 0; have b1 := hT.blk.cell 1; have b2 := hT.blk.cell 2; have b3 := hT.blk.cell 3; have b4 := hT.blk.cell 4; have b5 := hT.blk.cell 5
      have hv : ∀ j, j < 4 → fvOf o ops 4 j = fldR o ops j := fun j hj => if_pos hj
      simp only [rdC, hv 0 (by decide), hv 1 (by decide), hv 2 (by decide), hv 3 (by decide)] at b0 b1 b2 b3 b4 b5
      unfold opsV remV at b5
      have HT := Lib.hid hT
      by_cases hm : ops.length = used o 4
      · obtain ⟨e0, e1⟩ := pGood_true HO.out HZ.out hT.ok hm
        have hm0 : ops.length - used o 4 = 0 := by omega
        rw [hm0, if_pos rfl] at b5
        obtain ⟨r0, r1, r2, r3, r4, r5⟩ := HR.out
        rw [e0] at r0
        unfold pO at r1
        unfold pF at r2 r3 r4 r5
        rw [e0, r0, e1] at r1 r2 r3 r4 r5
        rw [show (nw :: ops).tail = ops from rfl] at r2 r3 r4 r5
        obtain ⟨x0, hx0⟩ : ∃ x, fldR o ops 0 = x := ⟨_, rfl⟩
        obtain ⟨x1, hx1⟩ : ∃ x, fldR o ops 1 = x := ⟨_, rfl⟩
        obtain ⟨x2, hx2⟩ : ∃ x, fldR o ops 2 = x := ⟨_, rfl⟩
        obtain ⟨x3, hx3⟩ : ∃ x, fldR o ops 3 = x := ⟨_, rfl⟩
        rw [hx0, hx1, hx2, hx3] at r0
        rw [hx0] at r2 b1
        rw [hx1] at r3 b2
        rw [hx2] at r4 b3
        rw [hx3] at r5 b4
        have R0 := Lib.hid r0
        clear hT hm hm0 e0 e1 hx0 hx1 hx2 hx3 hu hv r0
        by_cases hzE : zE = 0
        · rw [if_pos hzE] at r1 r2 r3 r4 r5
          subst r1 r2 r3 r4 r5 hzE
          go_wp2_with (go_at_call 17; ((with_reducible refine (codeCheckI_is o x0 x1 x2 x3 0 _ (HL.out.below hR.below (Nat.le_refl _)).shapes R0.out).mono ?_); rintro e w4 ⟨rfl, hq⟩); have hR := hR.keep hq; have hB := (Below.block hq w2.heap.size HT.out.blk.lt); clear c0 c1 c2 c3 c4 f0 f1 f2 f3 f4; have c0 := hR.c0; have c1 := hR.c1; have c2 := hR.c2; have c3 := hR.c3; have c4 := hR.c4; have f0 := hR.f0; have f1 := hR.f1; have f2 := hR.f2; have f3 := hR.f3; have f4 := hR.f4; have hl := HT.out.blk.lt; have b0 := (hq.cell (p := ⟨w2.heap.size, 0, none⟩) hl).trans b0; have b1 := (hq.cell (p := ⟨w2.heap.size, 1, none⟩) hl).trans b1; have b2 := (hq.cell (p := ⟨w2.heap.size, 2, none⟩) hl).trans b2; have b3 := (hq.cell (p := ⟨w2.heap.size, 3, none⟩) hl).trans b3; have b4 := (hq.cell (p := ⟨w2.heap.size, 4, none⟩) hl).trans b4; clear hq hB hl)
          exact bodyPost_ret (v := .tuple #[.agg #[.int .i64 o, .int .i64 x0, .int .i64 x1, .int .i64 x2, .int .i64 x3], .int .i64 0]) (by simp [results, Tryd.results9, go_sem, c0, c1, c2, c3, c4]) rfl ⟨rfl, hR.end5 _ _ _ _ _⟩
        · rw [if_neg hzE] at r1 r2 r3 r4 r5
          subst r1 r2 r3 r4 r5
          have hzE' : (zE != 0) = true := by simpa using hzE
          clear hzE
          go_wp2_with (go_at_call 17; ((with_reducible refine (codeCheckI_is o x0 x1 x2 x3 zE _ (HL.out.below hR.below (Nat.le_refl _)).shapes R0.out).mono ?_); rintro e w4 ⟨rfl, hq⟩); have hR := hR.keep hq; clear c0 c1 c2 c3 c4 f0 f1 f2 f3 f4; have c0 := hR.c0; have c1 := hR.c1; have c2 := hR.c2; have c3 := hR.c3; have c4 := hR.c4; have f0 := hR.f0; have f1 := hR.f1; have f2 := hR.f2; have f3 := hR.f3; have f4 := hR.f4; clear hq)
          exact bodyPost_ret (v := .tuple #[.agg #[.int .i64 0, .int .i64 0, .int .i64 0, .int .i64 0, .int .i64 0], .int .i64 zE]) (by simp [results, Tryd.results9, go_sem, c0, c1, c2, c3, c4]) rfl ⟨rfl, hR.end5 _ _ _ _ _⟩
      · have hp : ops.length - used o 4 ≠ 0 := by omega
        rw [if_neg hp] at b5
        obtain ⟨e0, e1, e2⟩ := pErr_no (pGood_false HO.out (.inr hm))
        obtain ⟨r0, r1, r2, r3, r4, r5⟩ := HR.out
        rw [e0] at r0
        rw [e1] at r1
        rw [e2] at r2 r3 r4 r5
        subst r0 r1 r2 r3 r4 r5
        have hp' : 0 < ops.length - used o 4 := by omega
        generalize ops.length - used o 4 = m at *
        clear e0 e1 e2 hT hm hu hv hp
        go_wp2
        exact bodyPost_ret (v := .tuple #[.agg #[.int .i64 0, .int .i64 0, .int .i64 0, .int .i64 0, .int .i64 0], .int .i64 3]) (by simp [results, Tryd.results9, go_sem, c0, c1, c2, c3, c4]) rfl ⟨rfl, hR.end5 _ _ _ _ _⟩
    · have hR := hR.keep hQ.2
      have c0 := hR.c0; have c1 := hR.c1; have c2 := hR.c2; have c3 := hR.c3; have c4 := hR.c4; have f0 := hR.f0; have f1 := hR.f1; have f2 := hR.f2; have f3 := hR.f3; have f4 := hR.f4
      obtain ⟨e0, e1, e2⟩ := pErr_no (pGood_false HO.out (.inl hQ.1))
      obtain ⟨r0, r1, r2, r3, r4, r5⟩ := HR.out
      rw [e0] at r0
      rw [e1] at r1
      rw [e2] at r2 r3 r4 r5
      subst r0 r1 r2 r3 r4 r5
      clear e0 e1 e2 hQ
      go_wp2
      exact bodyPost_ret (v := .tuple #[.agg #[.int .i64 0, .int .i64 0, .int .i64 0, .int .i64 0, .int .i64 0], .int .i64 3]) (by simp [results, Tryd.results9, go_sem, c0, c1, c2, c3, c4]) rfl ⟨rfl, hR.end5 _ _ _ _ _⟩
theorem lineParse_is (l : List UInt8) (s : ByteArray) (w : World) (hs : s = txt l) (hl : l.length < 1000000) (hL : LinLaid w) :
    Calls Tryd.prog 9 #[.string s] w (RetIns w (wds l)) := by
  subst hs
  cases h : wds l with
  | nil =>
    have hg : pGood [] = false := by
      unfold pGood pOp
      rw [show txt (wAt [] 0) = ⟨#[]⟩ from rfl, find_nil]
      rfl
    obtain ⟨e0, e1, e2⟩ := pErr_no hg
    unfold RetIns
    rw [e0, e1, e2, e2, e2, e2]
    exact lineParse_none l w hl h
  | cons nw ops =>
    by_cases hz : wFind (txt nw) = 0
    · have hg : pGood (nw :: ops) = false := by
        have e : pOp (nw :: ops) = 0 := hz
        unfold pGood
        rw [e]
        rfl
      obtain ⟨e0, e1, e2⟩ := pErr_no hg
      unfold RetIns
      rw [e0, e1, e2, e2, e2, e2]
      exact lineParse_name l nw ops w hl h hz
    · exact lineParse_op l nw ops _ w hl h rfl hz hL
end Go.Proofs.YtheflkhbmbfajaaDoor
