/- Package label: what Names answers. Conditions: as few as 1000. -/
import Derived.Test.YthaccdalciihpaaDoorLabC
import Derived.Test.YthaccdalciihpaaDoorLabG
namespace Go.Proofs.YthaccdalciihpaaDoor
open Go.RowKit Go.Maps Go.IntWalk Go.Sort

theorem str_holds {w : World} {base n g cap : Nat} {e : TypeId} {l : List ByteArray} (h : OwnEl strK w base e (.slice (some ⟨g, 0, none⟩) n cap) l) (hl : l.length = n) : Holds encStr w g 0 (l.map (·.data.toList)).toArray := by
  intro j hj
  have hj' : j < l.length := by simpa using hj
  rw [Nat.zero_add, getElem!_pos _ j hj]
  refine ⟨?_, OwnEl.free h hl j⟩
  rw [OwnEl.sCell h hl (by omega), ← el_eq hj']
  simp [encStr]
/-- Behind the library's sort. -/
theorem OwnEl.strSorted {w w' : World} {base n g cap q : Nat} {e : TypeId} {l d : List ByteArray} {os : Array Obj} (h : OwnEl strK w base e (.slice (some ⟨g, 0, none⟩) n cap) l) (hl : l.length = n) (hd : d.length = n)
    (hw : w' = grow (putRow encStr (Sort.ahead w q) g 0 (d.map (·.data.toList)).toArray) os) : OwnEl strK w' base e (.slice (some ⟨g, 0, none⟩) n cap) d ∧ w.grownBy w' (some g) := by
  subst hl
  have hh : ∀ j, j < w.heap.size → w'.heap[j]? = (w.heap[j]?).map fun o => if j = g then onCells (putCells encStr 0 (d.map (·.data.toList)).toArray) o else o := by
    intro j hj
    subst hw
    show ((w.heap.modify g (onCells (putCells encStr 0 (d.map (·.data.toList)).toArray))) ++ os)[j]? = _
    rw [Array.getElem?_append_left (by simpa using hj), Array.getElem?_modify]
    by_cases e : g = j
    · subst e; simp
    · rw [if_neg e]; simp only [if_neg (show ¬ j = g from fun q => e q.symm), Option.map_id']
  have hsz : w.heap.size ≤ w'.heap.size := by
    subst hw
    show w.heap.size ≤ ((w.heap.modify g (onCells (putCells encStr 0 (d.map (·.data.toList)).toArray))) ++ os).size
    simp
  refine ⟨?_, ?_⟩
  · obtain ⟨_, hcase⟩ := h
    rcases hcase with ⟨h0, _⟩ | ⟨g', cap', cur, hv, hb, hg, h1, h2, h3, h4⟩
    · cases h0
    · simp only [Value.slice.injEq, Option.some.injEq, Addr.mk.injEq, and_true] at hv
      obtain ⟨rfl, -, rfl⟩ := hv
      have hgl := (Array.getElem?_eq_some_iff.1 hg).1
      have h3' : cur.size = cap := by rw [h3]; exact Nat.mul_one _
      refine ⟨strK.vs_len d, .inr ⟨g, cap, putCells encStr 0 (d.map (·.data.toList)).toArray cur, by rw [hd], hb, ?_, by rw [hd]; exact h1, h2, by simp [putCells, h3], ?_⟩⟩
      · rw [hh g hgl, hg]; simp [onCells]
      · rw [strK_vs]
        apply List.ext_getElem?
        intro t
        rw [hd, show l.length * strK.k = l.length from Nat.mul_one _]
        by_cases ht : t < l.length
        · rw [List.getElem?_take, if_pos ht, Array.getElem?_toList]
          simp only [putCells, Array.getElem?_mapIdx]
          rw [Array.getElem?_eq_getElem (by omega), Option.map_some, if_pos ⟨by omega, by simp; omega⟩, getElem!_pos _ _ (by simp; omega)]
          simp [encStr, show t < d.length by omega]
        · rw [List.getElem?_take, if_neg ht, List.getElem?_eq_none (by simp; omega)]
  · exact ⟨by subst hw; rfl, by subst hw; rfl, by subst hw; rfl, hsz, fun j hj hne => by
      rw [hh j hj]
      simp only [if_neg (show ¬ j = g from fun q => hne (by rw [q])), Option.map_id']⟩
theorem strSort_is {w : World} {base : Nat} {e : TypeId} {v : Value} {l : List ByteArray} (h : OwnEl strK w base e v l) (hl : l.length ≤ 1048576) :
    Calls Tryd.prog 25 #[v] w fun r w' => r = .returned (.tuple #[]) ∧ OwnEl strK w' base e v (srt l) ∧ w.grownBy w' v.ownBlock := by
  rcases Nat.eq_zero_or_pos l.length with h0 | h0
  · obtain rfl : l = [] := List.eq_nil_of_length_eq_zero h0
    obtain ⟨a, c, rfl, hat⟩ := h.at
    refine (slices_Sort_string_none a c w).mono ?_
    rintro r w' ⟨rfl, rfl⟩
    exact ⟨rfl, by unfold srt; rw [List.mergeSort_nil]; exact h, ⟨rfl, rfl, rfl, Nat.le_refl _, fun _ _ _ => rfl⟩⟩
  · obtain ⟨g, cap, rfl, hb, hg, h1, h2⟩ := h.form rfl h0
    have hlm : (l.map (·.data.toList)).length = l.length := List.length_map _
    have C := slices_Sort_string g 0 cap (l.map (·.data.toList)) w (str_holds h rfl) hg (by rw [hlm]; omega)
    rw [hlm] at C
    refine C.mono ?_
    rintro r w' ⟨rfl, q, os, hw⟩
    rw [srt_bytes] at hw
    obtain ⟨o1, o2⟩ := OwnEl.strSorted (d := srt l) h rfl (srt_len l) hw
    exact ⟨rfl, o1, o2⟩
/-! ### going through the map -/
theorem key_str {P : Program} {k : TypeId} (hk : P.underlying k = some .string) {key : Value} {kl : Lit} (h : keyOf P k key = some kl) : ∃ s, key = .string s ∧ kl = sLit s ∧ s.size ≤ maxLen := by
  cases key <;> simp [keyOf, hk, mapKey] at h
  exact ⟨_, rfl, h.2.symm, h.1⟩
/-- The step over a map of names: the next one, and its block. -/
theorem wpList_next_names {P : Program} (w : World) {ops : Array Oper} {rest : List Oper} {o : Oper} {a : Act} {Q : Exit → Act → World → Prop} (hg : o.guard = none) (it : Operand) (hop : o.op = Op.next it false) (k : TypeId) (K : Keyed P k) (hk : P.underlying k = some .string)
    (b r n : Nat) (D : DataW Unit) (rows todo : Rw) (left : Lit → Bool) (cnt : Nat) (hit : a.eval it = .pointer (some ⟨r, 0, none⟩)) (h : w.ranges P k ptrElem b r n D left cnt) (hN : NmIs D rows) (hT : ∀ q ∈ todo, q ∈ rows) (hl : ∀ s, left (sLit s) = true → s ∈ todo.map (·.1))
    (hDone : (∀ kl, left kl = false) → wpList P ops Q rest (a.put o.dst (.tuple #[.bool false])) w)
    (hMore : ∀ (s : ByteArray) (c : Nat) (w' : World) (cnt' : Nat), (s, c) ∈ todo → w'.ranges P k ptrElem b r n D (fun z => left z && !z.sameKey (sLit s)) cnt' → cnt' < cnt →
      w.grownBy w' (some r) → w'.heap.size = w.heap.size → (Instr.entry (.pointer (some ⟨r, 0, none⟩))).run P w' = .ok (.tuple #[.string s, .pointer (some ⟨c, 0, none⟩)]) w' → wpList P ops Q rest (a.put o.dst (.tuple #[.bool true, .string s, .pointer (some ⟨c, 0, none⟩)])) w') :
    wpList P ops Q (o :: rest) a w :=
  wpList_next_ranges w hg it hop k K ptrElem Value.string Value.pointer (fun key kl hkey => by obtain ⟨x, rfl, _⟩ := key_str hk hkey; exact ⟨x, rfl⟩) (fun v y hv => ptrElem_shape hv)
    b r n D left cnt hit h (fun _ hd => hDone hd) (fun x c kl y w' cnt' hkey hlk hv hat hrg hlt hgr hsz hen => by
      obtain ⟨x', ex, rfl, hwx⟩ := key_str hk hkey
      cases ex
      obtain ⟨⟨x2, bb⟩, hq, e⟩ := List.mem_map.1 (hl x hlk)
      simp only at e
      subst e
      have h2 := (hN.here _ (hT _ hq)).2 .nil
      simp only at h2
      rw [hat .nil] at h2
      obtain ⟨y1, ys⟩ := y
      simp only at h2
      subst h2
      have hc := ptrElem_inv hv
      simp only [Value.pointer.injEq] at hc
      subst hc
      exact hMore x2 bb w' cnt' hq hrg hlt hgr hsz hen)
/-- How far the way through the map is. -/
structure Going (ds : Df) (rows todo : Rw) (left : Lit → Bool) (L : List ByteArray) : Prop where
  sub : ∀ q ∈ todo, q ∈ rows
  once : (todo.map (·.1)).Nodup
  left : ∀ s, left (sLit s) = true ↔ s ∈ todo.map (·.1)
  perm : (L ++ (todo.map (·.1)).filter (plB ds)).Perm ((rows.map (·.1)).filter (plB ds))
theorem Going.start {ds : Df} {rows : Rw} {D : DataW Unit} (h : NmIs D rows) : Going ds rows rows (Maps.has D) [] := by
  refine ⟨fun _ q => q, h.once, fun s => ⟨fun q => ?_, fun q => ?_⟩, List.Perm.refl _⟩
  · by_cases e : s ∈ rows.map (·.1)
    · exact e
    · rw [h.far s e] at q; cases q
  · obtain ⟨r, hr, rfl⟩ := List.mem_map.1 q
    exact (h.here r hr).1
theorem names_less {todo : Rw} (h : (todo.map (·.1)).Nodup) {s : ByteArray} {c : Nat} (hq : (s, c) ∈ todo) : (todo.map (·.1)).Perm (s :: (todo.filter fun q => decide (q.1 ≠ s)).map (·.1)) := by
  induction todo with
  | nil => cases hq
  | cons x l ih =>
    rw [List.map_cons, List.nodup_cons] at h
    rcases List.mem_cons.1 hq with e | k
    · subst e
      have e2 : ((s, c) :: l).filter (fun q => decide (q.1 ≠ s)) = l := by
        rw [List.filter_cons_of_neg (by simp)]
        rw [List.filter_eq_self]
        intro q hq2
        simp only [decide_eq_true_eq]
        intro e
        exact h.1 (e ▸ List.mem_map_of_mem (f := (·.1)) hq2)
      rw [e2, List.map_cons]
    · have hx : x.1 ≠ s := fun e => h.1 (by rw [e]; exact List.mem_map_of_mem (f := (·.1)) k)
      rw [List.filter_cons_of_pos (by simpa using hx), List.map_cons, List.map_cons]
      exact ((ih h.2 k).cons x.1).trans (List.Perm.swap _ _ _)
theorem Going.step {ds : Df} {rows todo : Rw} {left : Lit → Bool} {L L' : List ByteArray} (h : Going ds rows todo left L) {s : ByteArray} {c : Nat} (hq : (s, c) ∈ todo) (hL : L' = if plB ds s then L ++ [s] else L) :
    Going ds rows (todo.filter fun q => decide (q.1 ≠ s)) (fun z => left z && !z.sameKey (sLit s)) L' := by
  have hp := names_less h.once hq
  have hs : ∀ t, ((todo.filter fun q => decide (q.1 ≠ s)).map (·.1)).contains t = true → True := fun _ _ => trivial
  clear hs
  refine ⟨fun q k => h.sub q (List.mem_filter.1 k).1, ?_, fun t => ?_, ?_⟩
  · have := hp.nodup_iff.1 h.once
    exact (List.nodup_cons.1 this).2
  · rw [Bool.and_eq_true, h.left t]
    constructor
    · rintro ⟨h1, h2⟩
      obtain ⟨q, hq1, rfl⟩ := List.mem_map.1 h1
      refine List.mem_map_of_mem (f := (·.1)) (List.mem_filter.2 ⟨hq1, ?_⟩)
      simp only [decide_eq_true_eq]
      intro e
      rw [e, WideAt.sameKey_self (sLit_key s)] at h2
      cases h2
    · intro h1
      obtain ⟨q, hq1, rfl⟩ := List.mem_map.1 h1
      obtain ⟨hq2, hq3⟩ := List.mem_filter.1 hq1
      simp only [decide_eq_true_eq] at hq3
      refine ⟨List.mem_map_of_mem (f := (·.1)) hq2, ?_⟩
      cases z : (sLit q.1).sameKey (sLit s) with
      | false => rfl
      | true => exact absurd (sLit_inj (WideAt.sameKey_eq z)) hq3
  · have h2 := h.perm
    have hf := hp.filter (plB ds)
    subst hL
    cases z : plB ds s
    · rw [List.filter_cons_of_neg (by simp [z])] at hf
      simp only [Bool.false_eq_true, if_false]
      exact (hf.symm.append_left L).trans h2
    · rw [List.filter_cons_of_pos (by simpa using z)] at hf
      simp only [if_true, List.append_assoc, List.singleton_append]
      exact (hf.symm.append_left L).trans h2
theorem Going.done {ds : Df} {rows todo : Rw} {left : Lit → Bool} {L : List ByteArray} (h : Going ds rows todo left L) (hl : ∀ kl, left kl = false) : L.Perm ((rows.map (·.1)).filter (plB ds)) := by
  have e : todo.map (·.1) = [] := by
    cases q : todo.map (·.1) with
    | nil => rfl
    | cons s l =>
      have := (h.left s).2 (by rw [q]; simp)
      rw [hl] at this; cases this
  have := h.perm
  rw [e] at this
  simpa using this
/-- The names that have a place are those that were told to. -/
theorem LabIn.placed_names {B t M m : Nat} {w : World} {ds us : Df} {F : Nat → Prop} {D : DataW Unit} {rows : Rw} {v : Value} (h : LabIn B w t ds us F M m D rows v) : ((rows.map (·.1)).filter (plB ds)).Perm (ds.map (·.1)) := by
  refine (List.perm_ext_iff_of_nodup (h.nms.once.filter _) h.once).2 fun s => ?_
  rw [List.mem_filter]
  constructor
  · rintro ⟨_, q⟩; exact pl_mem.1 q
  · intro q
    refine ⟨?_, pl_mem.2 q⟩
    obtain ⟨d, hd, rfl⟩ := List.mem_map.1 q
    exact h.defs d hd
set_option maxRecDepth 100000 in
set_option maxHeartbeats 2000000 in
theorem labNames_is (B t : Nat) (ds us : Df) (F : Nat → Prop) (w : World) (h : LabAt B w t ds us F) (hd : ds.length + us.length ≤ 2000) :
    Calls Tryd.prog 17 #[.pointer (some ⟨t, 0, none⟩)] w (RetNames ds w) := by
  obtain ⟨M, m, D, rows, v0, h, hm⟩ := h
  obtain ⟨i0, hi, hz0, hz1, hz2⟩ := info_el infoStr
  have c0 : w.cell? ⟨t, 0, none⟩ = some (.map (some M)) := h.blk.cell 0
  have HMD := Lib.hid h.made
  have HPN := Lib.hid h.placed_names
  have H := Lib.hid h
  clear h
  go_enter Tryd.func17, Tryd.ntmps17
  go_wp2_with (first
    | (go_at_call 22; ((with_reducible refine (HMD.out.now).mono ?_); rintro e w1 ⟨rfl, rfl⟩))
    | (at_range; refine wpList_range_own _ rfl _ 46 rfl 9 52 strLaw Tryd.underlying46 ptrElem M m D rfl H.out.map ?_; intro w0 hrg0 hg0 hs0))
  go_frame
  have HR0 := Lib.hid hrg0
  have HB0 := Lib.hid ((Below.refl w.heap.size w).grown hg0 (Nat.le_refl _) fun j hj => by cases hj)
  clear hrg0 hg0
  go_loopw [3] (fun v wr => ∃ (todo : Rw) (left : Lit → Bool) (cnt : Nat) (L : List ByteArray), wr.ranges Tryd.prog 9 ptrElem M w.heap.size m D left cnt ∧ OwnEl strK wr (w.heap.size + 1) 9 v L ∧ Going ds rows todo left L ∧ Below w.heap.size w wr) (fun _ wr => wr.rangeLeft M w.heap.size)
  case atStart => exact ⟨rows, _, _, [], HR0.out, OwnEl.nil _ _ _ _, Going.start H.out.nms, HB0.out⟩
  case round =>
    obtain ⟨todo, left, cnt, L, hrg, ho, hg, hb⟩ := hrel
    have HRG := Lib.hid hrg
    have HO := Lib.hid ho
    have HG := Lib.hid hg
    have HB := Lib.hid hb
    have hsz := hrg.lt
    have hLl : L.length ≤ 2000 := by
      have q1 := hg.perm.length_eq
      have q2 := HPN.out.length_eq
      rw [List.length_append] at q1
      rw [List.length_map] at q2
      omega
    obtain ⟨a0, n0, c0', rfl⟩ := OwnEl.shape ho
    clear hrg ho hg hb
    go_wp2_with (at_next; refine wpList_next_names _ rfl _ rfl 9 strLaw Tryd.underlying9 M w.heap.size m D rows todo left cnt rfl HRG.out H.out.nms HG.out.sub (fun s q => (HG.out.left s).1 q) ?_ ?_)
    · intro hl0
      have HP := Lib.hid (HG.out.done hl0)
      clear hl0
      go_wp2_with (go_at_call 25; ((with_reducible refine (strSort_is HO.out (by omega)).mono ?_); rintro e w3 ⟨rfl, ho3, hg3⟩); have HO3 := Lib.hid ho3; have HG3 := Lib.hid hg3; clear ho3 hg3)
      go_ret
      refine ⟨_, rfl, ?_, HB.out.grown HG3.out (by omega) fun j hj => by have := (HO.out.lt j hj).1; omega⟩
      have e : srt L = namesOf ds := srt_same (HP.out.trans HPN.out)
      rw [← e]
      exact HO3.out.mono (by omega)
    · intro s c w1 cnt1 hq hrg1 hlt hg1 hs1 hen
      have HI := Lib.hid ((H.out.keep HB.out).kept (Keeps.of_grown (F := fun j => j = w.heap.size) hg1 fun j hj => by cases hj; rfl) fun j q e => by have := (H.out.low j q).2; omega)
      have hbk := HI.out.spots _ (HG.out.sub _ hq)
      have e2 : w1.cell? ⟨c, 2, none⟩ = some (.bool (plB ds s)) := hbk.cell 2
      have HO1 := Lib.hid (HO.out.kept (Keeps.of_grown (F := fun j => j = w.heap.size) hg1 fun j hj => by cases hj; rfl) fun j q e => by have := (HO.out.lt j q).1; omega)
      have HB1 := Lib.hid (HB.out.grown hg1 (by omega) fun j hj => by cases hj; exact Nat.le_refl _)
      have HRG1 := Lib.hid hrg1
      have HST := Lib.hid (fun L' h => HG.out.step (L' := L') hq h)
      have HS1 := Lib.hid hs1
      have HLT := Lib.hid hlt
      have hsz1 : w.heap.size + 1 ≤ w1.heap.size := by omega
      clear hbk hq hrg1 hg1 hs1 hlt
      cases hp : plB ds s
      · rw [hp] at e2
        have HST2 := Lib.hid (HST.out L (by rw [hp]; rfl))
        clear hp
        go_wp2
        go_roundw
        case rel => exact ⟨_, _, cnt1, L, HRG1.out, HO1.out, HST2.out, HB1.out⟩
        case measure => rw [HRG1.out.left_eq, HRG.out.left_eq]; exact HLT.out
      · rw [hp] at e2
        have HST2 := Lib.hid (HST.out (L ++ [s]) (by rw [hp]; rfl))
        clear hp
        go_wp2_with (at_builtin; refine wpList_append_el1 rfl _ _ 41 rfl (w.heap.size + 1) 9 i0 _ Tryd.underlying41 hi hz0 hz1 (by omega) rfl rfl (HO1.out.keep ((Below.refl _ _).alloc (Nat.le_refl _) _)) rfl (one_el (K := strK) (b := w1.heap.size) w1 9 s #[.string s] rfl rfl) (by omega) (by simp; omega) ?_; intro v2 w2 hown2 hgrow2 hnext2; have HO2 := Lib.hid hown2; have HB2 := Lib.hid ((HB1.out.alloc (by omega) _).grown hgrow2 (by simp; omega) fun j hj => by have := (HO1.out.lt j hj).1; omega); have HR2 := Lib.hid ((HRG1.out.alloc (.cells #[.string s] 9)).kept hgrow2 (fun e => map_own_ne (HI.out.map) HO1.out e.symm) (fun e => by have := (HO1.out.lt _ e.symm).1; omega)); obtain ⟨a2, n2, c2, rfl⟩ := OwnEl.shape hown2; clear hown2 hgrow2 hnext2)
        go_roundw
        case rel => exact ⟨_, _, cnt1, L ++ [s], HR2.out, HO2.out, HST2.out, HB2.out⟩
        case measure => rw [HR2.out.left_eq, HRG.out.left_eq]; exact HLT.out
end Go.Proofs.YthaccdalciihpaaDoor
