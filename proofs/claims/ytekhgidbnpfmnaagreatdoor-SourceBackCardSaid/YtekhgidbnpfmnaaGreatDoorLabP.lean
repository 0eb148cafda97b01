/- Names of places: what is a name, which places are told, in plain words. Nothing of any program. -/
import Derived.Test.YtekhgidbnpfmnaaGreatDoorElsM
namespace Go.Proofs.YtekhgidbnpfmnaaGreatDoor
open Go.RowKit

/-! ### what is a name -/
def letB (c : Int) : Bool := decide (97 ≤ c) && decide (c ≤ 122)
def digB (c : Int) : Bool := decide (48 ≤ c) && decide (c ≤ 57)
def okB (c : Int) : Bool := letB c || (digB c || decide (c = 95))
def byI (s : ByteArray) (k : Nat) : Int := ((s.data.toList.getD k 0).toNat : Int)
def nameB (s : ByteArray) : Bool := decide (1 ≤ s.size) && decide (s.size ≤ 24) && letB (byI s 0) && s.data.toList.all fun b => okB (b.toNat : Int)
theorem size_list (s : ByteArray) : s.size = s.data.toList.length := rfl
theorem byI_eq {s : ByteArray} {k : Nat} (h : k < s.size) : (s[k].toNat : Int) = byI s k := by
  unfold byI
  rw [List.getD_eq_getElem?_getD, List.getElem?_eq_getElem (by rw [← size_list]; exact h)]
  rfl
theorem nameB_short {s : ByteArray} (h : s.size < 1) : nameB s = false := by
  unfold nameB; rw [decide_eq_false (by omega)]; rfl
theorem name_long {s : ByteArray} (h : 24 < s.size) : nameB s = false := by
  unfold nameB; rw [decide_eq_false (p := s.size ≤ 24) (by omega)]; simp
theorem name_first {s : ByteArray} (h : letB (byI s 0) = false) : nameB s = false := by
  unfold nameB; rw [h]; simp
theorem name_bad {s : ByteArray} {k : Nat} (hk : k < s.size) (h : okB (byI s k) = false) : nameB s = false := by
  have e : (s.data.toList.all fun b => okB (b.toNat : Int)) = false := by
    rw [List.all_eq_false]
    refine ⟨s.data.toList[k]'(by rw [← size_list]; exact hk), List.getElem_mem _, ?_⟩
    have := byI_eq hk
    have e2 : (s[k].toNat : Int) = ((s.data.toList[k]'(by rw [← size_list]; exact hk)).toNat : Int) := rfl
    rw [← e2, this, h]; simp
  unfold nameB; rw [e]; simp
theorem name_yes {s : ByteArray} (h1 : 1 ≤ s.size) (h2 : s.size ≤ 24) (h3 : letB (byI s 0) = true) (h4 : ∀ k, k < s.size → okB (byI s k) = true) : nameB s = true := by
  unfold nameB
  rw [decide_eq_true h1, decide_eq_true h2, h3]
  simp only [Bool.and_true, Bool.true_and]
  rw [List.all_eq_true]
  intro b hb
  obtain ⟨k, hk, rfl⟩ := List.mem_iff_getElem.1 hb
  have hk' : k < s.size := by rw [size_list]; exact hk
  have := h4 k hk'
  rw [← byI_eq hk'] at this
  exact this
theorem name_size {s : ByteArray} (h : nameB s = true) : 1 ≤ s.size ∧ s.size ≤ 24 := by
  unfold nameB at h
  simp only [Bool.and_eq_true, decide_eq_true_eq] at h
  exact ⟨h.1.1.1, h.1.1.2⟩
theorem let_ok {c : Int} (h : letB c = true) : okB c = true := by unfold okB; rw [h]; rfl

/-! ### which places are told -/
abbrev Df := List (ByteArray × Int)
def plc (ds : Df) (n : ByteArray) : Option Int := (ds.find? fun d => decide (d.1 = n)).map (·.2)
def plB (ds : Df) (n : ByteArray) : Bool := (plc ds n).isSome
def plV (ds : Df) (n : ByteArray) : Int := (plc ds n).getD 0
theorem pl_none {ds : Df} {n : ByteArray} (h : ∀ d ∈ ds, d.1 ≠ n) : plB ds n = false ∧ plV ds n = 0 := by
  have e : ds.find? (fun d => decide (d.1 = n)) = none := List.find?_eq_none.2 fun d hd => by simpa using h d hd
  unfold plB plV plc
  rw [e]; exact ⟨rfl, rfl⟩
theorem pl_hit {ds : Df} {n : ByteArray} {k : Nat} (hk : k < ds.length) (h : ∀ j, j < k → (el ds j).1 ≠ n) (e : (el ds k).1 = n) : plB ds n = true ∧ plV ds n = (el ds k).2 := by
  have q : ds.find? (fun d => decide (d.1 = n)) = some (el ds k) := by
    rw [List.find?_eq_some_iff_append]
    refine ⟨by simpa using e, ds.take k, ds.drop (k + 1), ?_, fun d hd => ?_⟩
    · rw [← el_eq hk, List.getElem_cons_drop, List.take_append_drop]
    · obtain ⟨j, hj, rfl⟩ := List.mem_iff_getElem.1 hd
      rw [List.length_take] at hj
      rw [List.getElem_take, el_eq (by omega)]
      simpa using h j (by omega)
  unfold plB plV plc
  rw [q]; exact ⟨rfl, rfl⟩
theorem pl_mem {ds : Df} {n : ByteArray} : plB ds n = true ↔ n ∈ ds.map (·.1) := by
  unfold plB plc
  rw [Option.isSome_map, List.find?_isSome]
  constructor
  · rintro ⟨d, hd, e⟩; exact List.mem_map.2 ⟨d, hd, by simpa using e⟩
  · intro h; obtain ⟨d, hd, e⟩ := List.mem_map.1 h; exact ⟨d, hd, by simpa using e⟩
theorem pl_off {ds : Df} {n : ByteArray} (h : n ∉ ds.map (·.1)) : plB ds n = false ∧ plV ds n = 0 :=
  pl_none fun d hd e => h (List.mem_map.2 ⟨d, hd, e⟩)
theorem plc_snoc (ds : Df) (n m : ByteArray) (p : Int) : plc (ds ++ [(n, p)]) m = if plB ds m then plc ds m else if m = n then some p else none := by
  unfold plB plc
  rw [List.find?_append]
  cases h : ds.find? (fun d => decide (d.1 = m)) with
  | some d => rfl
  | none =>
    by_cases e : m = n
    · subst e; simp
    · have e' : ¬ n = m := fun q => e q.symm
      simp [e, e']
theorem pl_snoc_same {ds : Df} {n : ByteArray} {p : Int} (h : plB ds n = false) : plB (ds ++ [(n, p)]) n = true ∧ plV (ds ++ [(n, p)]) n = p := by
  unfold plV; unfold plB at *
  rw [plc_snoc, if_neg (by unfold plB; simp [h]), if_pos rfl]; exact ⟨rfl, rfl⟩
theorem pl_snoc_other {ds : Df} {n m : ByteArray} {p : Int} (h : m ≠ n) : plB (ds ++ [(n, p)]) m = plB ds m ∧ plV (ds ++ [(n, p)]) m = plV ds m := by
  have e : plc (ds ++ [(n, p)]) m = plc ds m := by
    rw [plc_snoc]
    by_cases q : plB ds m = true
    · rw [if_pos q]
    · rw [if_neg q, if_neg h]
      unfold plB at q
      cases z : plc ds m with
      | none => rfl
      | some v => rw [z] at q; simp at q
  unfold plB plV; rw [e]; exact ⟨rfl, rfl⟩

/-! ### what is told: by Define, by Use -/
def defE (ds : Df) (n : ByteArray) : Int := if nameB n then (if plB ds n then 9 else 0) else 8
def defS (ds : Df) (n : ByteArray) (p : Int) : Df := if nameB n then (if plB ds n then ds else ds ++ [(n, p)]) else ds
def useE (n : ByteArray) : Int := if nameB n then 0 else 8
def useS (us : Df) (n : ByteArray) (p : Int) : Df := if nameB n then us ++ [(n, p)] else us
theorem def_no {ds : Df} {n : ByteArray} (p : Int) (h : nameB n = false) : defE ds n = 8 ∧ defS ds n p = ds := by unfold defE defS; rw [h]; exact ⟨rfl, rfl⟩
theorem def_twice {ds : Df} {n : ByteArray} (p : Int) (h : nameB n = true) (k : plB ds n = true) : defE ds n = 9 ∧ defS ds n p = ds := by unfold defE defS; rw [h, k]; exact ⟨rfl, rfl⟩
theorem def_yes {ds : Df} {n : ByteArray} (p : Int) (h : nameB n = true) (k : plB ds n = false) : defE ds n = 0 ∧ defS ds n p = ds ++ [(n, p)] := by unfold defE defS; rw [h, k]; exact ⟨rfl, rfl⟩
theorem use_no {us : Df} {n : ByteArray} (p : Int) (h : nameB n = false) : useE n = 8 ∧ useS us n p = us := by unfold useE useS; rw [h]; exact ⟨rfl, rfl⟩
theorem use_yes {us : Df} {n : ByteArray} (p : Int) (h : nameB n = true) : useE n = 0 ∧ useS us n p = us ++ [(n, p)] := by unfold useE useS; rw [h]; exact ⟨rfl, rfl⟩
theorem defS_len (ds : Df) (n : ByteArray) (p : Int) : (defS ds n p).length ≤ ds.length + 1 := by
  unfold defS; repeat' split
  all_goals simp
theorem useS_len (us : Df) (n : ByteArray) (p : Int) : (useS us n p).length ≤ us.length + 1 := by
  unfold useS; split <;> simp
/-- No name is told twice. -/
def Once (ds : Df) : Prop := (ds.map (·.1)).Nodup
theorem Once.defS {ds : Df} (h : Once ds) (n : ByteArray) (p : Int) : Once (defS ds n p) := by
  unfold Proofs.YtekhgidbnpfmnaaGreatDoor.defS
  split
  · split
    · exact h
    · rename_i q
      unfold Once at *
      rw [List.map_append, List.nodup_append]
      refine ⟨h, by simp, fun a ha b hb => ?_⟩
      simp at hb
      subst hb
      intro e; subst e
      exact q (pl_mem.2 ha)
  · exact h

/-! ### what Resolve answers -/
def lackN (ds us : Df) : Option ByteArray := (us.find? fun u => !plB ds u.1).map (·.1)
def resL (ds us : Df) : List (Int × Int) := match lackN ds us with | some _ => [] | none => us.map fun u => (u.2, plV ds u.1)
def resN (ds us : Df) : ByteArray := match lackN ds us with | some n => n | none => ⟨#[]⟩
def resE (ds us : Df) : Int := match lackN ds us with | some _ => 10 | none => 0
theorem res_no {ds us : Df} {k : Nat} (hk : k < us.length) (h : ∀ j, j < k → plB ds (el us j).1 = true) (e : plB ds (el us k).1 = false) : resL ds us = [] ∧ resN ds us = (el us k).1 ∧ resE ds us = 10 ∧ lackN ds us = some (el us k).1 := by
  have q : us.find? (fun u => !plB ds u.1) = some (el us k) := by
    rw [List.find?_eq_some_iff_append]
    refine ⟨by simpa using e, us.take k, us.drop (k + 1), ?_, fun d hd => ?_⟩
    · rw [← el_eq hk, List.getElem_cons_drop, List.take_append_drop]
    · obtain ⟨j, hj, rfl⟩ := List.mem_iff_getElem.1 hd
      rw [List.length_take] at hj
      rw [List.getElem_take, el_eq (by omega)]
      simpa using h j (by omega)
  have l : lackN ds us = some (el us k).1 := by unfold lackN; rw [q]; rfl
  unfold resL resN resE
  rw [l]; exact ⟨rfl, rfl, rfl, rfl⟩
theorem res_yes {ds us : Df} (h : ∀ j, j < us.length → plB ds (el us j).1 = true) : resL ds us = us.map (fun u => (u.2, plV ds u.1)) ∧ resN ds us = ⟨#[]⟩ ∧ resE ds us = 0 ∧ lackN ds us = none := by
  have q : us.find? (fun u => !plB ds u.1) = none := List.find?_eq_none.2 fun d hd => by
    obtain ⟨j, hj, rfl⟩ := List.mem_iff_getElem.1 hd
    rw [el_eq hj]
    simpa using h j hj
  have l : lackN ds us = none := by unfold lackN; rw [q]; rfl
  unfold resL resN resE
  rw [l]; exact ⟨rfl, rfl, rfl, rfl⟩
theorem resL_len (ds us : Df) : (resL ds us).length ≤ us.length := by
  unfold resL; split <;> simp

/-! ### names, rising -/
def bleq (a b : ByteArray) : Bool := decide (a.data.toList ≤ b.data.toList)
theorem bleq_anti {a b : ByteArray} (h : bleq a b = true) (k : bleq b a = true) : a = b := by
  unfold bleq at h k
  simp only [decide_eq_true_eq] at h k
  exact str_ext (List.le_antisymm h k)
theorem bleq_trans {a b c : ByteArray} (h : bleq a b = true) (k : bleq b c = true) : bleq a c = true := by
  unfold bleq at *
  simp only [decide_eq_true_eq] at *
  exact List.le_trans h k
theorem bleq_total (a b : ByteArray) : (bleq a b || bleq b a) = true := by
  unfold bleq
  rcases List.le_total a.data.toList b.data.toList with h | h
  · rw [decide_eq_true h]; rfl
  · rw [decide_eq_true h, Bool.or_true]
/-- The names that have a place, rising. -/
def srt (l : List ByteArray) : List ByteArray := l.mergeSort bleq
def namesOf (ds : Df) : List ByteArray := srt (ds.map (·.1))
theorem srt_perm (l : List ByteArray) : (srt l).Perm l := List.mergeSort_perm _ _
theorem srt_up (l : List ByteArray) : (srt l).Pairwise fun a b => bleq a b = true := List.pairwise_mergeSort (le := bleq) (fun _ _ _ p q => bleq_trans p q) bleq_total l
theorem srt_of {l m : List ByteArray} (h : l.Perm m) (u : l.Pairwise fun a b => bleq a b = true) : l = srt m :=
  List.Perm.eq_of_pairwise (fun _ _ _ _ => bleq_anti) u (srt_up m) (h.trans (srt_perm m).symm)
theorem srt_same {l m : List ByteArray} (h : l.Perm m) : srt l = srt m := srt_of ((srt_perm l).trans h) (srt_up l)
theorem srt_len (l : List ByteArray) : (srt l).length = l.length := (srt_perm l).length_eq
/-- As lists of bytes sorted. -/
theorem srt_bytes (l : List ByteArray) : (l.map (·.data.toList)).mergeSort (fun x y => decide (x ≤ y)) = (srt l).map (·.data.toList) := by
  have h : ((srt l).map (·.data.toList)).Pairwise fun x y => decide (x ≤ y) = true := by
    rw [List.pairwise_map]
    exact srt_up l
  refine List.Perm.eq_of_pairwise (le := fun x y => decide (x ≤ y) = true) (fun a b _ _ p q => ?_) ?_ h ?_
  · simp only [decide_eq_true_eq] at p q; exact List.le_antisymm p q
  · refine List.pairwise_mergeSort (fun a b c p q => ?_) (fun a b => ?_) _
    · simp only [decide_eq_true_eq] at *; exact List.le_trans p q
    · rcases List.le_total a b with e | e
      · rw [decide_eq_true e]; rfl
      · rw [decide_eq_true e, Bool.or_true]
  · exact (List.mergeSort_perm _ _).trans ((srt_perm l).symm.map _)
end Go.Proofs.YtekhgidbnpfmnaaGreatDoor
