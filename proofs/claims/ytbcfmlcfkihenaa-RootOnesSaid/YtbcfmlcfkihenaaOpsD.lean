/- The operations' names, shapes and costs: what package ops' functions mean. Nothing of any program. -/
import Derived.WalkKit
import Derived.Lib.Bytealg
namespace Go.Proofs.Ytbcfmlcfkihenaa

/-- The 43 names, in order. -/
def nms : List ByteArray := [⟨#[97, 100, 100]⟩, ⟨#[115, 117, 98]⟩, ⟨#[97, 100, 100, 115]⟩, ⟨#[115, 117, 98, 115]⟩, ⟨#[97, 110, 100]⟩, ⟨#[111, 114]⟩, ⟨#[120, 111, 114]⟩, ⟨#[98, 105, 99]⟩, ⟨#[115, 104, 108]⟩, ⟨#[115, 104, 114]⟩, ⟨#[115, 97, 114]⟩, ⟨#[114, 111, 108]⟩, ⟨#[115, 108, 116]⟩, ⟨#[115, 108, 116, 117]⟩, ⟨#[115, 101, 113]⟩, ⟨#[109, 105, 110]⟩, ⟨#[109, 97, 120]⟩, ⟨#[109, 117, 108]⟩, ⟨#[109, 117, 108, 104]⟩, ⟨#[109, 117, 108, 113]⟩, ⟨#[109, 117, 108, 114]⟩, ⟨#[100, 105, 118]⟩, ⟨#[114, 101, 109]⟩, ⟨#[99, 108, 122]⟩, ⟨#[110, 101, 103]⟩, ⟨#[97, 98, 115]⟩, ⟨#[109, 97, 115, 107]⟩, ⟨#[115, 105, 103, 110]⟩, ⟨#[104, 97, 108, 102]⟩, ⟨#[104, 105, 103, 104]⟩, ⟨#[97, 100, 100, 105]⟩, ⟨#[111, 114, 105]⟩, ⟨#[108, 117, 105]⟩, ⟨#[108, 119]⟩, ⟨#[115, 119]⟩, ⟨#[98, 101, 113]⟩, ⟨#[98, 110, 101]⟩, ⟨#[98, 108, 116]⟩, ⟨#[106, 117, 109, 112]⟩, ⟨#[106, 97, 108]⟩, ⟨#[106, 114]⟩, ⟨#[110, 111, 112]⟩, ⟨#[104, 97, 108, 116]⟩]
/-- The name at place k, from 0 on. -/
def nm (k : Nat) : ByteArray := nms.getD k ⟨#[]⟩
/-- Names with a blank between each two. -/
def joinL : List ByteArray → List UInt8
  | [] => []
  | [a] => a.data.toList
  | a :: r => a.data.toList ++ 32 :: joinL r
/-- The text of all names, but for the first k of them. -/
def rest (k : Nat) : ByteArray := ⟨(joinL (nms.drop k)).toArray⟩
/-- What is ahead of the first c, what is behind it, and whether there is one. -/
def cutA (s : ByteArray) (c : UInt8) : ByteArray := if Lib.indexByte s.data.toList c < 0 then s else ⟨(s.data.toList.take (Lib.indexByte s.data.toList c).toNat).toArray⟩
def cutB (s : ByteArray) (c : UInt8) : ByteArray := if Lib.indexByte s.data.toList c < 0 then ⟨#[]⟩ else ⟨(s.data.toList.drop ((Lib.indexByte s.data.toList c).toNat + 1)).toArray⟩
def cutF (s : ByteArray) (c : UInt8) : Bool := decide (0 ≤ Lib.indexByte s.data.toList c)

def wName (n : Int) : ByteArray := if 1 ≤ n ∧ n ≤ 43 then nm (n - 1).toNat else ⟨#[]⟩
/-- The number of a name among some that are numbered from i on; 0: it is none of them. -/
def findIn (s : ByteArray) : List ByteArray → Int → Int
  | [], _ => 0
  | a :: l, i => if a = s then i else findIn s l (i + 1)
def wFind (s : ByteArray) : Int := findIn s nms 1
def wShape (n : Int) : ByteArray :=
  if n < 1 ∨ 43 < n then ⟨#[]⟩ else if n ≤ 23 then ⟨#[100, 97, 98, 45]⟩ else if n ≤ 30 then ⟨#[100, 97, 45, 45]⟩ else if n = 31 then ⟨#[100, 97, 45, 115]⟩ else if n = 33 ∨ n = 40 then ⟨#[100, 45, 45, 117]⟩
  else if n = 39 then ⟨#[45, 45, 45, 117]⟩ else if n = 41 then ⟨#[45, 97, 45, 45]⟩ else if 42 ≤ n then ⟨#[45, 45, 45, 45]⟩ else ⟨#[100, 97, 45, 117]⟩
def wCost (n : Int) : Int :=
  if n < 1 ∨ 43 < n then 0 else if (18 ≤ n ∧ n ≤ 21) ∨ (39 ≤ n ∧ n ≤ 41) then 3 else if n = 22 ∨ n = 23 ∨ n = 34 ∨ n = 35 then 2 else 1
def wReck (n : Int) : Bool := decide (1 ≤ n ∧ n ≤ 30)
def wLeak (n : Int) : Bool := decide (n = 22 ∨ n = 23 ∨ n = 34 ∨ n = 35 ∨ n = 36 ∨ n = 37 ∨ n = 38 ∨ n = 41)

theorem index_app : ∀ (a b : List UInt8) (c : UInt8), c ∉ a → Lib.indexByte (a ++ c :: b) c = a.length
  | [], _, _, _ => by simp [Lib.indexByte]
  | x :: a, b, c, h => by
    have h0 : (x == c) = false := by
      have : x ≠ c := fun e => h (by simp [e])
      simpa using this
    have ih := index_app a b c (fun e => h (by simp [e]))
    rw [List.cons_append, Lib.indexByte, h0, ih]
    have h1 : (((a.length : Nat) : Int) == -1) = false := by rw [beq_eq_false_iff_ne]; omega
    simp only [h1, Bool.false_eq_true, if_false, List.length_cons]
    omega
theorem index_none : ∀ (a : List UInt8) (c : UInt8), c ∉ a → Lib.indexByte a c = -1
  | [], _, _ => rfl
  | x :: a, c, h => by
    have h0 : (x == c) = false := by
      have : x ≠ c := fun e => h (by simp [e])
      simpa using this
    have ih := index_none a c (fun e => h (by simp [e]))
    rw [Lib.indexByte, h0, ih]
    rfl
theorem nm_at {k : Nat} (h : k < nms.length) : nm k = nms[k] := by
  unfold nm
  rw [List.getD, List.getElem?_eq_getElem h]
  rfl
theorem blankless : (nms.all fun a => !a.data.toList.contains 32) = true := by decide +kernel
theorem nm_blank {k : Nat} (h : k < 43) : (32 : UInt8) ∉ (nm k).data.toList := by
  have hm : nm k ∈ nms := by
    rw [nm_at h]
    exact List.getElem_mem _
  have := List.all_eq_true.1 blankless _ hm
  simpa using this
theorem drop_nms {k : Nat} (h : k < 43) : nms.drop k = nm k :: nms.drop (k + 1) := by
  rw [List.drop_eq_getElem_cons h, nm_at h]
theorem rest_at {k : Nat} (h : k < 42) : (rest k).data.toList = (nm k).data.toList ++ 32 :: (rest (k + 1)).data.toList := by
  have h1 : nms.drop k = nm k :: nm (k + 1) :: nms.drop (k + 2) := by rw [drop_nms (show k < 43 by omega), drop_nms (show k + 1 < 43 by omega)]
  have h2 : nms.drop (k + 1) = nm (k + 1) :: nms.drop (k + 2) := drop_nms (show k + 1 < 43 by omega)
  simp only [rest, h1, h2, joinL]
theorem rest_42 : (rest 42).data.toList = (nm 42).data.toList := by
  simp [rest, drop_nms (show 42 < 43 by omega), show nms.drop 43 = [] from rfl, joinL]
theorem rest_43 : rest 43 = ⟨#[]⟩ := rfl
theorem ba_ext {a b : ByteArray} (h : a.data.toList = b.data.toList) : a = b := by
  cases a; cases b; congr 1; exact Array.toList_inj.1 h
theorem cut_a {k : Nat} (h : k < 43) : cutA (rest k) 32 = nm k := by
  rcases (show k < 42 ∨ k = 42 by omega) with h1 | rfl
  · unfold cutA
    rw [rest_at h1, index_app _ _ _ (nm_blank h)]
    rw [if_neg (by omega)]
    apply ba_ext
    simp
  · unfold cutA
    rw [rest_42, index_none _ _ (nm_blank h)]
    exact ba_ext rest_42
theorem cut_b {k : Nat} (h : k < 43) : cutB (rest k) 32 = rest (k + 1) := by
  rcases (show k < 42 ∨ k = 42 by omega) with h1 | rfl
  · unfold cutB
    rw [rest_at h1, index_app _ _ _ (nm_blank h)]
    rw [if_neg (by omega)]
    apply ba_ext
    rw [Int.toNat_natCast, ← List.drop_drop, List.drop_left]
    rfl
  · unfold cutB
    rw [rest_42, index_none _ _ (nm_blank h), rest_43]
    rfl
theorem sizes : ((List.range 44).all fun k => decide ((joinL (nms.drop k)).length ≤ 200)) = true := by decide +kernel
theorem rest_size {k : Nat} (h : k < 44) : (rest k).size ≤ 200 := by
  have := List.all_eq_true.1 sizes k (List.mem_range.2 h)
  simpa [rest, ByteArray.size] using this
theorem findIn_0 (s : ByteArray) : ∀ (l : List ByteArray) (i : Int), (∀ j, j < l.length → l.getD j ⟨#[]⟩ ≠ s) → findIn s l i = 0
  | [], _, _ => rfl
  | a :: l, i, h => by
    have h0 : ¬ a = s := by simpa using h 0 (by simp)
    rw [findIn, if_neg h0]
    exact findIn_0 s l (i + 1) fun j hj => by simpa using h (j + 1) (by simpa using hj)
theorem findIn_at {s : ByteArray} : ∀ (l : List ByteArray) (i : Int) (k : Nat), (∀ j, j < k → l.getD j ⟨#[]⟩ ≠ s) → k < l.length → l.getD k ⟨#[]⟩ = s → findIn s l i = i + k
  | [], _, _, _, h, _ => by simp at h
  | a :: l, i, 0, _, _, h => by
    have : a = s := by simpa using h
    rw [findIn, if_pos this]; simp
  | a :: l, i, k + 1, h, hk, hs => by
    have h0 : ¬ a = s := by simpa using h 0 (by omega)
    have := findIn_at l (i + 1) k (fun j hj => by simpa using h (j + 1) (by omega)) (by simpa using hk) (by simpa using hs)
    rw [findIn, if_neg h0, this]
    omega
theorem find_0 {s : ByteArray} (h : ∀ j, j < 43 → nm j ≠ s) : wFind s = 0 := findIn_0 s nms 1 h
/-- The first place at which the name stands. -/
theorem find_at {s : ByteArray} {k : Nat} (h0 : ∀ j, j < k → nm j ≠ s) (hk : k < 43) (h : nm k = s) : wFind s = (k : Int) + 1 := by
  have := findIn_at (s := s) nms 1 k h0 hk h
  unfold wFind; rw [this]; omega
/-- Each name stands at its own place alone. -/
theorem finds : ((List.range 43).all fun k => decide (wFind (nm k) = (k : Int) + 1)) = true := by decide +kernel
theorem find_nm {k : Nat} (h : k < 43) : wFind (nm k) = (k : Int) + 1 := by
  simpa using List.all_eq_true.1 finds k (List.mem_range.2 h)
theorem filled : (nms.all fun a => decide (a ≠ ⟨#[]⟩)) = true := by decide +kernel
theorem nm_some {k : Nat} (h : k < 43) : nm k ≠ ⟨#[]⟩ := by
  have hm : nm k ∈ nms := by
    rw [nm_at h]
    exact List.getElem_mem _
  simpa using List.all_eq_true.1 filled _ hm
theorem wName_out {n : Int} (h : n < 1 ∨ 43 < n) : wName n = ⟨#[]⟩ := by unfold wName; rw [if_neg (by omega)]
theorem wName_in {n : Int} (h1 : 1 ≤ n) (h2 : n ≤ 43) : wName n = nm (n - 1).toNat := by unfold wName; rw [if_pos ⟨h1, h2⟩]
theorem wName_some {n : Int} (h1 : 1 ≤ n) (h2 : n ≤ 43) : wName n ≠ ⟨#[]⟩ := by rw [wName_in h1 h2]; exact nm_some (by omega)
/-- The table of costs. -/
def costZ (i : Nat) : Int := if (18 ≤ i ∧ i ≤ 21) ∨ (39 ≤ i ∧ i ≤ 41) then 3 else if i = 22 ∨ i = 23 ∨ i = 34 ∨ i = 35 then 2 else 0
theorem wCost_out {n : Int} (h : n < 1 ∨ 43 < n) : wCost n = 0 := by unfold wCost; rw [if_pos h]
theorem wCost_in (k : Nat) (h1 : 1 ≤ k) (h2 : k ≤ 43) : wCost k = max (costZ k) 1 := by
  unfold wCost costZ
  rw [if_neg (by omega)]
  by_cases h3 : (18 ≤ k ∧ k ≤ 21) ∨ (39 ≤ k ∧ k ≤ 41)
  · rw [if_pos (by omega), if_pos h3]; rfl
  · rw [if_neg (by omega), if_neg h3]
    by_cases h4 : k = 22 ∨ k = 23 ∨ k = 34 ∨ k = 35
    · rw [if_pos (by omega), if_pos h4]; rfl
    · rw [if_neg (by omega), if_neg h4]; rfl
/-- The table of shapes, row by row: from, to, and the shape. -/
def loZ (k : Nat) : Int := [1, 24, 31, 32, 33, 34, 39, 40, 41, 42].getD k 44
def hiZ (k : Nat) : Int := [23, 30, 31, 32, 33, 38, 39, 40, 41, 43].getD k 0
def shZ (k : Nat) : ByteArray := [⟨#[100, 97, 98, 45]⟩, ⟨#[100, 97, 45, 45]⟩, ⟨#[100, 97, 45, 115]⟩, ⟨#[100, 97, 45, 117]⟩, ⟨#[100, 45, 45, 117]⟩, ⟨#[100, 97, 45, 117]⟩, ⟨#[45, 45, 45, 117]⟩, ⟨#[100, 45, 45, 117]⟩, ⟨#[45, 97, 45, 45]⟩, ⟨#[45, 45, 45, 45]⟩].getD k ⟨#[]⟩
theorem lo_next {k : Nat} (h : k < 10) : loZ (k + 1) = hiZ k + 1 := by
  match k, h with
  | 0, _ | 1, _ | 2, _ | 3, _ | 4, _ | 5, _ | 6, _ | 7, _ | 8, _ | 9, _ => rfl
theorem lo_bd (k : Nat) : 1 ≤ loZ k ∧ loZ k ≤ 44 := by
  by_cases h : k < 10
  · match k, h with
    | 0, _ | 1, _ | 2, _ | 3, _ | 4, _ | 5, _ | 6, _ | 7, _ | 8, _ | 9, _ => exact ⟨by decide, by decide⟩
  · have e : loZ k = 44 := by unfold loZ; rw [List.getD, List.getElem?_eq_none (by simp; omega)]; rfl
    rw [e]; exact ⟨by decide, by decide⟩
theorem hi_bd {k : Nat} (h : k < 10) : 1 ≤ hiZ k ∧ hiZ k ≤ 43 := by
  match k, h with
  | 0, _ | 1, _ | 2, _ | 3, _ | 4, _ | 5, _ | 6, _ | 7, _ | 8, _ | 9, _ => exact ⟨by decide, by decide⟩
theorem wShape_at {n : Int} {k : Nat} (h : k < 10) (h1 : loZ k ≤ n) (h2 : n ≤ hiZ k) : wShape n = shZ k := by
  match k, h with
  | 0, _ | 1, _ | 2, _ | 3, _ | 4, _ | 5, _ | 6, _ | 7, _ | 8, _ | 9, _ =>
    simp only [loZ, hiZ, List.getD_cons_zero, List.getD_cons_succ] at h1 h2
    unfold wShape
    (repeat' split) <;> first | rfl | omega
theorem wShape_out {n : Int} (h : n < 1 ∨ 43 < n) : wShape n = ⟨#[]⟩ := by unfold wShape; rw [if_pos h]
end Go.Proofs.Ytbcfmlcfkihenaa
