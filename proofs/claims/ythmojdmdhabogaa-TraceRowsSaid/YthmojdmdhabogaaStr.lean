/- Strings in a walk: when two are the same, and pieces of them. Nothing of any program. -/
import Derived.WalkKit
import Derived.Lib.Strings
namespace Go.Proofs.Ythmojdmdhabogaa

theorem str_same {a b : ByteArray} (h : a = b) : (a.toList == b.toList) = true := by rw [h]; exact beq_self_eq_true _
theorem str_apart {a b : ByteArray} (h : a ≠ b) : (a.toList == b.toList) = false := by
  rw [beq_eq_false_iff_ne]
  intro e
  rw [ByteArray.toList_eq, ByteArray.toList_eq] at e
  apply h
  cases a; cases b; congr 1; exact Array.toList_inj.1 e
theorem str_eq {a b : ByteArray} (h : (a.toList == b.toList) = true) : a = b := by
  by_cases e : a = b
  · exact e
  · rw [str_apart e] at h; cases h
theorem str_ne {a b : ByteArray} (h : (a.toList == b.toList) = false) : a ≠ b := fun e => by rw [str_same e] at h; cases h
theorem str_none {a : ByteArray} (h : a = ⟨#[]⟩) : a.toList.isEmpty = true := by rw [h, ByteArray.toList_eq]; rfl
theorem str_some {a : ByteArray} (h : a ≠ ⟨#[]⟩) : a.toList.isEmpty = false := by
  rw [ByteArray.toList_eq]
  cases e : a.data.toList with
  | nil => exact absurd (by cases a; congr 1; exact Array.toList_inj.1 (by simpa using e)) h
  | cons x l => rfl
/-- Held against a constant text (the walk writes such a text as its bytes). -/
theorem str_is {a : ByteArray} {l : List UInt8} (h : a.data.toList = l) : (a.toList == l) = true := by rw [ByteArray.toList_eq, h]; exact beq_self_eq_true _
theorem str_no {a : ByteArray} {l : List UInt8} (h : a.data.toList ≠ l) : (a.toList == l) = false := by rw [ByteArray.toList_eq, beq_eq_false_iff_ne]; exact h
theorem ret_str {a b : ByteArray} (h : a = b) : Ending.returned (.string a) = .returned (.string b) := by rw [h]
theorem str_ext {a b : ByteArray} (h : a.data.toList = b.data.toList) : a = b := by
  cases a; cases b; congr 1; exact Array.toList_inj.1 h
theorem str_take (s : ByteArray) (b : Nat) : s.extract 0 b = ⟨(s.data.toList.take b).toArray⟩ := by
  apply str_ext
  have := Lib.extract_toList s 0 b
  rw [ByteArray.toList_eq] at this
  rw [this]
  simp
theorem str_drop (s : ByteArray) (a : Nat) : s.extract a s.size = ⟨(s.data.toList.drop a).toArray⟩ := by
  apply str_ext
  have := Lib.extract_toList s a s.size
  rw [ByteArray.toList_eq] at this
  rw [this]
  show List.take (s.size - a) (s.data.toList.drop a) = s.data.toList.drop a
  rw [List.take_of_length_le]
  rw [List.length_drop]
  exact Nat.le_refl _
end Go.Proofs.Ythmojdmdhabogaa
