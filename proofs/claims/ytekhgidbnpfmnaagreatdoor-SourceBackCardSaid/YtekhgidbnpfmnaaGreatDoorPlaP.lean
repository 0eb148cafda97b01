/- Plans of memory, in plain words: regions one behind the other, what is found by a name and by an address. Nothing of any program. -/
import Derived.Test.YtekhgidbnpfmnaaGreatDoorLabM
import Derived.Lib.Bytealg
namespace Go.Proofs.YtekhgidbnpfmnaaGreatDoor
open Go.RowKit

/-- A region: its name, where it begins, how many words, is it secret? -/
abbrev Rg := ByteArray × Int × Int × Bool
abbrev Rgs := List Rg
def rgK : Kd Rg where
  k := 4
  enc r := [.string r.1, .int .i64 r.2.1, .int .i64 r.2.2.1, .bool r.2.2.2]
  len _ := rfl
  ones := by intro x v hv; simp at hv; rcases hv with rfl | rfl | rfl | rfl <;> rfl
  pos := by decide
def rgV (r : Rg) : Value := .agg #[.string r.1, .int .i64 r.2.1, .int .i64 r.2.2.1, .bool r.2.2.2]
def rg0 : Rg := (⟨#[]⟩, 0, 0, false)
/-- What is asked for: a name, how many words, is it secret? -/
abbrev Wn := ByteArray × Int × Bool
def wnK : Kd Wn where
  k := 3
  enc r := [.string r.1, .int .i64 r.2.1, .bool r.2.2]
  len _ := rfl
  ones := by intro x v hv; simp at hv; rcases hv with rfl | rfl | rfl <;> rfl
  pos := by decide
def boolK : Kd Bool where
  k := 1
  enc r := [.bool r]
  len _ := rfl
  ones := by intro x v hv; simp at hv; subst hv; rfl
  pos := by decide
section
variable {w : World} {a : Option Addr} {n c : Nat}
theorem ElAt.rg {l : Rgs} (h : ElAt rgK w a n c l) {i : Nat} (hi : i < n) : ∃ b off, a = some ⟨b, off, none⟩ ∧ w.cell? ⟨b, off + i * 4, none⟩ = some (.string (el l i).1) ∧ w.cell? ⟨b, off + i * 4 + 1, none⟩ = some (.int .i64 (el l i).2.1) ∧ w.cell? ⟨b, off + i * 4 + 2, none⟩ = some (.int .i64 (el l i).2.2.1) ∧ w.cell? ⟨b, off + i * 4 + 3, none⟩ = some (.bool (el l i).2.2.2) := by
  obtain ⟨b, off, e, hc⟩ := h.two hi
  exact ⟨b, off, e, hc 0 (by decide), hc 1 (by decide), hc 2 (by decide), hc 3 (by decide)⟩
theorem ElAt.wn {l : List Wn} (h : ElAt wnK w a n c l) {i : Nat} (hi : i < n) : ∃ b off, a = some ⟨b, off, none⟩ ∧ w.cell? ⟨b, off + i * 3, none⟩ = some (.string (el l i).1) ∧ w.cell? ⟨b, off + i * 3 + 1, none⟩ = some (.int .i64 (el l i).2.1) ∧ w.cell? ⟨b, off + i * 3 + 2, none⟩ = some (.bool (el l i).2.2) := by
  obtain ⟨b, off, e, hc⟩ := h.two hi
  exact ⟨b, off, e, hc 0 (by decide), hc 1 (by decide), hc 2 (by decide)⟩
theorem ElAt.num {l : List Int} (h : ElAt (numK .i64) w a n c l) {i : Nat} (hi : i < n) : ∃ b off, a = some ⟨b, off, none⟩ ∧ w.cell? ⟨b, off + i, none⟩ = some (.int .i64 (el l i)) := by
  obtain ⟨b, off, e, hc⟩ := h.two hi
  exact ⟨b, off, e, by simpa [numK] using hc 0 (by decide)⟩
theorem ElAt.boo {l : List Bool} (h : ElAt boolK w a n c l) {i : Nat} (hi : i < n) : ∃ b off, a = some ⟨b, off, none⟩ ∧ w.cell? ⟨b, off + i, none⟩ = some (.bool (el l i)) := by
  obtain ⟨b, off, e, hc⟩ := h.two hi
  exact ⟨b, off, e, by simpa [boolK] using hc 0 (by decide)⟩
end

/-! ### how many words -/
def usedR : Rgs → Int
  | [] => 0
  | r :: l => r.2.2.1 + usedR l
theorem used_app (l m : Rgs) : usedR (l ++ m) = usedR l + usedR m := by
  induction l with
  | nil => simp [usedR]
  | cons r l ih => simp only [List.cons_append, usedR, ih]; omega
theorem used_snoc (l : Rgs) (r : Rg) : usedR (l ++ [r]) = usedR l + r.2.2.1 := by rw [used_app]; simp [usedR]
theorem used_succ {l : Rgs} {i : Nat} (h : i < l.length) : usedR (l.take (i + 1)) = usedR (l.take i) + (el l i).2.2.1 := by rw [take_el h, used_snoc]
/-- The regions lie side by side. -/
structure Sides (size : Int) (rs : Rgs) : Prop where
  beg : ∀ i, i < rs.length → (el rs i).2.1 = usedR (rs.take i)
  pos : ∀ i, i < rs.length → 1 ≤ (el rs i).2.2.1
  fits : usedR rs ≤ size
  big : size ≤ 2048
theorem Sides.nil {size : Int} (h0 : 0 ≤ size) (h : size ≤ 2048) : Sides size [] := ⟨fun _ h => absurd h (Nat.not_lt_zero _), fun _ h => absurd h (Nat.not_lt_zero _), h0, h⟩
section
variable {size : Int} {rs : Rgs}
theorem Sides.up (h : Sides size rs) : ∀ {i : Nat} (j : Nat), i ≤ j → j ≤ rs.length → usedR (rs.take i) + (j - i : Nat) ≤ usedR (rs.take j)
  | 0 + 0, 0, _, _ => by simp
  | i, 0, h1, _ => by obtain rfl : i = 0 := by omega
                      simp
  | i, j + 1, h1, h2 => by
    by_cases e : i = j + 1
    · subst e; simp
    · have := h.up (i := i) j (by omega) (by omega)
      have := h.pos j (by omega)
      rw [used_succ (by omega)]
      omega
theorem Sides.up' (h : Sides size rs) {i j : Nat} (h1 : i ≤ j) (h2 : j ≤ rs.length) : usedR (rs.take i) ≤ usedR (rs.take j) := by
  have := h.up j h1 h2
  omega
theorem Sides.upto (h : Sides size rs) {i : Nat} (h2 : i ≤ rs.length) : 0 ≤ usedR (rs.take i) ∧ usedR (rs.take i) ≤ usedR rs ∧ usedR rs ≤ 2048 := by
  have h1 := h.up' (Nat.zero_le i) h2
  have h3 := h.up' h2 (Nat.le_refl _)
  rw [List.take_length] at h3
  have h4 : usedR (rs.take 0) = 0 := rfl
  have := h.fits
  have := h.big
  omega
theorem Sides.len (h : Sides size rs) : (rs.length : Int) ≤ usedR rs := by
  have := h.up rs.length (Nat.zero_le _) (Nat.le_refl _)
  rw [List.take_length] at this
  have h4 : usedR (rs.take 0) = 0 := rfl
  omega
theorem Sides.one (h : Sides size rs) {i : Nat} (hi : i < rs.length) : 0 ≤ (el rs i).2.1 ∧ 1 ≤ (el rs i).2.2.1 ∧ (el rs i).2.1 + (el rs i).2.2.1 ≤ usedR rs ∧ usedR rs ≤ 2048 := by
  have h1 := h.beg i hi
  have h2 := h.upto (i := i) (by omega)
  have h3 := h.upto (i := i + 1) (by omega)
  rw [used_succ hi] at h3
  have := h.pos i hi
  omega
theorem Sides.last (h : Sides size rs) {i : Nat} (hi : i + 1 = rs.length) : (el rs i).2.1 + (el rs i).2.2.1 = usedR rs := by
  have h1 := h.beg i (by omega)
  have h3 := used_succ (l := rs) (i := i) (by omega)
  rw [hi, List.take_length] at h3
  omega
theorem Sides.snoc (h : Sides size rs) {s : ByteArray} {n : Int} {k : Bool} (h1 : 1 ≤ n) (h2 : n ≤ size - usedR rs) : Sides size (rs ++ [(s, usedR rs, n, k)]) := by
  refine ⟨fun i hi => ?_, fun i hi => ?_, by rw [used_snoc]; simp only; omega, h.big⟩
  · rw [List.length_append, List.length_singleton] at hi
    rcases Nat.lt_succ_iff_lt_or_eq.1 hi with q | q
    · rw [el_left q, List.take_append_of_le_length (by omega)]; exact h.beg i q
    · subst q; rw [el_last, List.take_append_of_le_length (Nat.le_refl _), List.take_length]
  · rw [List.length_append, List.length_singleton] at hi
    rcases Nat.lt_succ_iff_lt_or_eq.1 hi with q | q
    · rw [el_left q]; exact h.pos i q
    · subst q; rw [el_last]; exact h1
end

/-! ### the region of a name -/
def fOp (rs : Rgs) (n : ByteArray) : Option Rg := rs.find? fun r => decide (r.1 = n)
def fB (rs : Rgs) (n : ByteArray) : Bool := (fOp rs n).isSome
def fV (rs : Rgs) (n : ByteArray) : Rg := (fOp rs n).getD rg0
theorem f_none {rs : Rgs} {n : ByteArray} (h : ∀ i, i < rs.length → (el rs i).1 ≠ n) : fB rs n = false ∧ fV rs n = rg0 := by
  have e : fOp rs n = none := List.find?_eq_none.2 fun d hd => by
    obtain ⟨j, hj, rfl⟩ := List.mem_iff_getElem.1 hd
    rw [el_eq hj]
    simpa using h j hj
  unfold fB fV
  rw [e]; exact ⟨rfl, rfl⟩
theorem f_hit {rs : Rgs} {n : ByteArray} {k : Nat} (hk : k < rs.length) (h : ∀ j, j < k → (el rs j).1 ≠ n) (e : (el rs k).1 = n) : fB rs n = true ∧ fV rs n = el rs k := by
  have q : fOp rs n = some (el rs k) := by
    unfold fOp
    rw [List.find?_eq_some_iff_append]
    refine ⟨by simpa using e, rs.take k, rs.drop (k + 1), ?_, fun d hd => ?_⟩
    · rw [← el_eq hk, List.getElem_cons_drop, List.take_append_drop]
    · obtain ⟨j, hj, rfl⟩ := List.mem_iff_getElem.1 hd
      rw [List.length_take] at hj
      rw [List.getElem_take, el_eq (by omega)]
      simpa using h j (by omega)
  unfold fB fV
  rw [q]; exact ⟨rfl, rfl⟩

/-! ### the region of an address -/
def hasP (x : Int) (r : Rg) : Bool := decide (r.2.1 ≤ x) && decide (x < r.2.1 + r.2.2.1)
def aOp (rs : Rgs) (x : Int) : Option Rg := rs.find? (hasP x)
def aB (rs : Rgs) (x : Int) : Bool := (aOp rs x).isSome
def aV (rs : Rgs) (x : Int) : Rg := (aOp rs x).getD rg0
def aO (rs : Rgs) (x : Int) : Int := if aB rs x then x - (aV rs x).2.1 else 0
theorem a_none {rs : Rgs} {x : Int} (h : ∀ i, i < rs.length → hasP x (el rs i) = false) : aB rs x = false ∧ aV rs x = rg0 ∧ aO rs x = 0 := by
  have e : aOp rs x = none := List.find?_eq_none.2 fun d hd => by
    obtain ⟨j, hj, rfl⟩ := List.mem_iff_getElem.1 hd
    rw [el_eq hj, h j hj]
    exact Bool.false_ne_true
  unfold aO aB aV
  rw [e]; exact ⟨rfl, rfl, rfl⟩
theorem a_hit {rs : Rgs} {x : Int} {k : Nat} (hk : k < rs.length) (h : ∀ j, j < k → hasP x (el rs j) = false) (e : hasP x (el rs k) = true) : aB rs x = true ∧ aV rs x = el rs k ∧ aO rs x = x - (el rs k).2.1 := by
  have q : aOp rs x = some (el rs k) := by
    unfold aOp
    rw [List.find?_eq_some_iff_append]
    refine ⟨e, rs.take k, rs.drop (k + 1), ?_, fun d hd => ?_⟩
    · rw [← el_eq hk, List.getElem_cons_drop, List.take_append_drop]
    · obtain ⟨j, hj, rfl⟩ := List.mem_iff_getElem.1 hd
      rw [List.length_take] at hj
      rw [List.getElem_take, el_eq (by omega), h j (by omega)]
      rfl
  unfold aO aB aV
  rw [q]; exact ⟨rfl, rfl, rfl⟩
theorem has_no1 {x : Int} {r : Rg} (h : r.2.1 + r.2.2.1 ≤ x) : hasP x r = false := by
  unfold hasP; rw [decide_eq_false (p := x < _) (by omega)]; simp
theorem has_no2 {x : Int} {r : Rg} (h : x < r.2.1) : hasP x r = false := by
  unfold hasP; rw [decide_eq_false (p := r.2.1 ≤ x) (by omega)]; rfl
theorem has_yes {x : Int} {r : Rg} (h : r.2.1 ≤ x) (h2 : x < r.2.1 + r.2.2.1) : hasP x r = true := by
  unfold hasP; rw [decide_eq_true h, decide_eq_true h2]; rfl

/-! ### a region more -/
def allE (size : Int) (rs : Rgs) (s : ByteArray) (n : Int) : Int := if nameB s then (if fB rs s then 9 else if n < 1 then 2 else if size - usedR rs < n then 11 else 0) else 8
def allV (size : Int) (rs : Rgs) (s : ByteArray) (n : Int) : Int := if allE size rs s n = 0 then usedR rs else 0
def allS (size : Int) (rs : Rgs) (s : ByteArray) (n : Int) (k : Bool) : Rgs := if allE size rs s n = 0 then rs ++ [(s, usedR rs, n, k)] else rs
section
variable {size : Int} {rs : Rgs} {s : ByteArray} {n : Int} {k : Bool}
theorem all_of {z : Int} (h : allE size rs s n = z) (hz : z ≠ 0) : allE size rs s n = z ∧ allV size rs s n = 0 ∧ allS size rs s n k = rs := by
  unfold allV allS; rw [h, if_neg hz, if_neg hz]; exact ⟨rfl, rfl, rfl⟩
theorem all_name (h : nameB s = false) : allE size rs s n = 8 ∧ allV size rs s n = 0 ∧ allS size rs s n k = rs := all_of (by unfold allE; rw [h]; rfl) (by decide)
theorem all_twice (h : nameB s = true) (h2 : fB rs s = true) : allE size rs s n = 9 ∧ allV size rs s n = 0 ∧ allS size rs s n k = rs := all_of (by unfold allE; rw [h, h2]; rfl) (by decide)
theorem all_arg (h : nameB s = true) (h2 : fB rs s = false) (h3 : n < 1) : allE size rs s n = 2 ∧ allV size rs s n = 0 ∧ allS size rs s n k = rs := all_of (by unfold allE; rw [h, h2, if_pos rfl, if_neg Bool.false_ne_true, if_pos h3]) (by decide)
theorem all_full (h : nameB s = true) (h2 : fB rs s = false) (h3 : 1 ≤ n) (h4 : size - usedR rs < n) : allE size rs s n = 11 ∧ allV size rs s n = 0 ∧ allS size rs s n k = rs := all_of (by unfold allE; rw [h, h2, if_pos rfl, if_neg Bool.false_ne_true, if_neg (show ¬ n < 1 by omega), if_pos h4]) (by decide)
theorem all_yes (h : nameB s = true) (h2 : fB rs s = false) (h3 : 1 ≤ n) (h4 : n ≤ size - usedR rs) : allE size rs s n = 0 ∧ allV size rs s n = usedR rs ∧ allS size rs s n k = rs ++ [(s, usedR rs, n, k)] := by
  have e : allE size rs s n = 0 := by unfold allE; rw [h, h2, if_pos rfl, if_neg Bool.false_ne_true, if_neg (show ¬ n < 1 by omega), if_neg (show ¬ size - usedR rs < n by omega)]
  unfold allV allS; rw [e, if_pos rfl, if_pos rfl]; exact ⟨rfl, rfl, rfl⟩
/-- All ways that a region's asking can go. -/
theorem all_ways (size : Int) (rs : Rgs) (s : ByteArray) (n : Int) : nameB s = false ∨ nameB s = true ∧ (fB rs s = true ∨ fB rs s = false ∧ (n < 1 ∨ 1 ≤ n ∧ (size - usedR rs < n ∨ n ≤ size - usedR rs))) := by
  cases nameB s
  · exact .inl rfl
  · cases fB rs s
    · refine .inr ⟨rfl, .inr ⟨rfl, ?_⟩⟩; omega
    · exact .inr ⟨rfl, .inl rfl⟩
theorem allS_sides (h : Sides size rs) : Sides size (allS size rs s n k) := by
  rcases all_ways size rs s n with q | ⟨q, q2 | ⟨q2, q3 | ⟨q3, q4 | q4⟩⟩⟩
  · rw [(all_name q).2.2]; exact h
  · rw [(all_twice q q2).2.2]; exact h
  · rw [(all_arg q q2 q3).2.2]; exact h
  · rw [(all_full q q2 q3 q4).2.2]; exact h
  · rw [(all_yes q q2 q3 q4).2.2]; exact h.snoc q3 q4
theorem allS_len : (allS size rs s n k).length ≤ rs.length + 1 := by
  unfold allS; split <;> simp
end
/-- What is left behind all that are asked for. -/
def rsOf (size : Int) : List Wn → Rgs → Rgs
  | [], rs => rs
  | q :: l, rs => rsOf size l (allS size rs q.1 q.2.1 q.2.2)
theorem rsOf_snoc (size : Int) (l : List Wn) (q : Wn) : ∀ rs, rsOf size (l ++ [q]) rs = allS size (rsOf size l rs) q.1 q.2.1 q.2.2 := by
  induction l with
  | nil => intro rs; rfl
  | cons p l ih => intro rs; exact ih _
theorem rsOf_take (size : Int) {l : List Wn} {k : Nat} (h : k < l.length) : rsOf size (l.take (k + 1)) [] = allS size (rsOf size (l.take k) []) (el l k).1 (el l k).2.1 (el l k).2.2 := by
  rw [take_el h, rsOf_snoc]
theorem rsOf_len (size : Int) (l : List Wn) : ∀ rs, (rsOf size l rs).length ≤ rs.length + l.length := by
  induction l with
  | nil => intro rs; simp [rsOf]
  | cons p l ih =>
    intro rs
    have := ih (allS size rs p.1 p.2.1 p.2.2)
    have := allS_len (size := size) (rs := rs) (s := p.1) (n := p.2.1) (k := p.2.2)
    simp only [rsOf, List.length_cons]
    omega
theorem rsOf_len' (size : Int) {l : List Wn} {k : Nat} (h : k ≤ l.length) : (rsOf size (l.take k) []).length ≤ k := by
  have := rsOf_len size (l.take k) []
  rw [List.length_take] at this
  simp at this
  omega

/-! ### which words are secret -/
def secL : Rgs → List Bool
  | [] => []
  | r :: l => List.replicate r.2.2.1.toNat r.2.2.2 ++ secL l
theorem sec_app (l m : Rgs) : secL (l ++ m) = secL l ++ secL m := by
  induction l with
  | nil => rfl
  | cons r l ih => simp only [List.cons_append, secL, ih, List.append_assoc]
theorem sec_snoc (l : Rgs) (r : Rg) : secL (l ++ [r]) = secL l ++ List.replicate r.2.2.1.toNat r.2.2.2 := by rw [sec_app]; simp [secL]
theorem sec_succ {l : Rgs} {i : Nat} (h : i < l.length) : secL (l.take (i + 1)) = secL (l.take i) ++ List.replicate (el l i).2.2.1.toNat (el l i).2.2.2 := by rw [take_el h, sec_snoc]
theorem sec_len {size : Int} {rs : Rgs} (h : Sides size rs) : ∀ k, k ≤ rs.length → ((secL (rs.take k)).length : Int) = usedR (rs.take k)
  | 0, _ => rfl
  | k + 1, hk => by
    have := sec_len h k (by omega)
    have := h.pos k (by omega)
    rw [sec_succ (by omega), used_succ (by omega), List.length_append, List.length_replicate]
    omega
theorem sec_len' {size : Int} {rs : Rgs} (h : Sides size rs) : ((secL rs).length : Int) = usedR rs := by
  have := sec_len h rs.length (Nat.le_refl _)
  rwa [List.take_length] at this

/-! ### each address is in just one -/
/-- Whom an address that is used belongs to. -/
theorem Sides.whose {size : Int} {rs : Rgs} (h : Sides size rs) {x : Int} (h0 : 0 ≤ x) : ∀ k, k ≤ rs.length → x < usedR (rs.take k) → ∃ i, i < k ∧ hasP x (el rs i) = true
  | 0, _, h2 => by have : usedR (rs.take 0) = 0 := rfl; omega
  | k + 1, hk, h2 => by
    by_cases q : x < usedR (rs.take k)
    · obtain ⟨i, hi, e⟩ := h.whose h0 k (by omega) q
      exact ⟨i, by omega, e⟩
    · rw [used_succ (by omega)] at h2
      have := h.beg k (by omega)
      exact ⟨k, by omega, has_yes (by omega) (by omega)⟩
theorem Sides.alone {size : Int} {rs : Rgs} (h : Sides size rs) {x : Int} {i j : Nat} (hi : i < rs.length) (hj : j < rs.length) (hij : i < j) (e : hasP x (el rs i) = true) : hasP x (el rs j) = false := by
  unfold hasP at e
  simp only [Bool.and_eq_true, decide_eq_true_eq] at e
  have h1 := h.beg i hi
  have h2 := h.beg j hj
  have h3 := h.up' (i := i + 1) (j := j) hij (by omega)
  rw [used_succ hi] at h3
  exact has_no2 (by omega)
theorem Sides.alone' {size : Int} {rs : Rgs} (h : Sides size rs) {x : Int} {i j : Nat} (hi : i < rs.length) (hj : j < rs.length) (hij : i ≠ j) (e : hasP x (el rs i) = true) : hasP x (el rs j) = false := by
  rcases Nat.lt_or_gt_of_ne hij with q | q
  · exact h.alone hi hj q e
  · cases z : hasP x (el rs j)
    · rfl
    · have := h.alone hj hi q z
      rw [e] at this; cases this
/-- Of an address that is used. -/
theorem Sides.used {size : Int} {rs : Rgs} (h : Sides size rs) {x : Int} (h0 : 0 ≤ x) (h1 : x < usedR rs) : aB rs x = true ∧ (aV rs x).2.1 + aO rs x = x ∧ ∃ i, i < rs.length ∧ hasP x (el rs i) = true ∧ aV rs x = el rs i := by
  obtain ⟨i, hi, e⟩ := h.whose h0 rs.length (Nat.le_refl _) (by rw [List.take_length]; exact h1)
  obtain ⟨p1, p2, p3⟩ := a_hit hi (fun j hj => h.alone' hi (by omega) (by omega) e) e
  exact ⟨p1, by rw [p2, p3]; omega, i, hi, e, p2⟩
theorem Sides.free {size : Int} {rs : Rgs} (h : Sides size rs) {x : Int} (h0 : x < 0 ∨ usedR rs ≤ x) : aB rs x = false ∧ ∀ i, i < rs.length → hasP x (el rs i) = false := by
  have q : ∀ i, i < rs.length → hasP x (el rs i) = false := fun i hi => by
    have := h.one hi
    rcases h0 with h0 | h0
    · exact has_no2 (by omega)
    · exact has_no1 (by omega)
  exact ⟨(a_none q).1, q⟩
/-- How many regions have an address. -/
def cntA (x : Int) : Rgs → Int
  | [] => 0
  | r :: l => (if hasP x r then 1 else 0) + cntA x l
theorem cnt_app (x : Int) (l m : Rgs) : cntA x (l ++ m) = cntA x l + cntA x m := by
  induction l with
  | nil => simp [cntA]
  | cons r l ih => simp only [List.cons_append, cntA, ih]; omega
theorem cnt_succ (x : Int) {l : Rgs} {i : Nat} (h : i < l.length) : cntA x (l.take (i + 1)) = cntA x (l.take i) + (if hasP x (el l i) then 1 else 0) := by
  rw [take_el h, cnt_app]; simp [cntA]
theorem cnt_bd (x : Int) : ∀ l : Rgs, 0 ≤ cntA x l ∧ cntA x l ≤ l.length
  | [] => ⟨Int.le_refl _, Int.le_refl _⟩
  | r :: l => by
    have := cnt_bd x l
    simp only [cntA, List.length_cons]
    split <;> omega
theorem Sides.cnt {size : Int} {rs : Rgs} (h : Sides size rs) (x : Int) (k : Nat) (hk : k ≤ rs.length) : cntA x (rs.take k) = if (∃ i, i < k ∧ hasP x (el rs i) = true) then 1 else 0 := by
  induction k with
  | zero => rw [if_neg (by rintro ⟨i, hi, _⟩; omega)]; rfl
  | succ k ih =>
    rw [cnt_succ x (by omega), ih (by omega)]
    by_cases e : hasP x (el rs k) = true
    · rw [if_neg, if_pos e, if_pos ⟨k, by omega, e⟩]
      · rfl
      · rintro ⟨i, hi, q⟩
        have := h.alone' (i := i) (j := k) (by omega) (by omega) (by omega) q
        rw [e] at this; cases this
    · rw [if_neg (show ¬ (hasP x (el rs k) = true) from e)]
      by_cases q : ∃ i, i < k ∧ hasP x (el rs i) = true
      · obtain ⟨i, hi, z⟩ := q
        rw [if_pos ⟨i, hi, z⟩, if_pos ⟨i, by omega, z⟩]; rfl
      · rw [if_neg q, if_neg]
        · rfl
        · rintro ⟨i, hi, z⟩
          by_cases e' : i = k
          · subst e'; exact e z
          · exact q ⟨i, by omega, z⟩
theorem Sides.cnt_used {size : Int} {rs : Rgs} (h : Sides size rs) {x : Int} (h0 : 0 ≤ x) (h1 : x < usedR rs) : cntA x rs = 1 := by
  have := h.cnt x rs.length (Nat.le_refl _)
  rw [List.take_length, if_pos (h.whose h0 rs.length (Nat.le_refl _) (by rw [List.take_length]; exact h1))] at this
  exact this
theorem Sides.cnt_free {size : Int} {rs : Rgs} (h : Sides size rs) {x : Int} (h0 : x < 0 ∨ usedR rs ≤ x) : cntA x rs = 0 := by
  have := h.cnt x rs.length (Nat.le_refl _)
  rw [List.take_length, if_neg (by rintro ⟨i, hi, q⟩; rw [(h.free h0).2 i hi] at q; cases q)] at this
  exact this
/-- Its region says whether a word is secret. -/
theorem sec_at {size : Int} {rs : Rgs} (h : Sides size rs) {x : Int} {i : Nat} (hi : i < rs.length) (e : hasP x (el rs i) = true) : el (secL rs) x.toNat = (el rs i).2.2.2 := by
  unfold hasP at e
  simp only [Bool.and_eq_true, decide_eq_true_eq] at e
  have h1 := h.beg i hi
  have h2 := sec_len h i (by omega)
  have h3 := sec_len h (i + 1) (by omega)
  rw [used_succ hi] at h3
  have h4 := (h.one hi).1
  have hs : secL rs = secL (rs.take (i + 1)) ++ secL (rs.drop (i + 1)) := by rw [← sec_app, List.take_append_drop]
  rw [hs, el_left (by omega), sec_succ hi]
  generalize el rs i = r at *
  unfold el
  rw [List.getD_eq_getElem?_getD, List.getElem?_append_right (by omega), List.getElem?_replicate, if_pos (by omega)]
  rfl
end Go.Proofs.YtekhgidbnpfmnaaGreatDoor
