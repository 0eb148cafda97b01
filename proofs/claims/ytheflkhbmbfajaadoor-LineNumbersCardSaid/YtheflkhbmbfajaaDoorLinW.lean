/- Words of a line in plain terms: what stands between blanks; how the library's pass over runes finds them. Nothing of any program. -/
import Derived.Lib.FieldsP
import Derived.Lib.Walk
import Derived.Lib.Join
import Derived.Test.YtheflkhbmbfajaaDoorLinN
namespace Go.Proofs.YtheflkhbmbfajaaDoor
open Go.Lib

/-- The words of what is left, behind the part of a word that has been read. -/
def wdsC : List UInt8 → List UInt8 → List (List UInt8)
  | cur, [] => if cur = [] then [] else [cur]
  | cur, c :: r => if c = 32 then (if cur = [] then wdsC [] r else cur :: wdsC [] r) else wdsC (cur ++ [c]) r
def wds (l : List UInt8) : List (List UInt8) := wdsC [] l
/-- A text of bytes. -/
def txt (l : List UInt8) : ByteArray := ⟨l.toArray⟩
theorem txt_list (l : List UInt8) : (txt l).data.toList = l := by simp [txt]
theorem txt_of (s : ByteArray) : txt s.data.toList = s := by cases s; simp [txt]
theorem txt_inj {a b : List UInt8} (h : txt a = txt b) : a = b := by rw [← txt_list a, h, txt_list]
theorem txt_size (l : List UInt8) : (txt l).size = l.length := by simp [txt, ByteArray.size]
/-- The words of a text. -/
def wtx (s : ByteArray) : List ByteArray := (wds s.data.toList).map txt

theorem wdsC_run : ∀ (t cur r : List UInt8), (∀ x ∈ t, x ≠ 32) → wdsC cur (t ++ r) = wdsC (cur ++ t) r
  | [], cur, r, _ => by simp
  | c :: t, cur, r, h => by
    rw [List.cons_append, wdsC, if_neg (h c (.head _)), wdsC_run t _ r (fun x hx => h x (.tail _ hx)), List.append_assoc]
    rfl
theorem wdsC_blank (cur r : List UInt8) : wdsC cur (32 :: r) = (if cur = [] then [] else [cur]) ++ wdsC [] r := by
  rw [wdsC, if_pos rfl]
  split <;> rfl

/-- A decoded rune is a blank just where a blank stands; no blank stands within a longer one. -/
theorem dec_blank (n b0 b1 b2 b3 : Nat) : (decodeN n b0 b1 b2 b3).1 = 32 ↔ b0 = 32 := by
  unfold decodeN
  repeat' split
  all_goals (dsimp only; omega)
theorem dec_within (n b0 b1 b2 b3 : Nat) : (b0 = 32 → (decodeN n b0 b1 b2 b3).2 = 1) ∧ (1 < (decodeN n b0 b1 b2 b3).2 → b1 ≠ 32) ∧ (2 < (decodeN n b0 b1 b2 b3).2 → b2 ≠ 32) ∧ (3 < (decodeN n b0 b1 b2 b3).2 → b3 ≠ 32) ∧ (decodeN n b0 b1 b2 b3).2 ≤ 4 := by
  unfold decodeN
  repeat' split
  all_goals (dsimp only; refine ⟨fun _ => ?_, fun _ => ?_, fun _ => ?_, fun _ => ?_, ?_⟩ <;> omega)
theorem dec_at {s : ByteArray} {pos : Nat} (h : pos < s.size) : ((Utf8.decode s pos).1 = 32 ↔ s.data.toList[pos]? = some 32) ∧ pos + (Utf8.decode s pos).2 ≤ s.size ∧
    (s.data.toList[pos]? = some 32 → (Utf8.decode s pos).2 = 1) ∧ (s.data.toList[pos]? ≠ some 32 → ∀ x ∈ (s.data.toList.drop pos).take (Utf8.decode s pos).2, x ≠ 32) := by
  have hsz : s.size = s.data.toList.length := size_eq s
  rw [decode_N]
  have hlen : pos < s.data.toList.length := by omega
  have g0 : s.data.toList[pos]? = some s.data.toList[pos] := List.getElem?_eq_getElem hlen
  have d0 : s.data.toList.getD pos 0 = s.data.toList[pos] := by rw [List.getD_eq_getElem?_getD, g0]; rfl
  have e0 : s.data.toList[pos]? = some 32 ↔ (s.data.toList.getD pos 0).toNat = 32 := by
    rw [g0, d0, Option.some.injEq]
    exact ⟨fun e => by rw [e]; rfl, fun e => UInt8.toNat_inj.1 e⟩
  have q := dec_within (s.data.toList.length - pos) (s.data.toList.getD pos 0).toNat (s.data.toList.getD (pos + 1) 0).toNat (s.data.toList.getD (pos + 2) 0).toNat (s.data.toList.getD (pos + 3) 0).toNat
  have hw := decodeN_le_n' (s.data.toList.length - pos) (s.data.toList.getD pos 0).toNat (s.data.toList.getD (pos + 1) 0).toNat (s.data.toList.getD (pos + 2) 0).toNat (s.data.toList.getD (pos + 3) 0).toNat (by omega)
  refine ⟨(dec_blank _ _ _ _ _).trans e0.symm, by omega, fun h32 => q.1 (e0.1 h32), ?_⟩
  intro hn x hx
  generalize hk : (decodeN (s.data.toList.length - pos) (s.data.toList.getD pos 0).toNat (s.data.toList.getD (pos + 1) 0).toNat (s.data.toList.getD (pos + 2) 0).toNat (s.data.toList.getD (pos + 3) 0).toNat).2 = k at *
  obtain ⟨i, hi, rfl⟩ := List.getElem_of_mem hx
  rw [List.length_take] at hi
  have hik : i < k := by omega
  have hil : pos + i < s.data.toList.length := by rw [List.length_drop] at hi; omega
  rw [List.getElem_take, List.getElem_drop]
  have gi : s.data.toList.getD (pos + i) 0 = s.data.toList[pos + i] := by rw [List.getD_eq_getElem?_getD, List.getElem?_eq_getElem hil]; rfl
  rw [← gi]
  intro e
  have e' : (s.data.toList.getD (pos + i) 0).toNat = 32 := by rw [e]; rfl
  match i, hik, e' with
  | 0, _, e' => exact hn (e0.2 e')
  | 1, hik, e' => exact q.2.1 hik e'
  | 2, hik, e' => exact q.2.2.1 hik e'
  | 3, hik, e' => exact q.2.2.2.1 hik e'
  | i + 4, hik, _ => have := q.2.2.2.2; omega

def isBlank (x : Nat) : Bool := x == 32
/-- The pass over the runes: what the words give from pos on, behind those that are closed, is what the spans give. -/
theorem spans_wds (s : ByteArray) : ∀ (f pos : Nat) (st : Option Nat) (acc : List (Nat × Nat)), s.size ≤ pos + f → pos ≤ s.size → (∀ a, st = some a → a < pos) →
    acc.map (fun p => pieceU s.data.toList p.1 p.2) ++ wdsC (openPiece s.data.toList st pos) (s.data.toList.drop pos) = (closeSpans s (spansFromP isBlank s f pos st acc)).map (fun p => pieceU s.data.toList p.1 p.2)
  | 0, pos, st, acc, h, hp, hst => by
    obtain rfl : pos = s.size := by omega
    have hd : s.data.toList.drop s.size = [] := List.drop_eq_nil_of_le (by rw [← size_eq]; exact Nat.le_refl _)
    rw [hd, wdsC]
    cases st with
    | none => simp [spansFromP, closeSpans, openPiece]
    | some a =>
      have := pieceU_ne s.data.toList a s.size (hst a rfl) (by rw [← size_eq]; exact Nat.le_refl _)
      simp [spansFromP, closeSpans, openPiece, this]
  | f + 1, pos, st, acc, h, hp, hst => by
    by_cases hlt : pos < s.size
    · obtain ⟨q1, q2, q3, q4⟩ := dec_at hlt
      have hl : pos < s.data.toList.length := by rw [← size_eq]; exact hlt
      have hd : s.data.toList.drop pos = s.data.toList[pos] :: s.data.toList.drop (pos + 1) := List.drop_eq_getElem_cons hl
      have hw : 1 ≤ (Utf8.decode s pos).2 := width_pos s pos
      unfold spansFromP
      rw [if_pos hlt]
      by_cases hb : s.data.toList[pos]? = some 32
      · have hc : s.data.toList[pos] = 32 := by rw [List.getElem?_eq_getElem hl] at hb; exact Option.some.inj hb
        have e1 : isBlank (Utf8.decode s pos).1 = true := by unfold isBlank; rw [q1.2 hb]; rfl
        rw [e1, q3 hb, hd, hc, wdsC_blank]
        simp only [if_true]
        cases st with
        | none =>
          have ih := spans_wds s f (pos + 1) none acc (by omega) (by omega) (fun a h => by cases h)
          simp only [openPiece] at ih ⊢
          simpa using ih
        | some a =>
          have ha := hst a rfl
          have hne := pieceU_ne s.data.toList a pos ha (by omega)
          have ih := spans_wds s f (pos + 1) none (acc ++ [(a, pos)]) (by omega) (by omega) (fun a h => by cases h)
          rw [if_neg (show openPiece s.data.toList (some a) pos ≠ [] from hne)]
          simp only [openPiece, List.map_append, List.map_cons, List.map_nil, List.append_assoc] at ih ⊢
          exact ih
      · have e1 : isBlank (Utf8.decode s pos).1 = false := by
          unfold isBlank
          rw [beq_eq_false_iff_ne]
          exact fun e => hb (q1.1 e)
        have hrun := q4 hb
        have hsp : s.data.toList.drop pos = (s.data.toList.drop pos).take (Utf8.decode s pos).2 ++ s.data.toList.drop (pos + (Utf8.decode s pos).2) := by
          rw [← List.drop_drop]; exact (List.take_append_drop _ _).symm
        rw [e1, hsp, wdsC_run _ _ _ hrun]
        simp only [Bool.false_eq_true, if_false]
        cases st with
        | none =>
          have ih := spans_wds s f (pos + (Utf8.decode s pos).2) (some pos) acc (by omega) q2 (fun a h => by cases h; omega)
          have e2 : openPiece s.data.toList (some pos) (pos + (Utf8.decode s pos).2) = openPiece s.data.toList none pos ++ (s.data.toList.drop pos).take (Utf8.decode s pos).2 := by
            simp [openPiece, pieceU]
          rw [e2] at ih
          exact ih
        | some a =>
          have ha := hst a rfl
          have ih := spans_wds s f (pos + (Utf8.decode s pos).2) (some a) acc (by omega) q2 (fun a' h => by cases h; omega)
          have e2 : openPiece s.data.toList (some a) (pos + (Utf8.decode s pos).2) = openPiece s.data.toList (some a) pos ++ (s.data.toList.drop pos).take (Utf8.decode s pos).2 := by
            simp only [openPiece]
            exact (pieceU_grow _ a pos _ (by omega)).symm
          rw [e2] at ih
          exact ih
    · obtain rfl : pos = s.size := by omega
      rw [spansFromP_end _ _ _ _ _ _ hlt]
      have hd : s.data.toList.drop s.size = [] := List.drop_eq_nil_of_le (by rw [← size_eq]; exact Nat.le_refl _)
      rw [hd, wdsC]
      cases st with
      | none => simp [closeSpans, openPiece]
      | some a =>
        have := pieceU_ne s.data.toList a s.size (hst a rfl) (by rw [← size_eq]; exact Nat.le_refl _)
        simp [closeSpans, openPiece, this]
theorem fields_wds (s : ByteArray) : goFieldsP isBlank s = wtx s := by
  have h := spans_wds s s.size 0 none [] (by omega) (by omega) (fun a h => by cases h)
  unfold goFieldsP spansOfP wtx wds
  simp only [List.map_nil, List.nil_append, openPiece, List.drop_zero] at h
  rw [h, List.map_map]
  refine List.map_congr_left fun p _ => ?_
  have e := extract_toList s p.1 p.2
  rw [ByteArray.toList_eq] at e
  show _ = txt (pieceU s.data.toList p.1 p.2)
  rw [← txt_of (s.extract p.1 p.2), e]
  rfl

/-- Words are not empty and have no blank; there are no more of them than bytes. -/
theorem wdsC_ok : ∀ (r cur : List UInt8), (∀ x ∈ cur, x ≠ 32) → ∀ w ∈ wdsC cur r, w ≠ [] ∧ ∀ x ∈ w, x ≠ 32
  | [], cur, h, w, hw => by
    rw [wdsC] at hw
    split at hw
    · simp at hw
    · rename_i k
      simp only [List.mem_singleton] at hw
      subst hw
      exact ⟨k, h⟩
  | c :: r, cur, h, w, hw => by
    rw [wdsC] at hw
    split at hw
    · split at hw
      · exact wdsC_ok r [] (by simp) w hw
      · rename_i k
        rcases List.mem_cons.1 hw with rfl | hw
        · exact ⟨k, h⟩
        · exact wdsC_ok r [] (by simp) w hw
    · rename_i k
      refine wdsC_ok r (cur ++ [c]) (fun x hx => ?_) w hw
      rcases List.mem_append.1 hx with hx | hx
      · exact h x hx
      · simp only [List.mem_singleton] at hx
        subst hx; exact k
theorem wds_ok {l w : List UInt8} (h : w ∈ wds l) : w ≠ [] ∧ ∀ x ∈ w, x ≠ 32 := wdsC_ok l [] (by simp) w h
theorem wdsC_len : ∀ (r cur : List UInt8), (wdsC cur r).length ≤ r.length + (if cur = [] then 0 else 1) ∧ ∀ w ∈ wdsC cur r, w.length ≤ cur.length + r.length
  | [], cur => by
    rw [wdsC]
    split <;> simp
  | c :: r, cur => by
    rw [wdsC]
    have i0 := wdsC_len r []
    have i1 := wdsC_len r (cur ++ [c])
    split
    · split
      · simp at i0 ⊢
        exact ⟨by omega, fun w hw => by have := i0.2 w hw; omega⟩
      · simp at i0 ⊢
        exact ⟨by omega, fun w hw => by have := i0.2 w hw; omega⟩
    · simp at i1 ⊢
      exact ⟨by split <;> omega, fun w hw => by have := i1.2 w hw; omega⟩
theorem wds_len (l : List UInt8) : (wds l).length ≤ l.length := by have := (wdsC_len l []).1; simpa [wds] using this
theorem wds_each {l w : List UInt8} (h : w ∈ wds l) : w.length ≤ l.length := by have := (wdsC_len l []).2 w h; simpa [wds] using this
/-- Whoever is closed: what comes behind it has words of its own. -/
def Closed (t : List UInt8) : Prop := ∀ r, wds (t ++ r) = wds t ++ wds r
theorem closed_nil : Closed [] := fun r => by simp [wds, wdsC]
theorem wdsC_closed : ∀ (t cur : List UInt8) (r : List UInt8), wdsC cur (t ++ 32 :: r) = wdsC cur (t ++ [32]) ++ wdsC [] r
  | [], cur, r => by
    rw [List.nil_append, List.nil_append, wdsC_blank, wdsC_blank]
    simp [wdsC]
  | c :: t, cur, r => by
    rw [List.cons_append, List.cons_append, wdsC, wdsC]
    split
    · split
      · exact wdsC_closed t [] r
      · rw [wdsC_closed t [] r]; rfl
    · exact wdsC_closed t _ r
theorem closed_blank (t : List UInt8) : Closed (t ++ [32]) := fun r => by
  unfold wds
  rw [List.append_assoc]
  exact wdsC_closed t [] r
theorem wds_word {w : List UInt8} (h : ∀ x ∈ w, x ≠ 32) (hn : w ≠ []) : wds w = [w] := by
  unfold wds
  have := wdsC_run w [] [] h
  rw [List.append_nil] at this
  rw [this, List.nil_append, wdsC, if_neg hn]
theorem wds_word_blank {w r : List UInt8} (h : ∀ x ∈ w, x ≠ 32) (hn : w ≠ []) : wds (w ++ 32 :: r) = w :: wds r := by
  unfold wds
  rw [wdsC_run w [] _ h, List.nil_append, wdsC_blank, if_neg hn]
  rfl
theorem wds_blank (r : List UInt8) : wds (32 :: r) = wds r := by unfold wds; rw [wdsC_blank]; rfl
/-- Words joined by blanks are their words. -/
theorem wds_join : ∀ (ws : List (List UInt8)), (∀ w ∈ ws, w ≠ [] ∧ ∀ x ∈ w, x ≠ 32) → wds (join ws [32]) = ws
  | [], _ => rfl
  | [w], h => by
    rw [join_one]
    exact wds_word (h w (.head _)).2 (h w (.head _)).1
  | w :: y :: r, h => by
    have e : join (w :: y :: r) [32] = w ++ 32 :: join (y :: r) [32] := by
      rw [join_cons, join_cons]
      simp [joinTail]
    rw [e, wds_word_blank (h w (.head _)).2 (h w (.head _)).1, wds_join (y :: r) (fun x hx => h x (.tail _ hx))]
/-- The document's own pass, byte by byte. -/
theorem wds_step_in {l cur : List UInt8} {k : Nat} {acc : List (List UInt8)} {c : UInt8} (h : acc ++ wdsC cur (l.drop k) = wds l) (hc : l[k]? = some c) (hb : c ≠ 32) : acc ++ wdsC (cur ++ [c]) (l.drop (k + 1)) = wds l := by
  obtain ⟨hk, rfl⟩ := List.getElem?_eq_some_iff.1 hc
  rw [List.drop_eq_getElem_cons hk, wdsC, if_neg hb] at h
  exact h
theorem wds_step_end {l cur : List UInt8} {k : Nat} {acc : List (List UInt8)} (h : acc ++ wdsC cur (l.drop k) = wds l) (hc : l[k]? = some 32) : (acc ++ if cur = [] then [] else [cur]) ++ wdsC [] (l.drop (k + 1)) = wds l := by
  obtain ⟨hk, e⟩ := List.getElem?_eq_some_iff.1 hc
  rw [List.drop_eq_getElem_cons hk, e, wdsC_blank] at h
  rw [List.append_assoc]
  exact h
theorem wds_step_all {l cur : List UInt8} {k : Nat} {acc : List (List UInt8)} (h : acc ++ wdsC cur (l.drop k) = wds l) (hk : l.length ≤ k) : (acc ++ if cur = [] then [] else [cur]) = wds l := by
  rw [List.drop_eq_nil_of_le hk, wdsC] at h
  exact h
end Go.Proofs.YtheflkhbmbfajaaDoor
