/- The document's lines (astrolaberef14): Number, Words, Texts, Text. -/
import Derived.Test.YtekhgidbnpfmnaaGreatDoorLinN
import Derived.Test.YtekhgidbnpfmnaaGreatDoorMem
import Derived.WalkKit
import Derived.IntWalk
import Derived.Handy
import Derived.Test.YtekhgidbnpfmnaaGreatDoorProg
import Derived.Deep.QuietTactic
import Derived.BigQuiet
import Derived.Lib.Hide
import Derived.Laws.AppendOwn
import Derived.Test.YtekhgidbnpfmnaaGreatDoorLinT
import Derived.Test.YtekhgidbnpfmnaaGreatDoorCodR
import Derived.Test.YtekhgidbnpfmnaaGreatDoorOpsR
namespace Go.Proofs.YtekhgidbnpfmnaaGreatDoor
open Go.RowKit

section
theorem digit_one : ∀ k : Fin 10, (⟨#[48, 49, 50, 51, 52, 53, 54, 55, 56, 57]⟩ : ByteArray).extract k.val (k.val + 1) = txt [UInt8.ofNat (48 + k.val)] := by decide +kernel
set_option maxRecDepth 100000 in
set_option maxHeartbeats 1000000 in
theorem refDigits_pos : ∀ (k : Nat) (n : Int) (w : World), 0 ≤ n → n < 10 ^ (k + 1) → k < 10 →
    Calls Tryz.prog 31 #[.int .i64 n] w fun e w' => e = .returned (.string (txt (decL n))) ∧ w = w'
  | 0, n, w, h0, h1, _ => by
    have h1' : n < 10 := by simpa using h1
    clear h1
    have HE := Lib.hid (show (⟨#[48, 49, 50, 51, 52, 53, 54, 55, 56, 57]⟩ : ByteArray).extract n.toNat (n + 1).toNat = txt (decL n) by rw [decL_one h0 h1', show (n + 1).toNat = n.toNat + 1 by omega]; exact digit_one ⟨n.toNat, by omega⟩)
    have hsl : ∀ w, (Instr.slice 9 (.string ⟨#[48, 49, 50, 51, 52, 53, 54, 55, 56, 57]⟩) (some (.int .i64 n)) (some (.int .i64 (n + 1))) none).run Tryz.prog w = .ok (.string (txt (decL n))) w := fun w => by
      rw [run_slice_string (w := w) (h := Tryz.underlying9) (h0 := h0) (h1 := by omega) (h2 := by show n + 1 ≤ (10 : Int); omega), HE.out]
    go_enter Tryz.func31, Tryz.ntmps31
    go_wp2_with fail
    go_ret
    exact ⟨rfl, rfl⟩
  | k + 1, n, w, h0, h1, hk => by
    by_cases hn : n < 10
    · exact refDigits_pos 0 n w h0 (by simpa using hn) (by omega)
    · have hbd : n ≤ 9999999999 := by
        have : (10 : Int) ^ (k + 1 + 1) ≤ 10 ^ 10 := by exact_mod_cast Nat.pow_le_pow_right (by decide) (by omega)
        omega
      have h2 : n / 10 < 10 ^ (k + 1) := by rw [Int.pow_succ] at h1; omega
      have HM := Lib.hid (decL_more (n := n) (by omega) (by omega))
      have hsz : ¬ (9223372036854775807 < (txt (decL (n / 10))).size + (txt (decL (n % 10))).size) := by
        rw [txt_size, txt_size]
        have e1 := decL_length (n := n / 10) (by omega) (by omega)
        have e2 := decL_length (n := n % 10) (by omega) (by omega)
        omega
      have hcat : txt (decL (n / 10)) ++ txt (decL (n % 10)) = txt (decL n) := by
        apply str_ext
        rw [HM.out, txt_list, ByteArray.data_append]
        simp [txt]
      have H1 := Lib.hid (fun w => refDigits_pos k (n / 10) w (by omega) h2 (by omega))
      have H2 := Lib.hid (fun w => refDigits_pos 0 (n % 10) w (by omega) (by simp; omega) (by omega))
      clear h1 h2
      have hn' : 10 ≤ n := by omega
      go_enter Tryz.func31, Tryz.ntmps31
      go_wp2_with (first
        | (go_at_call 31; ((with_reducible refine (H1.out _).mono ?_); rintro e w1 ⟨rfl, rfl⟩))
        | (go_at_call 31; ((with_reducible refine (H2.out _).mono ?_); rintro e w1 ⟨rfl, rfl⟩)))
      go_ret
      exact ⟨rfl, rfl⟩
set_option maxRecDepth 100000 in
set_option maxHeartbeats 1000000 in
theorem refDigits_is (n : Int) (w : World) (h0 : -9999999999 < n) (h1 : n < 9999999999) :
    Calls Tryz.prog 31 #[.int .i64 n] w fun e w' => e = .returned (.string (txt (decL n))) ∧ w = w' := by
  by_cases hn : n < 0
  · have hsz : ¬ (9223372036854775807 < 1 + (txt (decL (-n))).size) := by
      rw [txt_size]
      have e1 := decL_length (n := -n) (by omega) (by omega)
      omega
    have hcat : ({ data := #[45] } : ByteArray) ++ txt (decL (-n)) = txt (decL n) := by
      apply str_ext
      rw [decL_neg hn, txt_list, ByteArray.data_append]
      simp [txt]
    have H1 := Lib.hid (fun w => refDigits_pos 9 (-n) w (by omega) (by omega) (by omega))
    go_enter Tryz.func31, Tryz.ntmps31
    go_wp2_with (go_at_call 31; ((with_reducible refine (H1.out _).mono ?_); rintro e w1 ⟨rfl, rfl⟩))
    go_ret
    exact ⟨rfl, rfl⟩
  · exact refDigits_pos 9 n w (by omega) (by omega) (by omega)
/-- A digit more. -/
theorem dec_step {s : ByteArray} {k u : Nat} (hk : k < s.size) (hf : frm s.data.toList ≤ k) (h : Lib.decFrom 0 ((s.data.toList.drop (frm s.data.toList)).take (k - frm s.data.toList)) = some u) (h0 : 48 ≤ s[k].toNat) (h1 : s[k].toNat ≤ 57) :
    Lib.decFrom 0 ((s.data.toList.drop (frm s.data.toList)).take (k + 1 - frm s.data.toList)) = some (u * 10 + (s[k].toNat - 48)) := by
  rw [show k + 1 - frm s.data.toList = k - frm s.data.toList + 1 by omega]
  refine Lib.decFrom_take _ _ 0 u s[k] _ h ?_ ?_
  · rw [List.getElem?_drop, show frm s.data.toList + (k - frm s.data.toList) = k by omega]
    have hl : k < s.data.toList.length := by rw [← Lib.size_eq]; exact hk
    rw [List.getElem?_eq_getElem hl]
    rfl
  · unfold Lib.digitVal
    rw [if_pos ⟨h0, h1⟩]
theorem dec_badL {s : ByteArray} {k : Nat} (hk : k < s.size) (hf : frm s.data.toList ≤ k) (h : s[k].toNat < 48 ∨ 57 < s[k].toNat) : numOk s.data.toList = false := by
  have hl : k < s.data.toList.length := by rw [← Lib.size_eq]; exact hk
  exact num_bad (b := s[k]) hf (by rw [List.getElem?_eq_getElem hl]; rfl) h
theorem dec_small {l : List UInt8} {u : Nat} (h : Lib.decFrom 0 l = some u) (hl : l.length ≤ 9) : u < 1000000000 := by
  have := decFrom_bd l 0 u 0 (by decide) h
  have q : 10 ^ (0 + l.length) ≤ 10 ^ 9 := Nat.pow_le_pow_right (by decide) (by omega)
  omega
theorem num_end' {s : ByteArray} {u : Nat} (h : Lib.decFrom 0 ((s.data.toList.drop (frm s.data.toList)).take (s.size - frm s.data.toList)) = some u) (hu : u < 1000000000) (z : Int) (hz : z = if frm s.data.toList = 1 then -(u : Int) else u) :
    ((txt (decL z)).toList == s.toList) = numOk s.data.toList ∧ (numOk s.data.toList = true → numV s.data.toList = z) := by
  subst hz
  have e : (s.data.toList.drop (frm s.data.toList)).take (s.size - frm s.data.toList) = s.data.toList.drop (frm s.data.toList) := by
    rw [List.take_of_length_le]
    rw [List.length_drop, Lib.size_eq]
    exact Nat.le_refl _
  rw [e] at h
  obtain ⟨p, q⟩ := num_end h (by omega)
  by_cases k : decL (if frm s.data.toList = 1 then -(u : Int) else u) = s.data.toList
  · obtain ⟨a, b⟩ := p k
    exact ⟨by rw [a]; exact str_same (by rw [k, txt_of]), fun _ => b⟩
  · have a := q k
    refine ⟨by rw [a]; exact str_apart (fun e => k ((txt_list _).symm.trans (congrArg (fun x : ByteArray => x.data.toList) e))), fun f => ?_⟩
    rw [a] at f
    cases f
/-- What the loop over digits holds. -/
def DigAt (s : ByteArray) (x i : Value) : Prop := ∃ k u : Nat, frm s.data.toList ≤ k ∧ k ≤ s.size ∧ i = .int .i64 k ∧ x = .int .i64 u ∧ Lib.decFrom 0 ((s.data.toList.drop (frm s.data.toList)).take (k - frm s.data.toList)) = some u ∧ u < 1000000000
set_option maxRecDepth 100000 in
set_option maxHeartbeats 2000000 in
theorem refNumber_is (s : ByteArray) (w : World) (hs : s.size ≤ 4294967296) :
    Calls Tryz.prog 84 #[.string s] w fun e w' => e = .returned (.tuple #[.int .i64 (numV s.data.toList), .bool (numOk s.data.toList)]) ∧ w = w' := by
  have hfl := frm_le s.data.toList
  have hlen : s.size = s.data.toList.length := Lib.size_eq s
  by_cases hpos : 0 < s.size
  · have hh : s.data.toList.head? = some s[0] := by
      have hl : 0 < s.data.toList.length := by omega
      rw [List.head?_eq_getElem?, List.getElem?_eq_getElem hl]
      rfl
    by_cases h45 : s[0] = 45
    · have hfr : frm s.data.toList = 1 := by unfold frm; rw [hh, h45]; rfl
      have ht : ((s[0].toNat : Int) == 45) = true := by rw [h45]; rfl
      clear hh h45 hfl
      by_cases hr : s.size < 1 + 1 ∨ 1 + 9 < s.size
      · have hn := num_long (l := s.data.toList) (by omega)
        rw [num_no hn, hn]
        have HN := Lib.hid hn
        clear hn hlen hfr
        rcases hr with hr | hr
        all_goals
          go_enter Tryz.func84, Tryz.ntmps84
          go_wp2_with fail
          all_goals go_ret2
          all_goals exact ⟨rfl, rfl⟩
      · have hr1 : 1 + 1 ≤ s.size := by omega
        have hr2 : s.size ≤ 1 + 9 := by omega
        have HF := Lib.hid hfr
        clear hr hlen hfr
        go_enter Tryz.func84, Tryz.ntmps84
        go_wp2_with fail
        go_loop [4, 6] (fun x i => DigAt s x i) (fun _ i => s.size - (intOf i).toNat)
        case atStart => exact ⟨1, 0, by rw [HF.out]; omega, by omega, rfl, rfl, by rw [HF.out]; rfl, by omega⟩
        case round =>
          obtain ⟨k, u, hk1, hk2, rfl, rfl, hd, hu⟩ := hrel
          have HD := Lib.hid hd
          have HK1 := Lib.hid hk1
          clear hd hk1
          by_cases hlt : k < s.size
          · by_cases hc : 48 ≤ s[k].toNat ∧ s[k].toNat ≤ 57
            · obtain ⟨hc1, hc2⟩ := hc
              have hd2 := dec_step hlt HK1.out HD.out hc1 hc2
              have hu2 := dec_small hd2 (by have e := HF.out; rw [List.length_take, e]; omega)
              have HD2 := Lib.hid hd2
              have HU2 := Lib.hid hu2
              clear hd2 hu2
              have hc1' : (48 : Int) ≤ (s[k].toNat : Int) := by omega
              have hc2' : (s[k].toNat : Int) ≤ 57 := by omega
              go_wp2_with fail
              go_round
              case rel => exact ⟨k + 1, u * 10 + (s[k].toNat - 48), by have := HK1.out; omega, by omega, by go_num, (by congr 1; omega), HD2.out, HU2.out⟩
              case measure => simp [intOf]; omega
            · have hn := dec_badL hlt HK1.out (by omega)
              have HN := Lib.hid hn
              clear hn
              have hc' : (s[k].toNat : Int) < 48 ∨ 48 ≤ (s[k].toNat : Int) ∧ 57 < (s[k].toNat : Int) := by omega
              clear hc
              rcases hc' with hc | ⟨hc, hc2⟩
              all_goals
                go_wp2_with fail
                go_ret2
                exact ⟨by (rw [num_no HN.out, HN.out]; first | done | rfl), rfl⟩
          · obtain rfl : k = s.size := by omega
            obtain ⟨q1, q2⟩ := num_end' HD.out hu (-(u : Int)) (by rw [HF.out]; rfl)
            have Q1 := Lib.hid q1
            have Q2 := Lib.hid q2
            cases ok : numOk s.data.toList
            all_goals
              rw [ok] at q1
              have OK := Lib.hid ok
              clear q2 ok
              go_wp2_with (go_at_call 31; ((with_reducible refine (refDigits_is (-(u : Int)) _ (by omega) (by omega)).mono ?_); rintro e w1 ⟨rfl, rfl⟩))
              go_ret2
            · exact ⟨by (rw [num_no OK.out, OK.out]; first | done | rfl), rfl⟩
            · exact ⟨by (rw [Q2.out OK.out, OK.out]; first | done | rfl), rfl⟩
    · have hfr : frm s.data.toList = 0 := by unfold frm; rw [hh, if_neg (fun e => h45 (Option.some.inj e))]
      have ht : ((s[0].toNat : Int) == 45) = false := by
        rw [beq_eq_false_iff_ne]
        intro e
        exact h45 (UInt8.toNat_inj.1 (by show s[0].toNat = 45; omega))
      clear hh h45 hfl
      by_cases hr : s.size < 0 + 1 ∨ 0 + 9 < s.size
      · have hn := num_long (l := s.data.toList) (by omega)
        rw [num_no hn, hn]
        have HN := Lib.hid hn
        clear hn hlen hfr
        rcases hr with hr | hr
        all_goals
          go_enter Tryz.func84, Tryz.ntmps84
          go_wp2_with fail
          all_goals go_ret2
          all_goals exact ⟨rfl, rfl⟩
      · have hr1 : 0 + 1 ≤ s.size := by omega
        have hr2 : s.size ≤ 0 + 9 := by omega
        have HF := Lib.hid hfr
        clear hr hlen hfr
        go_enter Tryz.func84, Tryz.ntmps84
        go_wp2_with fail
        go_loop [4, 6] (fun x i => DigAt s x i) (fun _ i => s.size - (intOf i).toNat)
        case atStart => exact ⟨0, 0, by rw [HF.out]; omega, by omega, rfl, rfl, by rw [HF.out]; rfl, by omega⟩
        case round =>
          obtain ⟨k, u, hk1, hk2, rfl, rfl, hd, hu⟩ := hrel
          have HD := Lib.hid hd
          have HK1 := Lib.hid hk1
          clear hd hk1
          by_cases hlt : k < s.size
          · by_cases hc : 48 ≤ s[k].toNat ∧ s[k].toNat ≤ 57
            · obtain ⟨hc1, hc2⟩ := hc
              have hd2 := dec_step hlt HK1.out HD.out hc1 hc2
              have hu2 := dec_small hd2 (by have e := HF.out; rw [List.length_take, e]; omega)
              have HD2 := Lib.hid hd2
              have HU2 := Lib.hid hu2
              clear hd2 hu2
              have hc1' : (48 : Int) ≤ (s[k].toNat : Int) := by omega
              have hc2' : (s[k].toNat : Int) ≤ 57 := by omega
              go_wp2_with fail
              go_round
              case rel => exact ⟨k + 1, u * 10 + (s[k].toNat - 48), by have := HK1.out; omega, by omega, by go_num, (by congr 1; omega), HD2.out, HU2.out⟩
              case measure => simp [intOf]; omega
            · have hn := dec_badL hlt HK1.out (by omega)
              have HN := Lib.hid hn
              clear hn
              have hc' : (s[k].toNat : Int) < 48 ∨ 48 ≤ (s[k].toNat : Int) ∧ 57 < (s[k].toNat : Int) := by omega
              clear hc
              rcases hc' with hc | ⟨hc, hc2⟩
              all_goals
                go_wp2_with fail
                go_ret2
                exact ⟨by (rw [num_no HN.out, HN.out]; first | done | rfl), rfl⟩
          · obtain rfl : k = s.size := by omega
            obtain ⟨q1, q2⟩ := num_end' HD.out hu ((u : Int)) (by rw [HF.out]; rfl)
            have Q1 := Lib.hid q1
            have Q2 := Lib.hid q2
            cases ok : numOk s.data.toList
            all_goals
              rw [ok] at q1
              have OK := Lib.hid ok
              clear q2 ok
              go_wp2_with (go_at_call 31; ((with_reducible refine (refDigits_is ((u : Int)) _ (by omega) (by omega)).mono ?_); rintro e w1 ⟨rfl, rfl⟩))
              go_ret2
            · exact ⟨by (rw [num_no OK.out, OK.out]; first | done | rfl), rfl⟩
            · exact ⟨by (rw [Q2.out OK.out, OK.out]; first | done | rfl), rfl⟩
  · have hn := num_long (l := s.data.toList) (by omega)
    rw [num_no hn, hn]
    have hz : s.size = 0 := by omega
    have HN := Lib.hid hn
    clear hn hlen hfl hpos hs
    go_enter Tryz.func84, Tryz.ntmps84
    go_wp2_with fail
    go_ret2
    exact ⟨rfl, rfl⟩
end

section
/-- Texts that stand at the slice p, n, c. -/
structure StrsAt (w : World) (p : Option Addr) (n c : Nat) (l : List ByteArray) : Prop where
  len : l.length = n
  cap : n ≤ c
  big : c ≤ maxLen
  lie : 0 < n → ∃ g, p = some ⟨g, 0, none⟩ ∧ ∀ (i : Nat) x, l[i]? = some x → w.cell? ⟨g, i, none⟩ = some (.string x)
theorem StrsAt.keep {w w' : World} {p : Option Addr} {n c : Nat} {l : List ByteArray} (h : StrsAt w p n c l) (hb : Below w.heap.size w w') : StrsAt w' p n c l := by
  refine ⟨h.len, h.cap, h.big, fun hn => ?_⟩
  obtain ⟨g, hp, hc⟩ := h.lie hn
  exact ⟨g, hp, fun i x hx => (hb.cell (p := ⟨g, i, none⟩) (cell_lt (hc i x hx))).trans (hc i x hx)⟩
theorem StrsAt.of_own {w : World} {base n : Nat} {e : TypeId} {v : Value} {l : List ByteArray} (h : w.ownsRow base e 1 v n (l.map Value.string)) : ∃ p c, v = .slice p n c ∧ StrsAt w p n c l := by
  have hl : l.length = n := by have := h.1; simpa using this
  have hh := h
  rcases h.2 with ⟨rfl, rfl⟩ | ⟨g, cap, cur, rfl, hb, hg, hn, hc, rest⟩
  · exact ⟨none, 0, rfl, hl, Nat.le_refl _, by unfold maxLen; omega, fun h => absurd h (Nat.lt_irrefl _)⟩
  · refine ⟨_, cap, rfl, hl, hn, hc, fun _ => ⟨g, rfl, fun i x hx => ?_⟩⟩
    subst hl
    exact own_text hh hx
/-- What a call answers: texts of its own, none too. -/
def RetTexts (w : World) (l : List ByteArray) (e : Ending) (w' : World) : Prop := ∃ v, e = .returned v ∧ w'.ownsRow w.heap.size 9 1 v l.length (l.map Value.string) ∧ Below w.heap.size w w'

theorem one_new (w : World) (u : ByteArray) (t : TypeId) : ∀ (j : Nat) u', [Value.string u][j]? = some u' → (w.alloc (.cells #[.string u] t)).cell? ((⟨w.heap.size, 0, none⟩ : Addr).add j) = some u' := by
  intro j u' hj
  match j, hj with
  | 0, hj => simp at hj; subst hj; simp [Addr.add]
theorem one_one (u : ByteArray) : ∀ u' ∈ [Value.string u], u'.oneCell' = true := by
  intro u' hu'
  simp at hu'
  subst hu'; rfl
theorem grown_texts {w wr w1 : World} {base n : Nat} {e : TypeId} {v : Value} {xs : List Value} {o : Obj} (ho : wr.ownsRow base e 1 v n xs) (hb : Below base w wr) (hg : (wr.alloc o).grownBy w1 v.ownBlock) (hs : base ≤ wr.heap.size) : Below base w w1 := by
  refine (hb.alloc hs o).grown hg (by simp; omega) (fun q hq => ?_)
  rcases ho.2 with ⟨rfl, _⟩ | ⟨g, cap, cur, rfl, hb, hh, rest⟩
  · cases hq
  · simp only [Value.ownBlock, Option.some.injEq] at hq
    subst hq; exact hb
/-- How far the document's own pass is. -/
def PassAt (w : World) (l : List UInt8) (o c i : Value) (wr : World) : Prop :=
  ∃ (k : Nat) (acc : List (List UInt8)) (cur : List UInt8), k ≤ l.length + 1 ∧ i = .int .i64 k ∧ c = .string (txt cur) ∧ wr.ownsRow w.heap.size 9 1 o acc.length ((acc.map txt).map Value.string) ∧ Below w.heap.size w wr ∧
    acc.length ≤ k ∧ cur.length ≤ k ∧ acc ++ (if k ≤ l.length then wdsC cur (l.drop k) else []) = wds l
theorem pass_in {l cur : List UInt8} {acc : List (List UInt8)} {k : Nat} {x : UInt8} (h : acc ++ (if k ≤ l.length then wdsC cur (l.drop k) else []) = wds l) (hx : l[k]? = some x) (hb : x ≠ 32) :
    acc ++ (if k + 1 ≤ l.length then wdsC (cur ++ [x]) (l.drop (k + 1)) else []) = wds l := by
  have hk : k < l.length := (List.getElem?_eq_some_iff.1 hx).1
  rw [if_pos (by omega)] at h
  rw [if_pos (by omega)]
  exact wds_step_in h hx hb
theorem pass_end {l cur : List UInt8} {acc : List (List UInt8)} {k : Nat} (h : acc ++ (if k ≤ l.length then wdsC cur (l.drop k) else []) = wds l) (hk : k ≤ l.length) (hx : l[k]? = none ∨ l[k]? = some 32) :
    (acc ++ if cur = [] then [] else [cur]) ++ (if k + 1 ≤ l.length then wdsC [] (l.drop (k + 1)) else []) = wds l := by
  rw [if_pos hk] at h
  rcases hx with hx | hx
  · have hl : l.length ≤ k := by simpa using hx
    rw [if_neg (show ¬ (k + 1 ≤ l.length) by omega), List.append_nil]
    exact wds_step_all h hl
  · have hl : k < l.length := (List.getElem?_eq_some_iff.1 hx).1
    rw [if_pos (show k + 1 ≤ l.length by omega)]
    exact wds_step_end h hx
theorem txt_snoc (cur : List UInt8) (s : ByteArray) (k : Nat) (hk : k < s.size) : txt cur ++ s.extract k (k + 1) = txt (cur ++ [s[k]]) := by
  apply str_ext
  have e := Lib.extract_toList s k (k + 1)
  rw [ByteArray.toList_eq] at e
  have hl : k < s.data.toList.length := by rw [← Lib.size_eq]; exact hk
  rw [ByteArray.data_append, Array.toList_append, txt_list, txt_list, e, show k + 1 - k = 1 by omega, List.drop_eq_getElem_cons hl]
  rfl
set_option maxRecDepth 100000 in
set_option maxHeartbeats 2000000 in
theorem refWords_is (s : ByteArray) (w : World) (hs : s.size ≤ 100000) :
    Calls Tryz.prog 22 #[.string s] w (RetTexts w (wtx s)) := by
  obtain ⟨i0, hi, hz0, hz1, hz2⟩ := info_parts (show (Tryz.prog.info? 9).map (fun i => (i.zero, i.size, i.bytes)) = some (some (.string ⟨#[]⟩), 1, 16) by kernel_rfl)
  have HI := Lib.hid hi
  have HLN := Lib.hid (Lib.size_eq s)
  clear hi
  go_enter Tryz.func22, Tryz.ntmps22
  go_wp2_with fail
  have H0 := Lib.hid (show PassAt w s.data.toList (.slice none 0 0) (.string { data := #[] }) (.int .i64 0) w from ⟨0, [], [], by omega, rfl, rfl, World.ownsRow_nil _ _ _ _, Below.refl _ _, by simp, by simp, by simp [wds]⟩)
  go_loopw [3, 4, 5] (fun o c i wr => PassAt w s.data.toList o c i wr) (fun _ _ i _ => s.size + 1 - (intOf i).toNat)
  case atStart => exact H0.out
  case round =>
    obtain ⟨k, acc, cur, hk, rfl, rfl, hown, hb, ha, hc, hp⟩ := hrel
    have hsz := HLN.out
    have HO := Lib.hid hown
    have HB := Lib.hid hb
    have HP := Lib.hid hp
    clear hown hb hp
    by_cases hlt : k < s.size
    · have hl : k < s.data.toList.length := by omega
      have hx : s.data.toList[k]? = some s[k] := by rw [List.getElem?_eq_getElem hl]; rfl
      have HX := Lib.hid hx
      clear hx hsz
      by_cases hbl : s[k] = 32
      · have ht : ((s[k].toNat : Int) != 32) = false := by rw [hbl]; rfl
        have HN := Lib.hid (pass_end HP.out (by omega) (.inr (by rw [HX.out, hbl])))
        have HKL := Lib.hid (show k + 1 ≤ s.data.toList.length + 1 by omega)
        clear hbl HX hk
        by_cases hcur : cur = []
        · subst hcur
          have hem := str_none (a := txt []) rfl
          rw [if_pos rfl, List.append_nil] at HN
          go_wp2_with fail
          go_roundw
          case rel => exact ⟨k + 1, acc, [], by have := HKL.out; omega, by go_num, rfl, HO.out, HB.out, by omega, by simp, HN.out⟩
          case measure => (simp [intOf] <;> omega)
        · have hem := str_some (a := txt cur) (fun e => hcur (txt_inj e))
          rw [if_neg hcur] at HN
          clear hcur
          go_wp2_with (at_builtin; refine wpList_append_own _ rfl _ _ 38 rfl w.heap.size 9 i0 (.string ⟨#[]⟩) 1 16 Tryz.underlying38 HI.out hz0 hz1 hz2 rfl (by decide) _ _ _ rfl (own_keep HO.out ((Below.refl _ _).alloc (Nat.le_refl _) _)) ⟨wr.heap.size, 0, none⟩ 1 1 [.string (txt cur)] rfl rfl (one_new _ _ _) (one_one _) (by unfold maxLen; omega) (by omega) (HB.out.alloc HB.out.size _).size ?_)
          intro v' w1 hown' hgrow _
          have hb' := grown_texts HO.out HB.out hgrow HB.out.size
          have HO1 := Lib.hid hown'
          have HB1 := Lib.hid hb'
          clear hgrow hown' hb'
          go_wp2_with fail
          go_roundw
          case rel => exact ⟨k + 1, acc ++ [cur], [], by have := HKL.out; omega, by go_num, rfl, by simpa using HO1.out, HB1.out, by simp; omega, by simp, HN.out⟩
          case measure => (simp [intOf] <;> omega)
      · have ht : ((s[k].toNat : Int) != 32) = true := by
          rw [bne_iff_ne]
          intro e
          exact hbl (UInt8.toNat_inj.1 (by show s[k].toNat = 32; omega))
        have hz : ¬ (9223372036854775807 < (txt cur).size + (s.extract k (k + 1)).size) := by
          rw [txt_size, ByteArray.size_extract]
          omega
        have hcat := txt_snoc cur s k hlt
        have HN := Lib.hid (pass_in HP.out HX.out hbl)
        have hsl : ∀ w', (Instr.slice 9 (.string s) (some (.int .i64 (k : Int))) (some (.int .i64 ((k : Int) + 1))) none).run Tryz.prog w' = .ok (.string (s.extract k (k + 1))) w' := fun w' => by
          rw [run_slice_string (w := w') (h := Tryz.underlying9) (h0 := by omega) (h1 := by omega) (h2 := by omega), show ((k : Int) + 1).toNat = k + 1 by omega, Int.toNat_natCast]
        have HLT := Lib.hid hl
        clear hbl HX
        go_wp2_with fail
        go_roundw
        case rel => exact ⟨k + 1, acc, cur ++ [s[k]], by have := HLT.out; omega, by go_num, rfl, HO.out, HB.out, by omega, by simp; omega, HN.out⟩
        case measure => (simp [intOf] <;> omega)
    · by_cases hle : k ≤ s.size
      · obtain rfl : k = s.size := by omega
        have hx : s.data.toList[s.size]? = none := by rw [List.getElem?_eq_none]; omega
        have HN := Lib.hid (pass_end HP.out (by omega) (.inl hx))
        have HKL := Lib.hid (show s.size + 1 ≤ s.data.toList.length + 1 by omega)
        clear hx hsz hlt hle hk
        by_cases hcur : cur = []
        · subst hcur
          have hem := str_none (a := txt []) rfl
          rw [if_pos rfl, List.append_nil] at HN
          go_wp2_with fail
          go_roundw
          case rel => exact ⟨s.size + 1, acc, [], by have := HKL.out; omega, by go_num, rfl, HO.out, HB.out, by omega, by simp, HN.out⟩
          case measure => (simp [intOf] <;> omega)
        · have hem := str_some (a := txt cur) (fun e => hcur (txt_inj e))
          rw [if_neg hcur] at HN
          clear hcur
          go_wp2_with (at_builtin; refine wpList_append_own _ rfl _ _ 38 rfl w.heap.size 9 i0 (.string ⟨#[]⟩) 1 16 Tryz.underlying38 HI.out hz0 hz1 hz2 rfl (by decide) _ _ _ rfl (own_keep HO.out ((Below.refl _ _).alloc (Nat.le_refl _) _)) ⟨wr.heap.size, 0, none⟩ 1 1 [.string (txt cur)] rfl rfl (one_new _ _ _) (one_one _) (by unfold maxLen; omega) (by omega) (HB.out.alloc HB.out.size _).size ?_)
          intro v' w1 hown' hgrow _
          have hb' := grown_texts HO.out HB.out hgrow HB.out.size
          have HO1 := Lib.hid hown'
          have HB1 := Lib.hid hb'
          clear hgrow hown' hb'
          go_wp2_with fail
          go_roundw
          case rel => exact ⟨s.size + 1, acc ++ [cur], [], by have := HKL.out; omega, by go_num, rfl, by simpa using HO1.out, HB1.out, by simp; omega, by simp, HN.out⟩
          case measure => (simp [intOf] <;> omega)
      · have he : k = s.data.toList.length + 1 := by omega
        have hpf := HP.out
        rw [if_neg (by omega), List.append_nil] at hpf
        have HF := Lib.hid hpf
        clear hpf hsz he
        go_wp2_with fail
        refine bodyPost_ret (v := u3) (by simp [results, Tryz.results22, go_sem]) rfl ⟨u3, rfl, ?_, HB.out⟩
        have ho := HO.out
        rw [HF.out] at ho
        unfold wtx
        rw [List.length_map]
        exact ho
end

section
/-- The line so far. -/
def lineSo (o d a b n : Int) (k : Nat) : List UInt8 := Lib.join (tells o d a b n k) [32]
theorem join_snoc (u : List UInt8) : ∀ (xs : List (List UInt8)), xs ≠ [] → Lib.join (xs ++ [u]) [32] = Lib.join xs [32] ++ 32 :: u
  | [], h => absurd rfl h
  | [x], _ => by
    rw [Lib.join_one]
    show Lib.join [x, u] [32] = _
    rw [Lib.join_cons]
    simp [Lib.joinTail]
  | x :: y :: r, _ => by
    have i := join_snoc u (y :: r) (by simp)
    have e1 : Lib.join (x :: y :: r ++ [u]) [32] = x ++ 32 :: Lib.join (y :: r ++ [u]) [32] := by
      rw [List.cons_append, List.cons_append, Lib.join_cons, Lib.join_cons]
      simp [Lib.joinTail]
    have e2 : Lib.join (x :: y :: r) [32] = x ++ 32 :: Lib.join (y :: r) [32] := by
      rw [Lib.join_cons, Lib.join_cons]
      simp [Lib.joinTail]
    rw [e1, e2, i]
    simp
theorem tells_ne (o d a b n : Int) (k : Nat) : tells o d a b n k ≠ [] := fun e => by have := tells_pos o d a b n k; rw [e] at this; simp at this
theorem so_0 (o d a b n : Int) : lineSo o d a b n 0 = (wName o).data.toList := Lib.join_one _ _
theorem so_none {o d a b n : Int} {k : Nat} (h : shL o k = 45) : lineSo o d a b n (k + 1) = lineSo o d a b n k := by
  have he : opdW (shL o k) (fourOf d a b n k) = [] := by rw [h]; exact (if_neg (by decide)).trans (if_neg (by decide))
  unfold lineSo
  rw [tells, he, List.append_nil]
theorem so_reg {o d a b n : Int} {k : Nat} (h : isReg (shL o k)) : lineSo o d a b n (k + 1) = lineSo o d a b n k ++ 32 :: 114 :: decL (fourOf d a b n k) := by
  have he : opdW (shL o k) (fourOf d a b n k) = [114 :: decL (fourOf d a b n k)] := if_pos h
  unfold lineSo
  rw [tells, he, join_snoc _ _ (tells_ne _ _ _ _ _ _)]
theorem so_num {o d a b n : Int} {k : Nat} (h : isNum (shL o k)) (hr : ¬ isReg (shL o k)) : lineSo o d a b n (k + 1) = lineSo o d a b n k ++ 32 :: decL (fourOf d a b n k) := by
  have he : opdW (shL o k) (fourOf d a b n k) = [decL (fourOf d a b n k)] := (if_neg hr).trans (if_pos h)
  unfold lineSo
  rw [tells, he, join_snoc _ _ (tells_ne _ _ _ _ _ _)]
theorem so_len {o d a b n : Int} (h : isOp o) : ∀ k, (lineSo o d a b n k).length ≤ 5 + k * 23
  | 0 => by rw [so_0]; have := name_short h; omega
  | k + 1 => by
    have i := so_len (d := d) (a := a) (b := b) (n := n) h k
    have hl := decL_le (fourOf d a b n k)
    by_cases r : isReg (shL o k)
    · rw [so_reg r]; simp; omega
    · by_cases m : isNum (shL o k)
      · rw [so_num m r]; simp; omega
      · have he : opdW (shL o k) (fourOf d a b n k) = [] := (if_neg r).trans (if_neg m)
        have e : lineSo o d a b n (k + 1) = lineSo o d a b n k := by unfold lineSo; rw [tells, he, List.append_nil]
        rw [e]; omega
theorem cat_list (l : List UInt8) (c : List UInt8) : txt l ++ txt c = txt (l ++ c) := by
  apply str_ext
  rw [txt_list, ByteArray.data_append]
  simp [txt]
theorem refName_S (o : Int) (s : ByteArray) (w : World) (h : isOp o) (hs : wName o = s) : Calls Tryz.prog 64 #[.int .i64 o] w fun e w' => e = .returned (.string s) ∧ Below w.heap.size w w' := by
  subst hs
  unfold isOp at h
  exact (refName_is o w (by omega) (by omega)).mono fun e w' h => h
theorem refShape_S (o : Int) (s : ByteArray) (w : World) (hs : wShape o = s) : Calls Tryz.prog 63 #[.int .i64 o] w fun e w' => e = .returned (.string s) ∧ w = w' := by
  subst hs
  exact (refShape_is o w).mono fun e w' h => h
/-- A letter of a shape, as it is tested. -/
theorem letter_test {x0 x1 x2 x3 : UInt8} {o : Int} (he : ∀ k, k < 4 → (((#[x0, x1, x2, x3] : Array UInt8).getD k 0).toNat : Int) = shL o k) :
    ((({ data := #[x0, x1, x2, x3] } : ByteArray)[0]'(show 0 < 4 by decide)).toNat : Int) = shL o 0 ∧ ((({ data := #[x0, x1, x2, x3] } : ByteArray)[1]'(show 1 < 4 by decide)).toNat : Int) = shL o 1 ∧
    ((({ data := #[x0, x1, x2, x3] } : ByteArray)[2]'(show 2 < 4 by decide)).toNat : Int) = shL o 2 ∧ ((({ data := #[x0, x1, x2, x3] } : ByteArray)[3]'(show 3 < 4 by decide)).toNat : Int) = shL o 3 :=
  ⟨he 0 (by decide), he 1 (by decide), he 2 (by decide), he 3 (by decide)⟩
/-- Three pieces behind a line: what they come to, and that they are short. -/
theorem glue3 {so l : List UInt8} {f : Int} (h : l = so ++ 32 :: 114 :: decL f) (hl : so.length ≤ 200) : ∃ t1 t2 : ByteArray, txt so ++ { data := #[32] } = t1 ∧ t1 ++ { data := #[114] } = t2 ∧ t2 ++ txt (decL f) = txt l ∧ ¬ (9223372036854775807 < (txt so).size + 1) ∧ ¬ (9223372036854775807 < t1.size + 1) ∧ ¬ (9223372036854775807 < t2.size + (txt (decL f)).size) := by
  have := decL_le f
  refine ⟨txt (so ++ [32]), txt (so ++ [32] ++ [114]), cat_list so [32], cat_list (so ++ [32]) [114], ?_, ?_, ?_, ?_⟩
  · rw [cat_list, h]; simp
  all_goals (simp only [txt_size, List.length_append, List.length_cons, List.length_nil]; omega)
theorem glue2 {so l : List UInt8} {f : Int} (h : l = so ++ 32 :: decL f) (hl : so.length ≤ 200) : ∃ t1 : ByteArray, txt so ++ { data := #[32] } = t1 ∧ t1 ++ txt (decL f) = txt l ∧ ¬ (9223372036854775807 < (txt so).size + 1) ∧ ¬ (9223372036854775807 < t1.size + (txt (decL f)).size) := by
  have := decL_le f
  refine ⟨txt (so ++ [32]), cat_list so [32], ?_, ?_, ?_⟩
  · rw [cat_list, h]; simp
  all_goals (simp only [txt_size, List.length_append, List.length_cons, List.length_nil]; omega)
set_option maxHeartbeats 4000000 in
theorem refText_bad (o d a b n z : Int) (w : World) (hz : cChk o d a b n = z) (hne : z ≠ 0) :
    Calls Tryz.prog 33 #[.agg #[.int .i64 o, .int .i64 d, .int .i64 a, .int .i64 b, .int .i64 n]] w fun e w' => e = .returned (.tuple #[.string ⟨#[]⟩, .int .i64 z]) ∧ Below w.heap.size w w' := by
  have HI := Lib.hid (fun T => InsW.new w w o d a b n T (Below.refl _ _) (Nat.le_refl _))
  have HZ := Lib.hid hz
  have hne' : (z != 0) = true := by simpa using hne
  clear hz hne
  go_enter Tryz.func33, Tryz.ntmps33
  go_wp2_with (go_at_call 57; ((with_reducible refine (refCheckI_is o d a b n z _ HZ.out).mono ?_); rintro e w1 ⟨rfl, hk⟩); have hI := (HI.out _).keep hk)
  go_ret2
  exact ⟨rfl, hI.below⟩
set_option maxRecDepth 100000 in
set_option maxHeartbeats 4000000 in
theorem refText_good (o d a b n : Int) (w : World) (hz : cChk o d a b n = 0) :
    Calls Tryz.prog 33 #[.agg #[.int .i64 o, .int .i64 d, .int .i64 a, .int .i64 b, .int .i64 n]] w fun e w' => e = .returned (.tuple #[.string (txt (lineSo o d a b n 4)), .int .i64 0]) ∧ Below w.heap.size w w' := by
  have hop := chk_op hz
  obtain ⟨x0, x1, x2, x3, hs, hx, he⟩ := letter_small hop
  have HI := Lib.hid (fun T => InsW.new w w o d a b n T (Below.refl _ _) (Nat.le_refl _))
  have HZ := Lib.hid hz
  have HOP := Lib.hid hop
  have HSH := Lib.hid hs
  have HE := Lib.hid he
  have H0 := Lib.hid (show wName o = txt (lineSo o d a b n 0) by rw [so_0, txt_of])
  clear hz hop hs he hx
  go_enter Tryz.func33, Tryz.ntmps33
  go_wp2_with (first
    | (go_at_call 57; ((with_reducible refine (refCheckI_is o d a b n 0 _ HZ.out).mono ?_); rintro e w1 ⟨rfl, hk⟩); have hI := (HI.out _).keep hk; have c0 := hI.c0; have c1 := hI.c1; have c2 := hI.c2; have c3 := hI.c3; have c4 := hI.c4; clear hk)
    | (go_at_call 64; ((with_reducible refine (refName_S o _ _ HOP.out H0.out).mono ?_); rintro e w2 ⟨rfl, hk⟩); clear c0 c1 c2 c3 c4; have hI := hI.keep hk; have c0 := hI.c0; have c1 := hI.c1; have c2 := hI.c2; have c3 := hI.c3; have c4 := hI.c4; clear hk)
    | (go_at_call 63; ((with_reducible refine (refShape_S o _ _ HSH.out).mono ?_); rintro e w3 ⟨rfl, rfl⟩)))
  have HI2 := Lib.hid hI
  have HLT := Lib.hid (letter_test HE.out)
  clear hI c0 c1 c2 c3 c4
  go_loop [5, 8] (fun s i => ∃ k : Nat, k ≤ 4 ∧ i = .int .i64 k ∧ s = .string (txt (lineSo o d a b n k))) (fun _ i => 4 - (intOf i).toNat)
  case atStart => exact ⟨0, by omega, rfl, rfl⟩
  case round =>
    obtain ⟨k, hk, rfl, rfl⟩ := hrel
    by_cases hlt : k < 4
    · obtain rfl | rfl | rfl | rfl : k = 0 ∨ k = 1 ∨ k = 2 ∨ k = 3 := by omega
      · rcases letter_at HOP.out hlt with hq | hq
        · have hr : isReg (shL o 0) := by unfold isReg; omega
          have ht : (((({ data := #[x0, x1, x2, x3] } : ByteArray)[0]'(show 0 < 4 by decide)).toNat : Int) == 45) = false := by rw [HLT.out.1, beq_eq_false_iff_ne]; omega
          obtain ⟨t1, t2, e1, e2, e3, z1, z2, z3⟩ := glue3 (so_reg (d := d) (a := a) (b := b) (n := n) hr) (by have := so_len (d := d) (a := a) (b := b) (n := n) HOP.out 0; omega)
          simp only [fourOf] at e3 z3
          have hb0 := four_bd HZ.out (k := 0) hlt
          simp only [fourOf] at hb0
          clear hq hlt hr
          go_wp2_with (go_at_call 31; ((with_reducible refine (refDigits_is d _ (by omega) (by omega)).mono ?_); rintro e w5 ⟨rfl, rfl⟩))
          go_round
          case rel => exact ⟨1, by omega, rfl, rfl⟩
          case measure => simp [intOf]
        · have ht : (((({ data := #[x0, x1, x2, x3] } : ByteArray)[0]'(show 0 < 4 by decide)).toNat : Int) == 45) = true := by rw [HLT.out.1, hq]; rfl
          have HN := Lib.hid (so_none (d := d) (a := a) (b := b) (n := n) hq)
          clear hq hlt
          go_wp2_with fail
          go_round
          case rel => exact ⟨1, by omega, rfl, by rw [HN.out]⟩
          case measure => simp [intOf]
      · rcases letter_at HOP.out hlt with hq | hq
        · have hr : isReg (shL o 1) := by unfold isReg; omega
          have ht : (((({ data := #[x0, x1, x2, x3] } : ByteArray)[1]'(show 1 < 4 by decide)).toNat : Int) == 45) = false := by rw [HLT.out.2.1, beq_eq_false_iff_ne]; omega
          obtain ⟨t1, t2, e1, e2, e3, z1, z2, z3⟩ := glue3 (so_reg (d := d) (a := a) (b := b) (n := n) hr) (by have := so_len (d := d) (a := a) (b := b) (n := n) HOP.out 1; omega)
          simp only [fourOf] at e3 z3
          have hb1 := four_bd HZ.out (k := 1) hlt
          simp only [fourOf] at hb1
          clear hq hlt hr
          go_wp2_with (go_at_call 31; ((with_reducible refine (refDigits_is a _ (by omega) (by omega)).mono ?_); rintro e w5 ⟨rfl, rfl⟩))
          go_round
          case rel => exact ⟨2, by omega, rfl, rfl⟩
          case measure => simp [intOf]
        · have ht : (((({ data := #[x0, x1, x2, x3] } : ByteArray)[1]'(show 1 < 4 by decide)).toNat : Int) == 45) = true := by rw [HLT.out.2.1, hq]; rfl
          have HN := Lib.hid (so_none (d := d) (a := a) (b := b) (n := n) hq)
          clear hq hlt
          go_wp2_with fail
          go_round
          case rel => exact ⟨2, by omega, rfl, by rw [HN.out]⟩
          case measure => simp [intOf]
      · rcases letter_at HOP.out hlt with hq | hq
        · have hr : isReg (shL o 2) := by unfold isReg; omega
          have ht : (((({ data := #[x0, x1, x2, x3] } : ByteArray)[2]'(show 2 < 4 by decide)).toNat : Int) == 45) = false := by rw [HLT.out.2.2.1, beq_eq_false_iff_ne]; omega
          obtain ⟨t1, t2, e1, e2, e3, z1, z2, z3⟩ := glue3 (so_reg (d := d) (a := a) (b := b) (n := n) hr) (by have := so_len (d := d) (a := a) (b := b) (n := n) HOP.out 2; omega)
          simp only [fourOf] at e3 z3
          have hb2 := four_bd HZ.out (k := 2) hlt
          simp only [fourOf] at hb2
          clear hq hlt hr
          go_wp2_with (go_at_call 31; ((with_reducible refine (refDigits_is b _ (by omega) (by omega)).mono ?_); rintro e w5 ⟨rfl, rfl⟩))
          go_round
          case rel => exact ⟨3, by omega, rfl, rfl⟩
          case measure => simp [intOf]
        · have ht : (((({ data := #[x0, x1, x2, x3] } : ByteArray)[2]'(show 2 < 4 by decide)).toNat : Int) == 45) = true := by rw [HLT.out.2.2.1, hq]; rfl
          have HN := Lib.hid (so_none (d := d) (a := a) (b := b) (n := n) hq)
          clear hq hlt
          go_wp2_with fail
          go_round
          case rel => exact ⟨3, by omega, rfl, by rw [HN.out]⟩
          case measure => simp [intOf]
      · rcases letter_at HOP.out hlt with hq | hq
        · have hrn : ¬ isReg (shL o 3) := by unfold isReg; omega
          have hm : isNum (shL o 3) := by unfold isNum; omega
          have ht : (((({ data := #[x0, x1, x2, x3] } : ByteArray)[3]'(show 3 < 4 by decide)).toNat : Int) == 45) = false := by rw [HLT.out.2.2.2, beq_eq_false_iff_ne]; omega
          obtain ⟨t1, e1, e2, z1, z2⟩ := glue2 (so_num (d := d) (a := a) (b := b) (n := n) hm hrn) (by have := so_len (d := d) (a := a) (b := b) (n := n) HOP.out 3; omega)
          simp only [fourOf] at e2 z2
          have hb3 := four_bd HZ.out (k := 3) hlt
          simp only [fourOf] at hb3
          clear hq hlt hrn hm
          go_wp2_with (go_at_call 31; ((with_reducible refine (refDigits_is n _ (by omega) (by omega)).mono ?_); rintro e w5 ⟨rfl, rfl⟩))
          go_round
          case rel => exact ⟨4, by omega, rfl, rfl⟩
          case measure => simp [intOf]
        · have ht : (((({ data := #[x0, x1, x2, x3] } : ByteArray)[3]'(show 3 < 4 by decide)).toNat : Int) == 45) = true := by rw [HLT.out.2.2.2, hq]; rfl
          have HN := Lib.hid (so_none (d := d) (a := a) (b := b) (n := n) hq)
          clear hq hlt
          go_wp2_with fail
          go_round
          case rel => exact ⟨4, by omega, rfl, by rw [HN.out]⟩
          case measure => simp [intOf]
    · obtain rfl : k = 4 := by omega
      go_wp2_with fail
      go_ret2
      exact ⟨rfl, HI2.out.below.alloc HI2.out.le _⟩
theorem refText_is (o d a b n z : Int) (s : ByteArray) (w : World) (hz : cChk o d a b n = z) (hs : lineT o d a b n = s) :
    Calls Tryz.prog 33 #[.agg #[.int .i64 o, .int .i64 d, .int .i64 a, .int .i64 b, .int .i64 n]] w fun e w' => e = .returned (.tuple #[.string s, .int .i64 z]) ∧ Below w.heap.size w w' := by
  subst hz hs
  unfold lineT
  by_cases h : cChk o d a b n = 0
  · rw [if_pos h, h]
    exact refText_good o d a b n w h
  · rw [if_neg h]
    exact refText_bad o d a b n _ w rfl h
end

end Go.Proofs.YtekhgidbnpfmnaaGreatDoor
