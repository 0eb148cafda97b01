/- What the document's own Words and Texts answer: a line's words; whether two lists of texts are one. No conditions but sizes. -/
import Derived.Test.YtheflkhbmbfajaaDoorLinM
import Derived.Test.YtheflkhbmbfajaaDoorLinW
import Derived.Test.YtheflkhbmbfajaaDoorStr
import Derived.Test.YtheflkhbmbfajaaDoorBys
import Derived.Deep.QuietTactic
import Derived.BigQuiet
import Derived.Handy
import Derived.Lib.Hide
import Derived.Laws.AppendOwn
import Derived.Test.YtheflkhbmbfajaaDoorLinR
namespace Go.Proofs.YtheflkhbmbfajaaDoor
open Go.RowKit

/-- Texts that stand at the slice p, n, c. -/
structure StrsAt (w : World) (p : Option Addr) (n c : Nat) (l : List ByteArray) : Prop where
  len : l.length = n
  cap : n ≤ c
  big : c ≤ maxLen
  lie : 0 < n → ∃ g, p = some ⟨g, 0, none⟩ ∧ ∀ (i : Nat) x, l[i]? = some x → w.cell? ⟨g, i, none⟩ = some (.string x)
theorem StrsAt.keep {w w' : World} {p : Option Addr} {n c : Nat} {l : List ByteArray} (h : StrsAt w p n c l) (hb : Below w.heap.size w w') : StrsAt w' p n c l := by
  refine ⟨h.len, h.cap, h.big, fun hn => ?_⟩
  obtain ⟨g, hp, hc⟩ := h.lie hn
  exact ⟨g, hp, fun i x hx => (hb.cell (p := ⟨g, i, none⟩) (cell_lt (hc i x hx))).trans (hc i x hx)⟩
theorem StrsAt.of_own {w : World} {base n : Nat} {e : TypeId} {v : Value} {l : List ByteArray} (h : w.ownsRow base e 1 v n (l.map Value.string)) : ∃ p c, v = .slice p n c ∧ StrsAt w p n c l := by
  have hl : l.length = n := by have := h.1; simpa using this
  have hh := h
  rcases h.2 with ⟨rfl, rfl⟩ | ⟨g, cap, cur, rfl, hb, hg, hn, hc, rest⟩
  · exact ⟨none, 0, rfl, hl, Nat.le_refl _, by unfold maxLen; omega, fun h => absurd h (Nat.lt_irrefl _)⟩
  · refine ⟨_, cap, rfl, hl, hn, hc, fun _ => ⟨g, rfl, fun i x hx => ?_⟩⟩
    subst hl
    exact own_text hh hx
/-- What a call answers: texts of its own, none too. -/
def RetTexts (w : World) (l : List ByteArray) (e : Ending) (w' : World) : Prop := ∃ v, e = .returned v ∧ w'.ownsRow w.heap.size 9 1 v l.length (l.map Value.string) ∧ Below w.heap.size w w'

theorem one_new (w : World) (u : ByteArray) (t : TypeId) : ∀ (j : Nat) u', [Value.string u][j]? = some u' → (w.alloc (.cells #[.string u] t)).cell? ((⟨w.heap.size, 0, none⟩ : Addr).add j) = some u' := by
  intro j u' hj
  match j, hj with
  | 0, hj => simp at hj; subst hj; simp [Addr.add]
theorem one_one (u : ByteArray) : ∀ u' ∈ [Value.string u], u'.oneCell' = true := by
  intro u' hu'
  simp at hu'
  subst hu'; rfl
theorem grown_texts {w wr w1 : World} {base n : Nat} {e : TypeId} {v : Value} {xs : List Value} {o : Obj} (ho : wr.ownsRow base e 1 v n xs) (hb : Below base w wr) (hg : (wr.alloc o).grownBy w1 v.ownBlock) (hs : base ≤ wr.heap.size) : Below base w w1 := by
  refine (hb.alloc hs o).grown hg (by simp; omega) (fun q hq => ?_)
  rcases ho.2 with ⟨rfl, _⟩ | ⟨g, cap, cur, rfl, hb, hh, rest⟩
  · cases hq
  · simp only [Value.ownBlock, Option.some.injEq] at hq
    subst hq; exact hb
/-- How far the document's own pass is. -/
def PassAt (w : World) (l : List UInt8) (o c i : Value) (wr : World) : Prop :=
  ∃ (k : Nat) (acc : List (List UInt8)) (cur : List UInt8), k ≤ l.length + 1 ∧ i = .int .i64 k ∧ c = .string (txt cur) ∧ wr.ownsRow w.heap.size 9 1 o acc.length ((acc.map txt).map Value.string) ∧ Below w.heap.size w wr ∧
    acc.length ≤ k ∧ cur.length ≤ k ∧ acc ++ (if k ≤ l.length then wdsC cur (l.drop k) else []) = wds l
theorem pass_in {l cur : List UInt8} {acc : List (List UInt8)} {k : Nat} {x : UInt8} (h : acc ++ (if k ≤ l.length then wdsC cur (l.drop k) else []) = wds l) (hx : l[k]? = some x) (hb : x ≠ 32) :
    acc ++ (if k + 1 ≤ l.length then wdsC (cur ++ [x]) (l.drop (k + 1)) else []) = wds l := by
  have hk : k < l.length := (List.getElem?_eq_some_iff.1 hx).1
  rw [if_pos (by omega)] at h
  rw [if_pos (by omega)]
  exact wds_step_in h hx hb
theorem pass_end {l cur : List UInt8} {acc : List (List UInt8)} {k : Nat} (h : acc ++ (if k ≤ l.length then wdsC cur (l.drop k) else []) = wds l) (hk : k ≤ l.length) (hx : l[k]? = none ∨ l[k]? = some 32) :
    (acc ++ if cur = [] then [] else [cur]) ++ (if k + 1 ≤ l.length then wdsC [] (l.drop (k + 1)) else []) = wds l := by
  rw [if_pos hk] at h
  rcases hx with hx | hx
  · have hl : l.length ≤ k := by simpa using hx
    rw [if_neg (show ¬ (k + 1 ≤ l.length) by omega), List.append_nil]
    exact wds_step_all h hl
  · have hl : k < l.length := (List.getElem?_eq_some_iff.1 hx).1
    rw [if_pos (show k + 1 ≤ l.length by omega)]
    exact wds_step_end h hx
theorem txt_snoc (cur : List UInt8) (s : ByteArray) (k : Nat) (hk : k < s.size) : txt cur ++ s.extract k (k + 1) = txt (cur ++ [s[k]]) := by
  apply str_ext
  have e := Lib.extract_toList s k (k + 1)
  rw [ByteArray.toList_eq] at e
  have hl : k < s.data.toList.length := by rw [← Lib.size_eq]; exact hk
  rw [ByteArray.data_append, Array.toList_append, txt_list, txt_list, e, show k + 1 - k = 1 by omega, List.drop_eq_getElem_cons hl]
  rfl
set_option maxRecDepth 100000 in
set_option maxHeartbeats 2000000 in
theorem refWords_is (s : ByteArray) (w : World) (hs : s.size ≤ 1000) :
    Calls Tryd.prog 15 #[.string s] w (RetTexts w (wtx s)) := by
  obtain ⟨i0, hi, hz0, hz1, hz2⟩ := info_parts (show (Tryd.prog.info? 9).map (fun i => (i.zero, i.size, i.bytes)) = some (some (.string ⟨#[]⟩), 1, 16) by kernel_rfl)
  have HI := Lib.hid hi
  have HLN := Lib.hid (Lib.size_eq s)
  clear hi
  go_enter Tryd.func15, Tryd.ntmps15
  go_wp2_with fail
  have H0 := Lib.hid (show PassAt w s.data.toList (.slice none 0 0) (.string { data := #[] }) (.int .i64 0) w from ⟨0, [], [], by omega, rfl, rfl, World.ownsRow_nil _ _ _ _, Below.refl _ _, by simp, by simp, by simp [wds]⟩)
  go_loopw [3, 4, 5] (fun o c i wr => PassAt w s.data.toList o c i wr) (fun _ _ i _ => s.size + 1 - (intOf i).toNat)
  case atStart => exact H0.out
  case round =>
    obtain ⟨k, acc, cur, hk, rfl, rfl, hown, hb, ha, hc, hp⟩ := hrel
    have hsz := HLN.out
    have HO := Lib.hid hown
    have HB := Lib.hid hb
    have HP := Lib.hid hp
    clear hown hb hp
    by_cases hlt : k < s.size
    · have hl : k < s.data.toList.length := by omega
      have hx : s.data.toList[k]? = some s[k] := by rw [List.getElem?_eq_getElem hl]; rfl
      have HX := Lib.hid hx
      clear hx hsz
      by_cases hbl : s[k] = 32
      · have ht : ((s[k].toNat : Int) != 32) = false := by rw [hbl]; rfl
        have HN := Lib.hid (pass_end HP.out (by omega) (.inr (by rw [HX.out, hbl])))
        have HKL := Lib.hid (show k + 1 ≤ s.data.toList.length + 1 by omega)
        clear hbl HX hk
        by_cases hcur : cur = []
        · subst hcur
          have hem := str_none (a := txt []) rfl
          rw [if_pos rfl, List.append_nil] at HN
          go_wp2_with fail
          go_roundw
          case rel => exact ⟨k + 1, acc, [], by have := HKL.out; omega, by go_num, rfl, HO.out, HB.out, by omega, by simp, HN.out⟩
          case measure => (simp [intOf] <;> omega)
        · have hem := str_some (a := txt cur) (fun e => hcur (txt_inj e))
          rw [if_neg hcur] at HN
          clear hcur
          go_wp2_with (at_builtin; refine wpList_append_own _ rfl _ _ 33 rfl w.heap.size 9 i0 (.string ⟨#[]⟩) 1 16 Tryd.underlying33 HI.out hz0 hz1 hz2 rfl (by decide) _ _ _ rfl (own_keep HO.out ((Below.refl _ _).alloc (Nat.le_refl _) _)) ⟨wr.heap.size, 0, none⟩ 1 1 [.string (txt cur)] rfl rfl (one_new _ _ _) (one_one _) (by unfold maxLen; omega) (by omega) (HB.out.alloc HB.out.size _).size ?_)
          intro v' w1 hown' hgrow _
          have hb' := grown_texts HO.out HB.out hgrow HB.out.size
          have HO1 := Lib.hid hown'
          have HB1 := Lib.hid hb'
          clear hgrow hown' hb'
          go_wp2_with fail
          go_roundw
          case rel => exact ⟨k + 1, acc ++ [cur], [], by have := HKL.out; omega, by go_num, rfl, by simpa using HO1.out, HB1.out, by simp; omega, by simp, HN.out⟩
          case measure => (simp [intOf] <;> omega)
      · have ht : ((s[k].toNat : Int) != 32) = true := by
          rw [bne_iff_ne]
          intro e
          exact hbl (UInt8.toNat_inj.1 (by show s[k].toNat = 32; omega))
        have hz : ¬ (9223372036854775807 < (txt cur).size + (s.extract k (k + 1)).size) := by
          rw [txt_size, ByteArray.size_extract]
          omega
        have hcat := txt_snoc cur s k hlt
        have HN := Lib.hid (pass_in HP.out HX.out hbl)
        have hsl : ∀ w', (Instr.slice 9 (.string s) (some (.int .i64 (k : Int))) (some (.int .i64 ((k : Int) + 1))) none).run Tryd.prog w' = .ok (.string (s.extract k (k + 1))) w' := fun w' => by
          rw [run_slice_string (w := w') (h := Tryd.underlying9) (h0 := by omega) (h1 := by omega) (h2 := by omega), show ((k : Int) + 1).toNat = k + 1 by omega, Int.toNat_natCast]
        have HLT := Lib.hid hl
        clear hbl HX
        go_wp2_with fail
        go_roundw
        case rel => exact ⟨k + 1, acc, cur ++ [s[k]], by have := HLT.out; omega, by go_num, rfl, HO.out, HB.out, by omega, by simp; omega, HN.out⟩
        case measure => (simp [intOf] <;> omega)
    · by_cases hle : k ≤ s.size
      · obtain rfl : k = s.size := by omega
        have hx : s.data.toList[s.size]? = none := by rw [List.getElem?_eq_none]; omega
        have HN := Lib.hid (pass_end HP.out (by omega) (.inl hx))
        have HKL := Lib.hid (show s.size + 1 ≤ s.data.toList.length + 1 by omega)
        clear hx hsz hlt hle hk
        by_cases hcur : cur = []
        · subst hcur
          have hem := str_none (a := txt []) rfl
          rw [if_pos rfl, List.append_nil] at HN
          go_wp2_with fail
          go_roundw
          case rel => exact ⟨s.size + 1, acc, [], by have := HKL.out; omega, by go_num, rfl, HO.out, HB.out, by omega, by simp, HN.out⟩
          case measure => (simp [intOf] <;> omega)
        · have hem := str_some (a := txt cur) (fun e => hcur (txt_inj e))
          rw [if_neg hcur] at HN
          clear hcur
          go_wp2_with (at_builtin; refine wpList_append_own _ rfl _ _ 33 rfl w.heap.size 9 i0 (.string ⟨#[]⟩) 1 16 Tryd.underlying33 HI.out hz0 hz1 hz2 rfl (by decide) _ _ _ rfl (own_keep HO.out ((Below.refl _ _).alloc (Nat.le_refl _) _)) ⟨wr.heap.size, 0, none⟩ 1 1 [.string (txt cur)] rfl rfl (one_new _ _ _) (one_one _) (by unfold maxLen; omega) (by omega) (HB.out.alloc HB.out.size _).size ?_)
          intro v' w1 hown' hgrow _
          have hb' := grown_texts HO.out HB.out hgrow HB.out.size
          have HO1 := Lib.hid hown'
          have HB1 := Lib.hid hb'
          clear hgrow hown' hb'
          go_wp2_with fail
          go_roundw
          case rel => exact ⟨s.size + 1, acc ++ [cur], [], by have := HKL.out; omega, by go_num, rfl, by simpa using HO1.out, HB1.out, by simp; omega, by simp, HN.out⟩
          case measure => (simp [intOf] <;> omega)
      · have he : k = s.data.toList.length + 1 := by omega
        have hpf := HP.out
        rw [if_neg (by omega), List.append_nil] at hpf
        have HF := Lib.hid hpf
        clear hpf hsz he
        go_wp2_with fail
        refine bodyPost_ret (v := u3) (by simp [results, Tryd.results15, go_sem]) rfl ⟨u3, rfl, ?_, HB.out⟩
        have ho := HO.out
        rw [HF.out] at ho
        unfold wtx
        rw [List.length_map]
        exact ho
set_option maxHeartbeats 2000000 in
theorem refTexts_is (p p' : Option Addr) (n c c' : Nat) (l : List ByteArray) (w : World) (hB : StrsAt w p n c l) (hB' : StrsAt w p' n c' l) :
    Calls Tryd.prog 13 #[.slice p n c, .slice p' n c'] w fun e w' => e = .returned (.bool true) ∧ Below w.heap.size w w' := by
  have hcap := hB.cap
  have hbig := hB.big
  have hcap' := hB'.cap
  have hbig' := hB'.big
  unfold maxLen at hbig hbig'
  have HB := Lib.hid hB
  have HB' := Lib.hid hB'
  clear hB hB'
  go_enter Tryd.func13, Tryd.ntmps13
  go_wp2
  go_loopw [5] (fun i wr => ∃ k : Nat, k ≤ n ∧ i = .int .i64 k ∧ Below w.heap.size w wr) (fun i _ => n - (intOf i).toNat)
  case atStart => exact ⟨0, by omega, rfl, Below.refl _ _⟩
  case round =>
    obtain ⟨k, hk, rfl, hb⟩ := hrel
    have Hb := Lib.hid hb
    by_cases hlt : k < n
    · obtain ⟨g, rfl, h1⟩ := (HB.out.keep hb).lie (by omega)
      obtain ⟨g', rfl, h2⟩ := (HB'.out.keep hb).lie (by omega)
      have hx : l[k]? = some (l[k]'(by rw [HB.out.len]; exact hlt)) := List.getElem?_eq_getElem _
      have h1 := h1 k _ hx
      have h2 := h2 k _ hx
      have hlt' : (k : Int) < n := by omega
      generalize l[k]'(by rw [HB.out.len]; exact hlt) = y at *
      have hy : (y.toList != y.toList) = false := by simp
      clear hb hx
      go_wp2
      go_quiet (fail)
      go_wp2
      go_roundw
      case rel => exact ⟨k + 1, by omega, by go_num, ⟨Hb.out.os, Hb.out.tape, Hb.out.output, Hb.out.size, Hb.out.block⟩⟩
      case measure => simp [intOf]; omega
    · obtain rfl : k = n := by omega
      clear hb
      go_wp2
      go_ret
      exact ⟨rfl, Hb.out⟩
end Go.Proofs.YtheflkhbmbfajaaDoor
