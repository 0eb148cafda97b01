/- What is asked of package source's Parse and Text; the document's Lines; how long texts are. -/
import Derived.Test.YtekhgidbnpfmnaaGreatDoorSouP
import Derived.Test.YtekhgidbnpfmnaaGreatDoorLabM
import Derived.Test.YtekhgidbnpfmnaaGreatDoorLinR
import Derived.Test.YtekhgidbnpfmnaaGreatDoorImgC
import Derived.Test.YtekhgidbnpfmnaaGreatDoorImgO
namespace Go.Proofs.YtekhgidbnpfmnaaGreatDoor
open Go.RowKit

section
open Go.RowKit Go.IntWalk

theorem infoStrS : (Tryz.prog.info? 9).map (fun i => (i.zero, i.size, i.bytes)) = some (some (.string ⟨#[]⟩), 1, 16) := by kernel_rfl
/-- What a call answers: texts of its own. -/
def RetLines (w : World) (l : List ByteArray) (e : Ending) (w' : World) : Prop := ∃ v, e = .returned v ∧ OwnEl strK w' w.heap.size 9 v l ∧ Below w.heap.size w w'
/-- The part of a text from a place on to another. -/
def cutT (l : Tx) (a k : Nat) : Tx := (l.drop a).take (k - a)
theorem cut_txt (s : ByteArray) (a k : Nat) : s.extract a k = txt (cutT s.data.toList a k) := by
  apply str_ext
  have e := Lib.extract_toList s a k
  rw [ByteArray.toList_eq] at e
  rw [txt_list, e]
  rfl
theorem cut_none (l : Tx) (a : Nat) : cutT l a a = [] := by unfold cutT; rw [Nat.sub_self, List.take_zero]
theorem cut_snoc {l : Tx} {a k : Nat} {x : UInt8} (h : a ≤ k) (hx : l[k]? = some x) : cutT l a (k + 1) = cutT l a k ++ [x] := by
  unfold cutT
  rw [show k + 1 - a = (k - a) + 1 by omega, List.take_add_one, List.getElem?_drop, show a + (k - a) = k by omega, hx]
  rfl
theorem lin_in {l acc2 : Tx} {acc : List Tx} {a k : Nat} {x : UInt8} (h : acc ++ linC (cutT l a k) (l.drop k) = lns l) (ha : a ≤ k) (hx : l[k]? = some x) (hb : x ≠ 10) (_ : acc2 = []) : acc ++ linC (cutT l a (k + 1)) (l.drop (k + 1)) = lns l := by
  obtain ⟨hk, he⟩ := List.getElem?_eq_some_iff.1 hx
  rw [List.drop_eq_getElem_cons hk, he, linC, if_neg hb] at h
  rw [cut_snoc ha hx]
  exact h
theorem lin_end {l : Tx} {acc : List Tx} {a k : Nat} (h : acc ++ linC (cutT l a k) (l.drop k) = lns l) (hx : l[k]? = some 10) : (acc ++ [cutT l a k]) ++ linC (cutT l (k + 1) (k + 1)) (l.drop (k + 1)) = lns l := by
  obtain ⟨hk, he⟩ := List.getElem?_eq_some_iff.1 hx
  rw [List.drop_eq_getElem_cons hk, he, linC, if_pos rfl] at h
  rw [cut_none, List.append_assoc]
  exact h
theorem lin_all {l : Tx} {acc : List Tx} {a k : Nat} (h : acc ++ linC (cutT l a k) (l.drop k) = lns l) (hk : l.length = k) (ha : a ≤ k) : acc ++ (if a < k then [cutT l a k] else []) = lns l := by
  rw [List.drop_eq_nil_of_le (by omega), linC] at h
  by_cases q : a < k
  · have hn : cutT l a k ≠ [] := fun e => by
      have := congrArg List.length e
      unfold cutT at this
      rw [List.length_take, List.length_drop] at this
      simp at this
      omega
    rw [if_neg hn] at h
    rw [if_pos q]
    exact h
  · obtain rfl : a = k := by omega
    rw [cut_none, if_pos rfl] at h
    rw [if_neg q]
    exact h
set_option maxRecDepth 100000 in
set_option maxHeartbeats 2000000 in
theorem refLines23_is (s : ByteArray) (w : World) (hs : s.size ≤ 1000000) : Calls Tryz.prog 13 #[.string s] w (RetLines w ((lns s.data.toList).map txt)) := by
  obtain ⟨i0, hi, hz0, hz1, hz2⟩ := info_parts infoStrS
  have HI := Lib.hid hi
  have HLN := Lib.hid (Lib.size_eq s)
  have hb0 := Below.refl w.heap.size w
  clear hi
  go_enter Tryz.func13, Tryz.ntmps13
  go_wp2
  go_loopw [3, 4, 5] (fun o c i wr => ∃ (k a : Nat) (acc : List Tx), k ≤ s.size ∧ a ≤ k ∧ acc.length ≤ k ∧ i = .int .i64 (k : Int) ∧ c = .int .i64 (a : Int) ∧ OwnEl strK wr w.heap.size 9 o (acc.map txt) ∧ Below w.heap.size w wr ∧ acc ++ linC (cutT s.data.toList a k) (s.data.toList.drop k) = lns s.data.toList) (fun _ _ i _ => s.size - (intOf i).toNat)
  case atStart => exact ⟨0, 0, [], by omega, by omega, by simp, rfl, rfl, OwnEl.nil _ _ _ _, hb0, by rw [cut_none]; rfl⟩
  case round =>
    clear hb0
    obtain ⟨k, a, acc, hk, ha, hac, rfl, rfl, hown, hb, hp⟩ := hrel
    have HO := Lib.hid hown
    have HB := Lib.hid hb
    have HP := Lib.hid hp
    have hbs := hb.size
    obtain ⟨av, nv, cv, rfl⟩ : ∃ a n c, u3 = .slice a n c := by
      obtain ⟨a, c, e, -⟩ := hown.at
      exact ⟨a, _, c, e⟩
    clear hown hb hp
    by_cases hlt : k < s.size
    · have hl : k < s.data.toList.length := by rw [← HLN.out]; exact hlt
      have hx : s.data.toList[k]? = some s[k] := by rw [List.getElem?_eq_getElem hl]; rfl
      have HX := Lib.hid hx
      have hlt' : (k : Int) < s.size := by omega
      clear hx
      by_cases hbl : s[k] = 10
      · have ht : ((s[k].toNat : Int) == 10) = true := by rw [hbl]; rfl
        have HN := Lib.hid (lin_end HP.out (by rw [HX.out, hbl]))
        have HM := Lib.hid (show (acc.map txt).length ≤ 1000000 by rw [List.length_map]; omega)
        have hsl : ∀ w', (Instr.slice 9 (.string s) (some (.int .i64 (a : Int))) (some (.int .i64 (k : Int))) none).run Tryz.prog w' = .ok (.string (txt (cutT s.data.toList a k))) w' := fun w' => by
          rw [run_slice_string (w := w') (h := Tryz.underlying9) (h0 := by omega) (h1 := by omega) (h2 := by omega), Int.toNat_natCast, Int.toNat_natCast, cut_txt]
        clear hbl HX
        go_wp2_with (at_builtin; refine wpList_append_el1 rfl _ _ 38 rfl w.heap.size 9 i0 (.string ⟨#[]⟩) Tryz.underlying38 HI.out hz0 hz1 (by omega) rfl rfl (HO.out.keep ((Below.refl _ _).alloc (Nat.le_refl _) _)) rfl (ElAt.one (K := strK) wr 9 (txt (cutT s.data.toList a k)) #[.string (txt (cutT s.data.toList a k))] rfl) (by have := HM.out; omega) (by simp; omega) ?_; intro v' w1 hown hgr hnx; have HO1 := Lib.hid hown; have HB1 := Lib.hid ((HB.out.alloc hbs _).grown hgr (by simp; omega) fun j q => (HO.out.lt j q).1); clear hown hgr hnx)

        go_roundw
        case rel => exact ⟨k + 1, k + 1, acc ++ [cutT s.data.toList a k], by omega, by omega, by rw [List.length_append]; simp; omega, by go_num, by go_num, by rw [List.map_append]; exact HO1.out, HB1.out, HN.out⟩
        case measure => simp [intOf]; omega
      · have ht : ((s[k].toNat : Int) == 10) = false := by
          rw [beq_eq_false_iff_ne]
          intro e
          exact hbl (UInt8.toNat_inj.1 (by show s[k].toNat = 10; omega))
        have HN := Lib.hid (lin_in HP.out ha HX.out hbl rfl)
        clear hbl HX
        go_wp2
        go_roundw
        case rel => exact ⟨k + 1, a, acc, by omega, by omega, by omega, by go_num, rfl, HO.out, HB.out, HN.out⟩
        case measure => simp [intOf]; omega
    · obtain rfl : k = s.size := by omega
      have HN := Lib.hid (lin_all HP.out HLN.out.symm ha)
      by_cases hq : a < s.size
      · have hn := HN.out
        rw [if_pos hq] at hn
        have HN2 := Lib.hid hn
        have HM := Lib.hid (show (acc.map txt).length ≤ 1000000 by rw [List.length_map]; omega)
        have hsl : ∀ w', (Instr.slice 9 (.string s) (some (.int .i64 (a : Int))) none none).run Tryz.prog w' = .ok (.string (txt (cutT s.data.toList a s.size))) w' := fun w' => by
          rw [run_slice_string_l (w := w') (ht := Tryz.underlying9) (h0 := by omega) (h1 := by omega), Int.toNat_natCast, cut_txt]
        clear hn
        go_wp2_with (at_builtin; refine wpList_append_el1 rfl _ _ 38 rfl w.heap.size 9 i0 (.string ⟨#[]⟩) Tryz.underlying38 HI.out hz0 hz1 (by omega) rfl rfl (HO.out.keep ((Below.refl _ _).alloc (Nat.le_refl _) _)) rfl (ElAt.one (K := strK) wr 9 (txt (cutT s.data.toList a s.size)) #[.string (txt (cutT s.data.toList a s.size))] rfl) (by have := HM.out; omega) (by simp; omega) ?_; intro v' w1 hown hgr hnx; have HO1 := Lib.hid hown; have HB1 := Lib.hid ((HB.out.alloc hbs _).grown hgr (by simp; omega) fun j q => (HO.out.lt j q).1); clear hown hgr hnx)
        go_ret
        exact ⟨_, rfl, by rw [← HN2.out, List.map_append]; exact HO1.out, HB1.out⟩
      · have hn := HN.out
        rw [if_neg hq, List.append_nil] at hn
        have HN2 := Lib.hid hn
        clear hn
        go_wp2
        go_ret
        exact ⟨_, rfl, by rw [← HN2.out]; exact HO.out, HB.out⟩
end

section
open Go.RowKit Go.Lib

/-- What a parsing answers. -/
def ParTo (w : World) (r : Int × Nat × Img) (e : Ending) (w' : World) : Prop :=
  ∃ a0 n0 c0 a1 n1 c1 a2 n2 c2 a3 n3 c3 a4 n4 c4, e = .returned (.tuple #[.agg #[.slice a0 n0 c0, .slice a1 n1 c1, .slice a2 n2 c2, .slice a3 n3 c3, .slice a4 n4 c4], .int .i64 (r.2.1 : Int), .int .i64 r.1]) ∧ ImgAt w' a0 n0 c0 a1 n1 c1 a2 n2 c2 a3 n3 c3 a4 n4 c4 r.2.2 ∧ Below w.heap.size w w'
/-- What a telling answers. -/
def TexTo (w : World) (m : Img) (e : Ending) (w' : World) : Prop := e = .returned (.tuple #[.string (txt (texS m).2), .int .i64 (texS m).1]) ∧ Below w.heap.size w w'
theorem joinB_len : ∀ (ws : List Tx), (join ws [32]).length ≤ (ws.map fun w => w.length + 1).sum
  | [] => by simp [join_nil]
  | [w] => by rw [join_one]; simp
  | w :: u :: r => by
    have h := joinB_len (u :: r)
    rw [join_cons] at h ⊢
    simp only [joinTail, List.map_cons, List.flatten_cons, List.length_append, List.sum_cons] at *
    simp only [List.length_cons, List.length_nil]
    omega
theorem sumB_le {l : List Tx} {k : Nat} (h : ∀ w ∈ l, w.length ≤ k) : (l.map fun w => w.length + 1).sum ≤ (k + 1) * l.length := by
  induction l with
  | nil => simp
  | cons w l ih =>
    have h1 := h w (by simp)
    have h2 := ih fun x hx => h x (by simp [hx])
    rw [List.map_cons, List.sum_cons, List.length_cons, Nat.mul_succ]
    omega
theorem line_len {m : Img} (hf : Fits m) (hc : ∀ w ∈ m.code, cErr w = 0) : ∀ l ∈ linesT m, l.length ≤ 70 := by
  have two : ∀ (a : Tx) (n : Int), a.length ≤ 6 → -2147483648 ≤ n → n < 2147483648 → (a ++ 32 :: decL n).length ≤ 70 := fun a n ha h0 h1 => by
    have := decL_length (n := n) (by omega) (by omega)
    rw [List.length_append, List.length_cons]
    omega
  intro l hl
  unfold linesT at hl
  rcases List.mem_append.1 hl with hl | hl
  · obtain ⟨q, hq, rfl⟩ := List.mem_map.1 hl
    have := hf.data q.1 (by rw [← (zip_maps m.data m.sec hf.sec).1]; exact List.mem_map.2 ⟨q, hq, rfl⟩)
    unfold datT
    cases q.2
    · exact two wWord _ (by decide) this.1 this.2
    · exact two wSecret _ (by decide) this.1 this.2
  · rcases List.mem_append.1 hl with hl | hl
    · obtain ⟨a, ha, rfl⟩ := List.mem_map.1 hl
      have := hf.inn a ha
      exact two wIn _ (by decide) (by omega) (by omega)
    · rcases List.mem_append.1 hl with hl | hl
      · obtain ⟨a, ha, rfl⟩ := List.mem_map.1 hl
        have := hf.out a ha
        exact two wOut _ (by decide) (by omega) (by omega)
      · obtain ⟨w, hw, rfl⟩ := List.mem_map.1 hl
        obtain ⟨hk, -⟩ := back_word (hc w hw)
        obtain ⟨p1, p2⟩ := line_short hk
        unfold insT cO cG
        rw [if_pos (hc w hw), if_pos (hc w hw), if_pos (hc w hw), if_pos (hc w hw), if_pos (hc w hw)]
        unfold lineT
        rw [if_pos hk, txt_list]
        have h1 := joinB_len (lineWs (w / 67108864) (cF w 0) (cF w 1) (cF w 2) (cF w 3))
        have h2 := sumB_le p2
        have h3 : (12 + 1) * (lineWs (w / 67108864) (cF w 0) (cF w 1) (cF w 2) (cF w 3)).length ≤ 13 * 5 := Nat.mul_le_mul_left 13 p1
        omega
theorem text_len {ls : List Tx} (h : ∀ l ∈ ls, l.length ≤ 70) : (ls.flatMap fun l => l ++ [10]).length ≤ 71 * ls.length := by
  induction ls with
  | nil => simp
  | cons l ls ih =>
    have h1 := h l (by simp)
    have h2 := ih fun x hx => h x (by simp [hx])
    rw [List.flatMap_cons, List.length_append, List.length_append]
    simp only [List.length_cons, List.length_nil]
    omega
theorem note_len {f : Nat → Nat} {ls : List Tx} (h : ∀ l ∈ ls, l.length ≤ 70) : ∀ j, j ≤ ls.length → (noteB f (ls.take j)).length ≤ 90 * j
  | 0, _ => by simp [noteB, notedT]
  | j + 1, hj => by
    have ih := note_len (f := f) h j (by omega)
    have hl := h ls[j] (List.getElem_mem (by omega))
    rw [List.take_succ_eq_append_getElem (by omega), noteB_snoc, List.length_append, List.length_append, List.length_append]
    have hn : (if f (ls.take j).length = 1 then noteT ++ [10] else if f (ls.take j).length = 2 then [32, 10, 32] else []).length ≤ 9 := by
      split
      · decide
      · split <;> decide
    have e2 : ([32, 10] : Tx).length = 2 := rfl
    omega
theorem lines_few {m : Img} (hs : m.sec.length = m.data.length) : (linesT m).length = m.data.length + m.inn.length + m.out.length + m.code.length := by
  unfold linesT
  rw [List.length_append, List.length_append, List.length_append, List.length_map, List.length_map, List.length_map, List.length_map, List.length_zip]
  omega
/-- Which note stands ahead of a line. -/
def fNote (l : List Int) (i : Nat) : Nat := if i < l.length then (byAt l i).toNat % 3 else 0
theorem tex_no {m : Img} (h : (texS m).1 ≠ 0) : (texS m).2 = [] := by
  unfold texS at *
  by_cases hk : chkI m = 0
  · rw [if_neg (fun q => q hk)] at h ⊢
    cases hq : m.code.find? (fun w => decide (cErr w ≠ 0)) with
    | some w => rfl
    | none => rw [hq] at h; exact absurd rfl h
  · rw [if_pos hk]
/-- A row of the call's own, of so many. -/
theorem OwnEl.atn {α : Type} [Inhabited α] {K : Kd α} {w : World} {base m : Nat} {e : TypeId} {v : Value} {l : List α} (h : OwnEl K w base e v l) (hm : l.length = m) : ∃ a c, v = .slice a m c ∧ ElAt K w a m c l := by
  obtain ⟨a, c, e, h⟩ := h.at
  rw [hm] at e h
  exact ⟨a, c, e, h⟩
theorem cat_txt (a b : Tx) : txt a ++ txt b = txt (a ++ b) := by
  apply str_ext
  rw [ByteArray.data_append, Array.toList_append, txt_list, txt_list, txt_list]
end

end Go.Proofs.YtekhgidbnpfmnaaGreatDoor
