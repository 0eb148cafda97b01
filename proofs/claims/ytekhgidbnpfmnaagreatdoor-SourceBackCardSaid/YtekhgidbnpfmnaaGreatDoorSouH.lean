/- Package source's reader: a line that may go to a name, any other, any line. -/
import Derived.Test.YtekhgidbnpfmnaaGreatDoorSouM
import Derived.Test.YtekhgidbnpfmnaaGreatDoorCodE
namespace Go.Proofs.YtekhgidbnpfmnaaGreatDoor
open Go.RowKit

section
open Go.RowKit Go.Maps Go.IntWalk

section
variable {w0 w : World} {R M t A : Nat} {F : Nat → Prop} {n : Int} {vc vd vs vi vo va : Value} {s : Sst} {ws : List Tx}
theorem souCutP_is (l : Tx) (w : World) :
    Calls Tryz.prog 107 #[.string (txt l), .string ⟨#[64]⟩] w fun e w' => e = .returned (.tuple #[.string (txt (Lib.trimPrefix l [64])), .bool (Lib.hasPrefix l [64])]) ∧ w = w' := by
  refine (strings_CutPrefix (txt l) ⟨#[64]⟩ w).mono ?_
  rintro e w' ⟨rfl, rfl⟩
  rw [txt_list]
  exact ⟨rfl, rfl⟩
theorem lastW_at {m : Nat} (h : ws.length = m + 1) : wAt ws m = lastW ws := by
  unfold wAt lastW
  rw [List.getLast?_eq_getElem?, List.getD_eq_getElem?_getD, h]
  rfl
/-- The last word is another. -/
theorem WdAt.put (h : WdAt w0 w A ws) {m : Nat} (hm : ws.length = m + 1) (u : Tx) : WdAt w0 (w.setCell ⟨A, m, none⟩ (.string (txt u))) A (ws.dropLast ++ [u]) := by
  unfold WdAt at *
  have e : (ws.map txt).set m (txt u) = (ws.dropLast ++ [u]).map txt := by
    apply List.ext_getElem?
    intro i
    rw [List.getElem?_set, List.getElem?_map, List.getElem?_map]
    by_cases hi : m = i
    · subst hi
      rw [if_pos rfl, if_pos (by rw [List.length_map]; omega), List.getElem?_append_right (by simp; omega)]
      simp [hm]
    · rw [if_neg hi]
      by_cases hl : i < m
      · rw [List.getElem?_append_left (by simp; omega), List.getElem?_dropLast, if_pos (by omega)]
      · rw [List.getElem?_eq_none (by omega), List.getElem?_eq_none (by simp; omega)]
  have hl : (ws.dropLast ++ [u]).length = ws.length := by simp [hm]
  rw [hl, ← e]
  have := OwnEl.set h (by simp) (i := m) (j := 0) (by omega) (by decide) (x := txt u) (u := .string (txt u)) rfl
  simpa [strK] using this
theorem RdAt.put (h : RdAt w0 w R M t F n vc vd vs vi vo va s) (hW : WdAt w0 w A ws) (hF : ¬ F A) (hM : A ≠ M) (k : Nat) (u : Value) : RdAt w0 (w.setCell ⟨A, k, none⟩ u) R M t F n vc vd vs vi vo va s := by
  refine h.kept (Keeps.set1 w A k u) (fun e => own_off_type hW h.blk (by decide) (by rw [← e]; rfl)) (fun e => hM e.symm) ?_ (fun j q e => hF (e ▸ q)) (fun j e => e ▸ hW.low.1)
  intro v hv j q e
  subst e
  have hx : (Value.slice (some ⟨j, 0, none⟩) ws.length ws.length).ownBlock = some j := rfl
  simp only [List.mem_cons, List.not_mem_nil, or_false] at hv
  rcases hv with rfl | rfl | rfl | rfl | rfl | rfl
  · exact own_two h.code hW (by decide) j q hx
  · exact own_two h.data hW (by decide) j q hx
  · exact own_two h.sec hW (by decide) j q hx
  · exact own_two h.inn hW (by decide) j q hx
  · exact own_two h.out hW (by decide) j q hx
  · exact own_two h.aims hW (by decide) j q hx
theorem sub_one (hs : wsum ws < 1000000) {m : Nat} (hm : ws.length = m + 1) : wrap64 (m : Int) = (m : Int) := by
  have := len_wsum ws
  unfold wrap64
  omega
theorem pre_drop {l : Tx} (h : l.head? = some 64) : Lib.trimPrefix l [64] = l.drop 1 := (pre_is l 64).2 h
theorem infoAim : (Tryz.prog.info? 100).map (fun i => (i.zero, i.size, i.bytes)) = some (some (.agg #[.string ⟨#[]⟩, .int .i64 0, .int .i64 0]), 3, 32) := by kernel_rfl
set_option maxRecDepth 100000 in
set_option maxHeartbeats 2000000 in
theorem souJump_plain (h : RdAt w0 w R M t F n vc vd vs vi vo va s) (hW : WdAt w0 w A ws) (hws : ∀ u ∈ ws, u ≠ [] ∧ ∀ x ∈ u, x ≠ 32) (hL : LinLaid w0) (hs : wsum ws < 1000000) (hn : s.ins.length ≤ 1000000) {m : Nat} (hm : ws.length = m + 1) (hp : (lastW ws).head? ≠ some 64) :
    Calls Tryz.prog 72 #[.pointer (some ⟨R, 0, none⟩), .slice (some ⟨A, 0, none⟩) (m + 1) (m + 1)] w (TakeTo w0 R M t n (insS s ws)) := by
  have hI := souInstr_is h hW hws hL hs hn
  rw [hm] at hI
  have HI := Lib.hid hI
  have cm := hW.cell (i := m) (by omega)
  rw [lastW_at hm] at cm
  have hC := souCutP_is (lastW ws) w
  rw [(pre_is (lastW ws) 64).1, decide_eq_false hp] at hC
  have HC := Lib.hid hC
  have hsub := sub_one hs hm
  clear h hW hws hL hs hn hp hI hC
  generalize insS s ws = r at *
  clear hm
  go_enter Tryz.func72, Tryz.ntmps72
  go_wp2_with (first
    | (go_at_call 107; ((with_reducible refine (HC.out).mono ?_); rintro e w1 ⟨rfl, rfl⟩))
    | (go_at_call 78; ((with_reducible refine (HI.out).mono ?_); intro e w1 hr; obtain ⟨k, rfl, hk⟩ := hr.int; have HR := Lib.hid hk; clear hr hk)))
  go_ret
  exact HR.out
set_option maxRecDepth 100000 in
set_option maxHeartbeats 2000000 in
theorem souJump_bad (h : RdAt w0 w R M t F n vc vd vs vi vo va s) (hW : WdAt w0 w A ws) (hF : ¬ F A) (hM : A ≠ M) (hws : ∀ u ∈ ws.dropLast ++ [[48]], u ≠ [] ∧ ∀ x ∈ u, x ≠ 32) (hL : LinLaid w0) (hs : wsum ws < 1000000) (hs2 : wsum (ws.dropLast ++ [[48]]) < 1000000) (hn : s.ins.length ≤ 1000000) {m : Nat} (hm : ws.length = m + 1) (hp : (lastW ws).head? = some 64) (he : pErr (ws.dropLast ++ [[48]]) ≠ 0) :
    Calls Tryz.prog 72 #[.pointer (some ⟨R, 0, none⟩), .slice (some ⟨A, 0, none⟩) (m + 1) (m + 1)] w (TakeTo w0 R M t n (.error (pErr (ws.dropLast ++ [[48]])))) := by
  have hI := souInstr_is (h.put hW hF hM m (.string (txt [48]))) (hW.put hm [48]) hws hL hs2 hn
  rw [show (ws.dropLast ++ [([48] : Tx)]).length = m + 1 by simp [hm], show txt [48] = ⟨#[48]⟩ from rfl] at hI
  unfold insS at hI
  rw [if_pos he] at hI
  have HI := Lib.hid hI
  have cm := hW.cell (i := m) (by omega)
  have fm := hW.free m
  rw [lastW_at hm] at cm
  have hC := souCutP_is (lastW ws) w
  rw [(pre_is (lastW ws) 64).1, decide_eq_true hp] at hC
  have HC := Lib.hid hC
  have hsub := sub_one hs hm
  generalize pErr (ws.dropLast ++ [[48]]) = z at *
  have hz : (z == 0) = false := by simpa using he
  clear h hW hws hL hs hs2 hn hp hI hC hF hM he
  clear hm
  go_enter Tryz.func72, Tryz.ntmps72
  go_wp2_with (first
    | (go_at_call 107; ((with_reducible refine (HC.out).mono ?_); rintro e w1 ⟨rfl, rfl⟩))
    | (go_at_call 78; ((with_reducible refine (HI.out).mono ?_); rintro e w1 ⟨rfl, hk⟩; have HR := Lib.hid hk; clear hk)))
  go_ret
  exact ⟨rfl, HR.out⟩
set_option maxRecDepth 100000 in
set_option maxHeartbeats 2000000 in
theorem souJump_named {k : Nat} (h : RdAt w0 w R M t F (k : Int) vc vd vs vi vo va s) (hW : WdAt w0 w A ws) (hF : ¬ F A) (hM : A ≠ M) (hws : ∀ u ∈ ws.dropLast ++ [[48]], u ≠ [] ∧ ∀ x ∈ u, x ≠ 32) (hL : LinLaid w0) (hs : wsum ws < 1000000) (hs2 : wsum (ws.dropLast ++ [[48]]) < 1000000) (hn : s.ins.length ≤ 1000000) (hu : s.us.length ≤ 1000000) {m : Nat} (hm : ws.length = m + 1) (hp : (lastW ws).head? = some 64) (he : pErr (ws.dropLast ++ [[48]]) = 0) (hlast : (lastW ws).length ≤ 1000000) :
    Calls Tryz.prog 72 #[.pointer (some ⟨R, 0, none⟩), .slice (some ⟨A, 0, none⟩) (m + 1) (m + 1)] w (TakeTo w0 R M t (k : Int) (match insS s (ws.dropLast ++ [[48]]) with
      | .error e => .error e
      | .ok s1 => if nameB (txt ((lastW ws).drop 1)) = true then .ok { s1 with us := s1.us ++ [(txt ((lastW ws).drop 1), k, s.ins.length)] } else .error 3)) := by
  have hI := souInstr_is (h.put hW hF hM m (.string (txt [48]))) (hW.put hm [48]) hws hL hs2 hn
  rw [show (ws.dropLast ++ [([48] : Tx)]).length = m + 1 by simp [hm], show txt [48] = ⟨#[48]⟩ from rfl] at hI
  obtain ⟨q5, hq⟩ : ∃ q5, insS s (ws.dropLast ++ [[48]]) = .ok { s with ins := s.ins ++ [q5] } := ⟨_, by unfold insS; rw [if_neg (fun q => q he)]⟩
  rw [hq] at hI ⊢
  have HI := Lib.hid hI
  have cm := hW.cell (i := m) (by omega)
  have fm := hW.free m
  rw [lastW_at hm] at cm
  have hC := souCutP_is (lastW ws) w
  rw [(pre_is (lastW ws) 64).1, decide_eq_true hp, pre_drop hp] at hC
  have HC := Lib.hid hC
  have hsub := sub_one hs hm
  have hsz : (txt ((lastW ws).drop 1)).size ≤ maxLen := by rw [txt_size, List.length_drop]; unfold maxLen; omega
  generalize txt ((lastW ws).drop 1) = nm at *
  have HN := Lib.hid fun w => labIs_is nm w hsz
  simp only
  have hinl : s.ins.length ≤ 1000000 := hn
  clear h hW hws hL hs hs2 hn hp hI hC hF hM he hq hsz hm hlast
  cases hb : nameB nm
  · rw [hb] at HN
    rw [if_neg (by decide)]
    go_enter Tryz.func72, Tryz.ntmps72
    go_wp2_with (first
      | (go_at_call 107; ((with_reducible refine (HC.out).mono ?_); rintro e w1 ⟨rfl, rfl⟩))
      | (go_at_call 78; ((with_reducible refine (HI.out).mono ?_); rintro e w1 ⟨F1, vc1, vd1, vs1, vi1, vo1, va1, rfl, hk⟩; have HR := Lib.hid hk; clear hk))
      | (go_at_call 76; ((with_reducible refine (HN.out _).mono ?_); rintro e w2 ⟨rfl, rfl⟩)))
    go_ret
    exact ⟨rfl, HR.out.blk.cell 1, HR.out.bel⟩
  · rw [hb] at HN
    rw [if_pos rfl]
    obtain ⟨i0, hi, hz0, hz1, hz2⟩ := info_el infoAim
    go_enter Tryz.func72, Tryz.ntmps72
    go_wp2_with (first
      | (go_at_call 107; ((with_reducible refine (HC.out).mono ?_); rintro e w1 ⟨rfl, rfl⟩))
      | (go_at_call 78; ((with_reducible refine (HI.out).mono ?_); rintro e w1 ⟨F1, vc1, vd1, vs1, vi1, vo1, va1, rfl, hk⟩; have HR := Lib.hid hk; clear hk))
      | (go_at_call 76; ((with_reducible refine (HN.out _).mono ?_); rintro e w2 ⟨rfl, rfl⟩)))
    obtain ⟨a2, c2, e2, -⟩ := OwnEl.at HR.out.code
    rw [show (List.map encQ (s.ins ++ [q5])).length = s.ins.length + 1 by simp] at e2
    subst e2
    have HD := Lib.hid (HR.out.keep ((Below.refl _ w1).drew))
    have d1 : w1.drew.cell? ⟨R, 1, none⟩ = some (.int .i64 (k : Int)) := HD.out.blk.cell 1
    have d2 : w1.drew.cell? ⟨R, 2, none⟩ = some (.slice a2 (s.ins.length + 1) c2) := HD.out.blk.cell 2
    have d8 : w1.drew.cell? ⟨R, 8, none⟩ = some va1 := HD.out.blk.cell 8
    have hsz := HD.out.sz
    have hw1 : IntKind.i64.wrap (s.ins.length : Int) = (s.ins.length : Int) := i64_in _ (by omega)
    have B3 := Lib.hid ((Below.refl w1.drew.heap.size w1.drew).alloc (Nat.le_refl _) (.cells #[.string nm, .int .i64 (k : Int), .int .i64 (s.ins.length : Int)] 100))
    have D3 := Lib.hid (HD.out.keep B3.out)
    have d8' : (w1.alloc (.cells #[.string nm, .int .i64 (k : Int), .int .i64 (s.ins.length : Int)] 100)).drew.cell? ⟨R, 8, none⟩ = some va1 := D3.out.blk.cell 8
    have d8'' : (w1.alloc (.cells #[.string nm, .int .i64 (k : Int), .int .i64 (s.ins.length : Int)] 100)).cell? ⟨R, 8, none⟩ = some va1 := D3.out.blk.cell 8
    have E3 := Lib.hid (one_el (K := aimK) (b := w1.heap.size) w1.drew 100 (nm, k, s.ins.length) #[.string nm, .int .i64 (k : Int), .int .i64 (s.ins.length : Int)] rfl rfl)
    go_region_law (refine step_append_el1 rfl _ _ 46 rfl w0.heap.size 100 i0 _ Tryz.underlying46 hi hz0 hz1 (by omega) rfl rfl D3.out.aims rfl E3.out (by show s.us.length + 1 ≤ 1048576; omega) (D3.out.sz) ?_; intro v4 w4 hown4 hgrow4 hnext4; obtain ⟨a4, n4, c4', rfl⟩ := OwnEl.shape hown4; have hbk : BlkAt R 48 _ w4 := D3.out.blk.kept (Keeps.of_grown (F := fun j => va1.ownBlock = some j) hgrow4 fun _ q => q) (own_off_type D3.out.aims D3.out.blk (by decide)); have q4 := hbk.cell 8; have p4 := hbk.free 8; have H4 := Lib.hid (D3.out.grow_aims hown4 hgrow4 hnext4); clear hown4 hgrow4 hnext4 hbk)
    all_goals
      go_wp2
      go_ret
      exact ⟨_, _, _, _, _, _, _, rfl, H4.out⟩
end
end

section
open Go.RowKit Go.Maps Go.IntWalk

section
variable {w0 w : World} {R M t A : Nat} {F : Nat → Prop} {n : Int} {vc vd vs vi vo va : Value} {s : Sst} {ws : List Tx}
theorem souCutS_is (l : Tx) (w : World) (hl : l.length ≤ 1000000) :
    Calls Tryz.prog 75 #[.string (txt l), .string ⟨#[58]⟩] w fun e w' => e = .returned (.tuple #[.string (txt (Lib.trimSuffix l [58])), .bool (Lib.hasSuffix l [58])]) ∧ w = w' := by
  refine (strings_CutSuffix (txt l) ⟨#[58]⟩ w (by rw [txt_size]; omega)).mono ?_
  rintro e w' ⟨rfl, rfl⟩
  rw [txt_list]
  exact ⟨rfl, rfl⟩
theorem souPre_is (l : Tx) (w : World) :
    Calls Tryz.prog 43 #[.string (txt l), .string ⟨#[35]⟩] w fun e w' => e = .returned (.bool (decide (l.head? = some 35))) ∧ w = w' := by
  refine (strings_HasPrefix (txt l) ⟨#[35]⟩ w).mono ?_
  rintro e w' ⟨rfl, rfl⟩
  rw [txt_list, ← (pre_is l 35).1]
  exact ⟨rfl, rfl⟩
set_option maxRecDepth 100000 in
set_option maxHeartbeats 2000000 in
/-- No name that gets a place: an instruction. -/
theorem souOther_no (h : RdAt w0 w R M t F n vc vd vs vi vo va s) (hW : WdAt w0 w A ws) (hws : ∀ u ∈ ws, u ≠ [] ∧ ∀ x ∈ u, x ≠ 32) (hL : LinLaid w0) (hs : wsum ws < 1000000) (hn : s.ins.length ≤ 1000000) (h0 : 0 < ws.length) (hl : (wAt ws 0).length ≤ 1000000)
    (hc : ¬ (ws.length = 1 ∧ (wAt ws 0).getLast? = some 58 ∧ nameB (txt (wAt ws 0).dropLast) = true)) :
    Calls Tryz.prog 44 #[.pointer (some ⟨R, 0, none⟩), .slice (some ⟨A, 0, none⟩) ws.length ws.length] w (TakeTo w0 R M t n (insS s ws)) := by
  have HI := Lib.hid (souInstr_is h hW hws hL hs hn)
  have c0 := hW.cell h0
  have HC := Lib.hid (souCutS_is (wAt ws 0) w hl)
  rw [(suf_is (wAt ws 0) 58).1] at HC
  by_cases h1 : (wAt ws 0).getLast? = some 58
  · rw [decide_eq_true h1, (suf_is (wAt ws 0) 58).2 h1] at HC
    by_cases h2 : ws.length = 1
    · have h3 : nameB (txt (wAt ws 0).dropLast) = false := by
        false_or_by_contra
        rename_i q
        exact hc ⟨h2, h1, by simpa using q⟩
      have hsz : (txt (wAt ws 0).dropLast).size ≤ maxLen := by rw [txt_size, List.length_dropLast]; unfold maxLen; omega
      have HN := Lib.hid fun w => labIs_is (txt (wAt ws 0).dropLast) w hsz
      rw [h3] at HN
      generalize txt (wAt ws 0).dropLast = nm at *
      generalize insS s ws = r at *
      clear hc h hW hws hL hs hn h1 h3 hsz hl h0
      generalize ws.length = m at *
      subst h2
      go_enter Tryz.func44, Tryz.ntmps44
      go_wp2_with (first
        | (go_at_call 75; ((with_reducible refine (HC.out).mono ?_); rintro e w1 ⟨rfl, rfl⟩))
        | (go_at_call 76; ((with_reducible refine (HN.out _).mono ?_); rintro e w2 ⟨rfl, rfl⟩))
        | (go_at_call 78; ((with_reducible refine (HI.out).mono ?_); intro e w1 hr; obtain ⟨k, rfl, hk⟩ := hr.int; have HR := Lib.hid hk; clear hr hk)))
      go_ret
      exact HR.out
    · have h2' : ((ws.length : Int) == 1) = false := beq_eq_false_iff_ne.2 (by omega)
      generalize txt (wAt ws 0).dropLast = nm at *
      generalize insS s ws = r at *
      clear hc h hW hws hL hs hn h1 hl h2
      generalize ws.length = m at *
      go_enter Tryz.func44, Tryz.ntmps44
      go_wp2_with (first
        | (go_at_call 75; ((with_reducible refine (HC.out).mono ?_); rintro e w1 ⟨rfl, rfl⟩))
        | (go_at_call 78; ((with_reducible refine (HI.out).mono ?_); intro e w1 hr; obtain ⟨k, rfl, hk⟩ := hr.int; have HR := Lib.hid hk; clear hr hk)))
      go_ret
      exact HR.out
  · rw [decide_eq_false h1] at HC
    generalize insS s ws = r at *
    clear hc h hW hws hL hs hn h1 hl
    generalize ws.length = m at *
    go_enter Tryz.func44, Tryz.ntmps44
    go_wp2_with (first
      | (go_at_call 75; ((with_reducible refine (HC.out).mono ?_); rintro e w1 ⟨rfl, rfl⟩))
      | (go_at_call 78; ((with_reducible refine (HI.out).mono ?_); intro e w1 hr; obtain ⟨k, rfl, hk⟩ := hr.int; have HR := Lib.hid hk; clear hr hk)))
    go_ret
    exact HR.out
set_option maxRecDepth 100000 in
set_option maxHeartbeats 2000000 in
/-- A name that gets a place. -/
theorem souOther_yes (h : RdAt w0 w R M t F n vc vd vs vi vo va s) (hW : WdAt w0 w A ws) (hd : s.ds.length ≤ 1000000) (hl : (wAt ws 0).length ≤ 1000000)
    (h2 : ws.length = 1) (h1 : (wAt ws 0).getLast? = some 58) (h3 : nameB (txt (wAt ws 0).dropLast) = true) :
    Calls Tryz.prog 44 #[.pointer (some ⟨R, 0, none⟩), .slice (some ⟨A, 0, none⟩) ws.length ws.length] w (TakeTo w0 R M t n (if plB s.ds (txt (wAt ws 0).dropLast) = true then .error 9 else .ok { s with ds := defS s.ds (txt (wAt ws 0).dropLast) s.ins.length })) := by
  have c0 := hW.cell (i := 0) (by omega)
  have HC := Lib.hid (souCutS_is (wAt ws 0) w hl)
  rw [(suf_is (wAt ws 0) 58).1, decide_eq_true h1, (suf_is (wAt ws 0) 58).2 h1] at HC
  have hsz : (txt (wAt ws 0).dropLast).size ≤ maxLen := by rw [txt_size, List.length_dropLast]; unfold maxLen; omega
  have HN := Lib.hid fun w => labIs_is (txt (wAt ws 0).dropLast) w hsz
  rw [h3] at HN
  generalize txt (wAt ws 0).dropLast = nm at *
  have HD := Lib.hid (labDefine_is w0.heap.size t s.ds [] F nm s.ins.length _ (h.keep ((Below.refl _ _).drew)).lab hsz (by simpa using hd) h.sz)
  have H := Lib.hid h
  obtain ⟨a2, c2, e2, -⟩ := OwnEl.at h.code
  rw [List.length_map] at e2
  have k2 : w.cell? ⟨R, 2, none⟩ = some vc := h.blk.cell 2
  have k7 : w.cell? ⟨R, 7, none⟩ = some (.pointer (some ⟨t, 0, none⟩)) := h.blk.cell 7
  rw [e2] at k2
  have HE : (if plB s.ds nm = true then Except.error (9 : Int) else .ok { s with ds := defS s.ds nm s.ins.length }) = if defE s.ds nm = 0 then .ok { s with ds := defS s.ds nm s.ins.length } else .error (defE s.ds nm) := by
    unfold defE
    rw [h3]
    cases plB s.ds nm <;> rfl
  rw [HE]
  obtain ⟨z, hz⟩ : ∃ z, defE s.ds nm = z := ⟨_, rfl⟩
  rw [hz] at HD ⊢
  obtain ⟨r, hr⟩ : ∃ r, (if z = 0 then Except.ok { s with ds := defS s.ds nm s.ins.length } else Except.error z) = r := ⟨_, rfl⟩
  rw [hr]
  have HR := Lib.hid hr
  clear h hW hl h1 h3 hsz HE hz hd hr
  generalize ws.length = m at *
  subst h2
  go_enter Tryz.func44, Tryz.ntmps44
  go_wp2_with (first
    | (go_at_call 75; ((with_reducible refine (HC.out).mono ?_); rintro e w1 ⟨rfl, rfl⟩))
    | (go_at_call 76; ((with_reducible refine (HN.out _).mono ?_); rintro e w2 ⟨rfl, rfl⟩)))
  go_still_tail 11, (by kernel_rfl)
  go_wp2_with (go_at_call 77; ((with_reducible refine (HD.out).mono ?_); rintro e w2 ⟨F', rfl, hI, hG⟩; have HI := Lib.hid hI; have HG := Lib.hid hG; clear hI hG))
  go_ret
  have h2 := (H.out.keep ((Below.refl _ _).drew)).told HI.out HG.out
  rw [← HR.out]
  by_cases hz : z = 0
  · subst hz
    rw [if_pos rfl]
    exact ⟨_, _, _, _, _, _, _, rfl, h2⟩
  · rw [if_neg hz]
    exact ⟨rfl, h2.blk.cell 1, h2.bel⟩
end
end

section
open Go.RowKit Go.Maps Go.IntWalk

section
variable {w0 w : World} {R M t A : Nat} {F : Nat → Prop} {n : Int} {vc vd vs vi vo va : Value} {s : Sst} {ws : List Tx}
set_option maxRecDepth 100000 in
set_option maxHeartbeats 2000000 in
theorem souTake_none (h : RdAt w0 w R M t F n vc vd vs vi vo va s) :
    Calls Tryz.prog 18 #[.pointer (some ⟨R, 0, none⟩), .slice (some ⟨A, 0, none⟩) 0 0] w (TakeTo w0 R M t n (.ok s)) := by
  have H := Lib.hid h
  clear h
  go_enter Tryz.func18, Tryz.ntmps18
  go_wp2
  go_ret
  exact ⟨_, _, _, _, _, _, _, rfl, H.out⟩
set_option maxRecDepth 100000 in
set_option maxHeartbeats 2000000 in
theorem souTake_note (h : RdAt w0 w R M t F n vc vd vs vi vo va s) (hW : WdAt w0 w A ws) (h0 : 0 < ws.length) (hh : (wAt ws 0).head? = some 35) :
    Calls Tryz.prog 18 #[.pointer (some ⟨R, 0, none⟩), .slice (some ⟨A, 0, none⟩) ws.length ws.length] w (TakeTo w0 R M t n (.ok s)) := by
  have H := Lib.hid h
  have c0 := hW.cell h0
  have HP := Lib.hid fun w => souPre_is (wAt ws 0) w
  rw [decide_eq_true hh] at HP
  have hz : ((ws.length : Int) == 0) = false := beq_eq_false_iff_ne.2 (by omega)
  clear h hW hh
  generalize ws.length = m at *
  go_enter Tryz.func18, Tryz.ntmps18
  go_wp2_with (go_at_call 43; ((with_reducible refine (HP.out _).mono ?_); rintro e w1 ⟨rfl, rfl⟩))
  go_ret
  exact ⟨_, _, _, _, _, _, _, rfl, H.out⟩
set_option maxRecDepth 100000 in
set_option maxHeartbeats 2000000 in
theorem souTake_open (h : RdAt w0 w R M t F n vc vd vs vi vo va s) (hW : WdAt w0 w A ws) (h0 : 0 < ws.length) (hh : (wAt ws 0).head? ≠ some 35) (hl : (wAt ws 0).length ≤ 1000000) (hr : (txt (wAt ws 0), 68) ∈ dRows) (r : Except Int Sst)
    (C : ∀ W, Below w.heap.size w W → Calls Tryz.prog 68 #[.pointer (some ⟨R, 0, none⟩), .slice (some ⟨A, 0, none⟩) ws.length ws.length] W (TakeTo w0 R M t n r)) :
    Calls Tryz.prog 18 #[.pointer (some ⟨R, 0, none⟩), .slice (some ⟨A, 0, none⟩) ws.length ws.length] w (TakeTo w0 R M t n r) := by
  have HC := Lib.hid C
  have c0 := hW.cell h0
  have k0 : w.cell? ⟨R, 0, none⟩ = some (.map (some M)) := h.blk.cell 0
  have HP := Lib.hid fun w => souPre_is (wAt ws 0) w
  rw [decide_eq_false hh] at HP
  have hz : ((ws.length : Int) == 0) = false := beq_eq_false_iff_ne.2 (by omega)
  have hsz : (txt (wAt ws 0)).size ≤ maxLen := by rw [txt_size]; unfold maxLen; omega
  have l0 := h.map.look hr hsz
  have l1 := (h.keep ((Below.refl _ _).drew)).map.look hr hsz
  clear h hW hh C hr hl hsz
  generalize ws.length = m at *
  go_enter Tryz.func18, Tryz.ntmps18
  go_wp2_with (go_at_call 43; ((with_reducible refine (HP.out _).mono ?_); rintro e w1 ⟨rfl, rfl⟩))
  go_region
  go_wp2_with (go_at_call 68; ((with_reducible refine (HC.out _ ((Below.refl _ _).drew)).mono ?_); intro e w1 hr; obtain ⟨k, rfl, hk⟩ := hr.int; have HR := Lib.hid hk; clear hr hk))
  go_ret
  exact HR.out
set_option maxRecDepth 100000 in
set_option maxHeartbeats 2000000 in
theorem souTake_secret (h : RdAt w0 w R M t F n vc vd vs vi vo va s) (hW : WdAt w0 w A ws) (h0 : 0 < ws.length) (hh : (wAt ws 0).head? ≠ some 35) (hl : (wAt ws 0).length ≤ 1000000) (hr : (txt (wAt ws 0), 69) ∈ dRows) (r : Except Int Sst)
    (C : ∀ W, Below w.heap.size w W → Calls Tryz.prog 69 #[.pointer (some ⟨R, 0, none⟩), .slice (some ⟨A, 0, none⟩) ws.length ws.length] W (TakeTo w0 R M t n r)) :
    Calls Tryz.prog 18 #[.pointer (some ⟨R, 0, none⟩), .slice (some ⟨A, 0, none⟩) ws.length ws.length] w (TakeTo w0 R M t n r) := by
  have HC := Lib.hid C
  have c0 := hW.cell h0
  have k0 : w.cell? ⟨R, 0, none⟩ = some (.map (some M)) := h.blk.cell 0
  have HP := Lib.hid fun w => souPre_is (wAt ws 0) w
  rw [decide_eq_false hh] at HP
  have hz : ((ws.length : Int) == 0) = false := beq_eq_false_iff_ne.2 (by omega)
  have hsz : (txt (wAt ws 0)).size ≤ maxLen := by rw [txt_size]; unfold maxLen; omega
  have l0 := h.map.look hr hsz
  have l1 := (h.keep ((Below.refl _ _).drew)).map.look hr hsz
  clear h hW hh C hr hl hsz
  generalize ws.length = m at *
  go_enter Tryz.func18, Tryz.ntmps18
  go_wp2_with (go_at_call 43; ((with_reducible refine (HP.out _).mono ?_); rintro e w1 ⟨rfl, rfl⟩))
  go_region
  go_wp2_with (go_at_call 69; ((with_reducible refine (HC.out _ ((Below.refl _ _).drew)).mono ?_); intro e w1 hr; obtain ⟨k, rfl, hk⟩ := hr.int; have HR := Lib.hid hk; clear hr hk))
  go_ret
  exact HR.out
set_option maxRecDepth 100000 in
set_option maxHeartbeats 2000000 in
theorem souTake_in (h : RdAt w0 w R M t F n vc vd vs vi vo va s) (hW : WdAt w0 w A ws) (h0 : 0 < ws.length) (hh : (wAt ws 0).head? ≠ some 35) (hl : (wAt ws 0).length ≤ 1000000) (hr : (txt (wAt ws 0), 70) ∈ dRows) (r : Except Int Sst)
    (C : ∀ W, Below w.heap.size w W → Calls Tryz.prog 70 #[.pointer (some ⟨R, 0, none⟩), .slice (some ⟨A, 0, none⟩) ws.length ws.length] W (TakeTo w0 R M t n r)) :
    Calls Tryz.prog 18 #[.pointer (some ⟨R, 0, none⟩), .slice (some ⟨A, 0, none⟩) ws.length ws.length] w (TakeTo w0 R M t n r) := by
  have HC := Lib.hid C
  have c0 := hW.cell h0
  have k0 : w.cell? ⟨R, 0, none⟩ = some (.map (some M)) := h.blk.cell 0
  have HP := Lib.hid fun w => souPre_is (wAt ws 0) w
  rw [decide_eq_false hh] at HP
  have hz : ((ws.length : Int) == 0) = false := beq_eq_false_iff_ne.2 (by omega)
  have hsz : (txt (wAt ws 0)).size ≤ maxLen := by rw [txt_size]; unfold maxLen; omega
  have l0 := h.map.look hr hsz
  have l1 := (h.keep ((Below.refl _ _).drew)).map.look hr hsz
  clear h hW hh C hr hl hsz
  generalize ws.length = m at *
  go_enter Tryz.func18, Tryz.ntmps18
  go_wp2_with (go_at_call 43; ((with_reducible refine (HP.out _).mono ?_); rintro e w1 ⟨rfl, rfl⟩))
  go_region
  go_wp2_with (go_at_call 70; ((with_reducible refine (HC.out _ ((Below.refl _ _).drew)).mono ?_); intro e w1 hr; obtain ⟨k, rfl, hk⟩ := hr.int; have HR := Lib.hid hk; clear hr hk))
  go_ret
  exact HR.out
set_option maxRecDepth 100000 in
set_option maxHeartbeats 2000000 in
theorem souTake_out (h : RdAt w0 w R M t F n vc vd vs vi vo va s) (hW : WdAt w0 w A ws) (h0 : 0 < ws.length) (hh : (wAt ws 0).head? ≠ some 35) (hl : (wAt ws 0).length ≤ 1000000) (hr : (txt (wAt ws 0), 71) ∈ dRows) (r : Except Int Sst)
    (C : ∀ W, Below w.heap.size w W → Calls Tryz.prog 71 #[.pointer (some ⟨R, 0, none⟩), .slice (some ⟨A, 0, none⟩) ws.length ws.length] W (TakeTo w0 R M t n r)) :
    Calls Tryz.prog 18 #[.pointer (some ⟨R, 0, none⟩), .slice (some ⟨A, 0, none⟩) ws.length ws.length] w (TakeTo w0 R M t n r) := by
  have HC := Lib.hid C
  have c0 := hW.cell h0
  have k0 : w.cell? ⟨R, 0, none⟩ = some (.map (some M)) := h.blk.cell 0
  have HP := Lib.hid fun w => souPre_is (wAt ws 0) w
  rw [decide_eq_false hh] at HP
  have hz : ((ws.length : Int) == 0) = false := beq_eq_false_iff_ne.2 (by omega)
  have hsz : (txt (wAt ws 0)).size ≤ maxLen := by rw [txt_size]; unfold maxLen; omega
  have l0 := h.map.look hr hsz
  have l1 := (h.keep ((Below.refl _ _).drew)).map.look hr hsz
  clear h hW hh C hr hl hsz
  generalize ws.length = m at *
  go_enter Tryz.func18, Tryz.ntmps18
  go_wp2_with (go_at_call 43; ((with_reducible refine (HP.out _).mono ?_); rintro e w1 ⟨rfl, rfl⟩))
  go_region
  go_wp2_with (go_at_call 71; ((with_reducible refine (HC.out _ ((Below.refl _ _).drew)).mono ?_); intro e w1 hr; obtain ⟨k, rfl, hk⟩ := hr.int; have HR := Lib.hid hk; clear hr hk))
  go_ret
  exact HR.out
set_option maxRecDepth 100000 in
set_option maxHeartbeats 2000000 in
theorem souTake_jump (h : RdAt w0 w R M t F n vc vd vs vi vo va s) (hW : WdAt w0 w A ws) (h0 : 0 < ws.length) (hh : (wAt ws 0).head? ≠ some 35) (hl : (wAt ws 0).length ≤ 1000000) (hr : (txt (wAt ws 0), 72) ∈ dRows) (r : Except Int Sst)
    (C : ∀ W, Below w.heap.size w W → Calls Tryz.prog 72 #[.pointer (some ⟨R, 0, none⟩), .slice (some ⟨A, 0, none⟩) ws.length ws.length] W (TakeTo w0 R M t n r)) :
    Calls Tryz.prog 18 #[.pointer (some ⟨R, 0, none⟩), .slice (some ⟨A, 0, none⟩) ws.length ws.length] w (TakeTo w0 R M t n r) := by
  have HC := Lib.hid C
  have c0 := hW.cell h0
  have k0 : w.cell? ⟨R, 0, none⟩ = some (.map (some M)) := h.blk.cell 0
  have HP := Lib.hid fun w => souPre_is (wAt ws 0) w
  rw [decide_eq_false hh] at HP
  have hz : ((ws.length : Int) == 0) = false := beq_eq_false_iff_ne.2 (by omega)
  have hsz : (txt (wAt ws 0)).size ≤ maxLen := by rw [txt_size]; unfold maxLen; omega
  have l0 := h.map.look hr hsz
  have l1 := (h.keep ((Below.refl _ _).drew)).map.look hr hsz
  clear h hW hh C hr hl hsz
  generalize ws.length = m at *
  go_enter Tryz.func18, Tryz.ntmps18
  go_wp2_with (go_at_call 43; ((with_reducible refine (HP.out _).mono ?_); rintro e w1 ⟨rfl, rfl⟩))
  go_region
  go_wp2_with (go_at_call 72; ((with_reducible refine (HC.out _ ((Below.refl _ _).drew)).mono ?_); intro e w1 hr; obtain ⟨k, rfl, hk⟩ := hr.int; have HR := Lib.hid hk; clear hr hk))
  go_ret
  exact HR.out
set_option maxRecDepth 100000 in
set_option maxHeartbeats 2000000 in
theorem souTake_other (h : RdAt w0 w R M t F n vc vd vs vi vo va s) (hW : WdAt w0 w A ws) (h0 : 0 < ws.length) (hh : (wAt ws 0).head? ≠ some 35) (hl : (wAt ws 0).length ≤ 1000000) (hr : txt (wAt ws 0) ∉ dRows.map (·.1)) (r : Except Int Sst)
    (C : ∀ W, Below w.heap.size w W → Calls Tryz.prog 44 #[.pointer (some ⟨R, 0, none⟩), .slice (some ⟨A, 0, none⟩) ws.length ws.length] W (TakeTo w0 R M t n r)) :
    Calls Tryz.prog 18 #[.pointer (some ⟨R, 0, none⟩), .slice (some ⟨A, 0, none⟩) ws.length ws.length] w (TakeTo w0 R M t n r) := by
  have HC := Lib.hid C
  have c0 := hW.cell h0
  have k0 : w.cell? ⟨R, 0, none⟩ = some (.map (some M)) := h.blk.cell 0
  have HP := Lib.hid fun w => souPre_is (wAt ws 0) w
  rw [decide_eq_false hh] at HP
  have hz : ((ws.length : Int) == 0) = false := beq_eq_false_iff_ne.2 (by omega)
  have hsz : (txt (wAt ws 0)).size ≤ maxLen := by rw [txt_size]; unfold maxLen; omega
  have l0 := h.map.look_no hr hsz
  have l1 := (h.keep ((Below.refl _ _).drew)).map.look_no hr hsz
  clear h hW hh C hr hl hsz
  generalize ws.length = m at *
  go_enter Tryz.func18, Tryz.ntmps18
  go_wp2_with (go_at_call 43; ((with_reducible refine (HP.out _).mono ?_); rintro e w1 ⟨rfl, rfl⟩))
  go_region
  go_wp2_with (go_at_call 44; ((with_reducible refine (HC.out _ ((Below.refl _ _).drew)).mono ?_); intro e w1 hr; obtain ⟨k, rfl, hk⟩ := hr.int; have HR := Lib.hid hk; clear hr hk))
  go_ret
  exact HR.out
end
end

section
open Go.RowKit Go.Maps Go.IntWalk

section
variable {w0 w : World} {R M t A : Nat} {F : Nat → Prop} {vc vd vs vi vo va : Value} {s : Sst} {ws : List Tx} {k : Nat}
/-- Few enough. -/
structure Few23 (s : Sst) : Prop where
  ins : s.ins.length ≤ 1000000
  data : s.data.length ≤ 1000000
  sec : s.sec.length ≤ 1000000
  inn : s.inn.length ≤ 1000000
  out : s.out.length ≤ 1000000
  ds : s.ds.length ≤ 1000000
  us : s.us.length ≤ 1000000
theorem wAt_mem {ws : List Tx} {i : Nat} (h : i < ws.length) : wAt ws i ∈ ws := by
  unfold wAt
  rw [List.getD_eq_getElem?_getD, List.getElem?_eq_getElem h]
  exact List.getElem_mem h
theorem opW_len {l : Tx} : (opW (wds l)).length ≤ l.length := by
  unfold opW
  split
  · exact wds_each (wAt_mem (by omega))
  · simp
theorem souJump_is (h : RdAt w0 w R M t F (k : Int) vc vd vs vi vo va s) {l : Tx} (hW : WdAt w0 w A (wds l)) (hF : ¬ F A) (hM : A ≠ M) (hL : LinLaid w0) (hl : l.length ≤ 500000) (hf : Few23 s) (h0 : 0 < (wds l).length) (hg : goesW (wAt (wds l) 0) = true) :
    Calls Tryz.prog 72 #[.pointer (some ⟨R, 0, none⟩), .slice (some ⟨A, 0, none⟩) (wds l).length (wds l).length] w (TakeTo w0 R M t (k : Int) (lineS s (wds l) k)) := by
  have hs := wds_sum l
  have hok : ∀ u ∈ wds l, u ≠ [] ∧ ∀ x ∈ u, x ≠ 32 := fun u hu => wds_ok hu
  have hlast : (lastW (wds l)).length ≤ l.length := wds_each (last_mem (fun e => by rw [e] at h0; simp at h0))
  obtain ⟨q1, q2, q3⟩ := insW_ok hok
  obtain ⟨m, hm⟩ : ∃ m, (wds l).length = m + 1 := ⟨(wds l).length - 1, by omega⟩
  rw [lineS_goes hg]
  generalize wds l = ws at *
  obtain ⟨-, -, hh, -⟩ := goes_plain hg
  have hnm : namedW ws = decide ((lastW ws).head? = some 64) := by
    unfold namedW
    rw [hg]
    by_cases h1 : 1 < ws.length
    · rw [decide_eq_true h1]; rfl
    · have e : lastW ws = wAt ws 0 := by rw [← lastW_at hm]; rw [show m = 0 by omega]
      rw [decide_eq_false h1, e, decide_eq_false hh]; rfl
  rw [hm]
  by_cases hp : (lastW ws).head? = some 64
  · rw [decide_eq_true hp] at hnm
    have hi : insW' ws = ws.dropLast ++ [[48]] := by unfold insW'; rw [hnm]; rfl
    rw [hi] at q1 q3 ⊢
    rw [hnm]
    simp only [if_true]
    by_cases he : pErr (ws.dropLast ++ [[48]]) = 0
    · exact souJump_named h hW hF hM q1 hL (by omega) (by omega) hf.ins hf.us hm hp he (by omega)
    · have e : insS s (ws.dropLast ++ [[48]]) = .error (pErr (ws.dropLast ++ [[48]])) := by unfold insS; rw [if_pos he]
      rw [e]
      exact souJump_bad h hW hF hM q1 hL (by omega) (by omega) hf.ins hm hp he
  · rw [decide_eq_false hp] at hnm
    have hi : insW' ws = ws := by unfold insW'; rw [hnm]; rfl
    rw [hi, hnm]
    have hJ := souJump_plain h hW hok hL (by omega) hf.ins hm hp
    cases hq : insS s ws with
    | error e => rw [hq] at hJ; exact hJ
    | ok s1 =>
      rw [hq] at hJ
      simp only [Bool.false_eq_true, if_false]
      exact hJ
theorem dRows_no {u : Tx} (h1 : u ≠ wWord) (h2 : u ≠ wSecret) (h3 : u ≠ wIn) (h4 : u ≠ wOut) (hg : goesW u = false) : txt u ∉ dRows.map (·.1) := by
  unfold goesW at hg
  have hg := of_decide_eq_false hg
  intro h
  simp only [dRows, List.map_cons, List.map_nil, List.mem_cons, List.not_mem_nil, or_false] at h
  rcases h with h | h | h | h | h | h | h | h | h
  · exact h1 (txt_inj h)
  · exact h2 (txt_inj h)
  · exact h3 (txt_inj h)
  · exact h4 (txt_inj h)
  · exact hg (.inl (txt_inj h))
  · exact hg (.inr (.inl (txt_inj h)))
  · exact hg (.inr (.inr (.inl (txt_inj h))))
  · exact hg (.inr (.inr (.inr (.inl (txt_inj h)))))
  · exact hg (.inr (.inr (.inr (.inr (txt_inj h)))))
theorem dRows_goes {u : Tx} (hg : goesW u = true) : (txt u, 72) ∈ dRows := by
  unfold goesW at hg
  rcases of_decide_eq_true hg with rfl | rfl | rfl | rfl | rfl
  · exact .tail _ (.tail _ (.tail _ (.tail _ (.head _))))
  · exact .tail _ (.tail _ (.tail _ (.tail _ (.tail _ (.head _)))))
  · exact .tail _ (.tail _ (.tail _ (.tail _ (.tail _ (.tail _ (.head _))))))
  · exact .tail _ (.tail _ (.tail _ (.tail _ (.tail _ (.tail _ (.tail _ (.head _)))))))
  · exact .tail _ (.tail _ (.tail _ (.tail _ (.tail _ (.tail _ (.tail _ (.tail _ (.head _))))))))
/-- A line more. -/
theorem souTake_is (h : RdAt w0 w R M t F (k : Int) vc vd vs vi vo va s) {l : Tx} (hW : WdAt w0 w A (wds l)) (hF : ¬ F A) (hM : A ≠ M) (hL : LinLaid w0) (hl : l.length ≤ 500000) (hf : Few23 s) :
    Calls Tryz.prog 18 #[.pointer (some ⟨R, 0, none⟩), .slice (some ⟨A, 0, none⟩) (wds l).length (wds l).length] w (TakeTo w0 R M t (k : Int) (if skipW (wds l) = true then .ok s else lineS s (wds l) k)) := by
  by_cases h0 : wds l = []
  · rw [h0]
    exact souTake_none h
  · have hp : 0 < (wds l).length := by cases e : wds l with | nil => exact absurd e h0 | cons _ _ => simp
    have hu : (wAt (wds l) 0).length ≤ l.length := wds_each (wAt_mem hp)
    have hopl := opW_len (l := l)
    by_cases hh : (wAt (wds l) 0).head? = some 35
    · have e : skipW (wds l) = true := by unfold skipW; rw [decide_eq_true hh, Bool.or_true]
      rw [if_pos e]
      exact souTake_note h hW hp hh
    · have e : skipW (wds l) = false := by unfold skipW; rw [decide_eq_false hh, decide_eq_false h0]; rfl
      rw [if_neg (by rw [e]; decide)]
      have hs := wds_sum l
      have hok : ∀ u ∈ wds l, u ≠ [] ∧ ∀ x ∈ u, x ≠ 32 := fun u hu => wds_ok hu
      by_cases h1 : wAt (wds l) 0 = wWord
      · rw [show lineS s (wds l) k = _ from (lineS_word h1).trans (dataS s (wds l) false)]
        exact souTake_open h hW hp hh (by omega) (by rw [h1]; exact .head _) _ fun W q => souAdd_open (h.keep q) (hW.keep q) hL (by omega) hf.data hf.sec
      by_cases h2 : wAt (wds l) 0 = wSecret
      · rw [show lineS s (wds l) k = _ from (lineS_secret h2).trans (dataS s (wds l) true)]
        exact souTake_secret h hW hp hh (by omega) (by rw [h2]; exact .tail _ (.head _)) _ fun W q => souAdd_secret (h.keep q) (hW.keep q) hL (by omega) hf.data hf.sec
      by_cases h3 : wAt (wds l) 0 = wIn
      · rw [lineS_in h3, addrS (wds l) fun x => { s with inn := s.inn ++ [x] }]
        exact souTake_in h hW hp hh (by omega) (by rw [h3]; exact .tail _ (.tail _ (.head _))) _ fun W q => souAdd_in (h.keep q) (hW.keep q) hL (by omega) hf.inn
      by_cases h4 : wAt (wds l) 0 = wOut
      · rw [lineS_out h4, addrS (wds l) fun x => { s with out := s.out ++ [x] }]
        exact souTake_out h hW hp hh (by omega) (by rw [h4]; exact .tail _ (.tail _ (.tail _ (.head _)))) _ fun W q => souAdd_out (h.keep q) (hW.keep q) hL (by omega) hf.out
      cases hg : goesW (wAt (wds l) 0)
      · refine souTake_other h hW hp hh (by omega) (dRows_no h1 h2 h3 h4 hg) _ fun W q => ?_
        rw [lineS_other h1 h2 h3 h4 hg]
        by_cases hc : (wds l).length = 1 ∧ (wAt (wds l) 0).getLast? = some 58 ∧ nameB (txt (wAt (wds l) 0).dropLast) = true
        · rw [if_pos hc]
          exact souOther_yes (h.keep q) (hW.keep q) hf.ds (by omega) hc.1 hc.2.1 hc.2.2
        · rw [if_neg hc]
          exact souOther_no (h.keep q) (hW.keep q) hok hL (by omega) hf.ins hp (by omega) hc
      · exact souTake_jump h hW hp hh (by omega) (dRows_goes hg) _ fun W q => souJump_is (h.keep q) (hW.keep q) hF hM hL hl hf hp hg
end
end

end Go.Proofs.YtekhgidbnpfmnaaGreatDoor
