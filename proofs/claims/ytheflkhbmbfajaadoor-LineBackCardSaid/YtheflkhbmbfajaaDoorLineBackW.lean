/- The walk of the law LineBack: it returns true and writes nothing that was there. -/
import Derived.Test.YtheflkhbmbfajaaDoorLinK
import Derived.Test.YtheflkhbmbfajaaDoorBys
namespace Go.Proofs.YtheflkhbmbfajaaDoor.lineBack
open Go.RowKit Go.ChangeShapes Go.OpenShut

set_option maxRecDepth 100000 in
set_option maxHeartbeats 2000000 in
theorem bad (o d a b n z : Int) (s : Value) (w : World) (hz : cChk o d a b n = z) (hne : z ≠ 0) (hL : LinLaid w) :
    Calls Tryd.prog 4 #[.agg #[.int .i64 o, .int .i64 d, .int .i64 a, .int .i64 b, .int .i64 n], s] w fun e w' => e = .returned (.bool true) ∧ Below w.heap.size w w' := by
  have HI := Lib.hid (fun T => InsW.new w w o d a b n T (Below.refl _ _) (Nat.le_refl _))
  have HL := Lib.hid hL
  have HZ := Lib.hid hz
  have HS := Lib.hid (show lineT o d a b n = ⟨#[]⟩ by unfold lineT; rw [hz, if_neg hne])
  have hne' : (z != 0) = true := by simpa using hne
  clear hz hne hL
  go_enter Tryd.func4, Tryd.ntmps4
  go_wp2_with (first
    | (go_at_call 7; ((with_reducible refine (lineText_is o d a b n z _ _ HZ.out HS.out (HL.out.below (HI.out _).below (Nat.le_refl _))).mono ?_); rintro e w1 ⟨rfl, hk⟩); have hI := (HI.out _).keep hk; clear hk)
    | (go_at_call 6; ((with_reducible refine (lineAwake_is _ (HL.out.below hI.below (Nat.le_refl _))).mono ?_); rintro e w2 ⟨rfl, hk⟩); have hI := hI.keep hk; clear hk))
  go_ret
  exact ⟨rfl, hI.below⟩

theorem words_at (l : List UInt8) (ws : List (List UInt8)) (w : World) (hl : l.length < 1000000) (h : wds l = ws) :
    Calls Tryd.prog 14 #[.string (txt l)] w fun e w' => ∃ A, e = .returned (.slice (some ⟨A, 0, none⟩) ws.length ws.length) ∧ (∀ j x, ws[j]? = some x → w'.cell? ⟨A, j, none⟩ = some (.string (txt x))) ∧ Below w.heap.size w w' := by
  refine (lineWords_is (txt l) w (by rw [txt_size]; omega)).mono ?_
  unfold wtx
  rw [txt_list, h]
  rintro e w' ⟨A, rfl, hA, ho, hb⟩
  refine ⟨A, by rw [List.length_map], fun j x hx => ?_, hb⟩
  exact own_text (l := ws.map txt) (by simpa using ho) (by simp [hx])
/-- The text with blanks, behind k words. -/
def TextAt (ws : List (List UInt8)) (k m : Nat) (v : Value) : Prop := ∃ tl, v = .string (txt tl) ∧ Closed tl ∧ wds tl = ws.take k ∧ tl.length ≤ m
theorem TextAt.mono {ws : List (List UInt8)} {k m m' : Nat} {v : Value} (h : TextAt ws k m v) (hm : m ≤ m') : TextAt ws k m' v := by
  obtain ⟨tl, h1, h2, h3, h4⟩ := h
  exact ⟨tl, h1, h2, h3, Nat.le_trans h4 hm⟩
theorem text_blank {tl : List UInt8} {ws : List (List UInt8)} {k : Nat} (h : Closed tl) (hw : wds tl = ws.take k) : wds (tl ++ [32]) = ws.take k := by
  rw [h [32], hw]
  show _ ++ wds [32] = _
  rw [show wds [32] = [] from rfl, List.append_nil]
theorem text_word {tl u : List UInt8} {ws : List (List UInt8)} {k : Nat} (h : Closed tl) (hw : wds tl = ws.take k) (hu : ws[k]? = some u) (hok : u ≠ [] ∧ ∀ x ∈ u, x ≠ 32) : wds (tl ++ u ++ [32]) = ws.take (k + 1) := by
  rw [List.append_assoc, h (u ++ [32]), hw, wds_word_blank hok.2 hok.1, show wds [] = [] from rfl, List.take_add_one, hu]
  rfl
theorem cat_txt (l r : List UInt8) : txt l ++ txt r = txt (l ++ r) := by
  apply str_ext
  rw [txt_list, ByteArray.data_append]
  simp [txt]
set_option maxRecDepth 100000 in
set_option maxHeartbeats 4000000 in
theorem good (o d a b n : Int) (p : Option Addr) (len cap : Nat) (zs : List Int) (w : World) (hz : cChk o d a b n = 0) (hr : By w p len cap zs) (hL : LinLaid w) :
    Calls Tryd.prog 4 #[.agg #[.int .i64 o, .int .i64 d, .int .i64 a, .int .i64 b, .int .i64 n], .slice p len cap] w fun e w' => e = .returned (.bool true) ∧ Below w.heap.size w w' := by
  have HI := Lib.hid (fun T => InsW.new w w o d a b n T (Below.refl _ _) (Nat.le_refl _))
  have HL := Lib.hid hL
  have HZ := Lib.hid hz
  have hwd := wds_line hz
  have hlb := line_back hz
  obtain ⟨hs1, hs2⟩ := line_short hz
  have htw := tells_word (d := d) (a := a) (b := b) (n := n) (chk_op hz) 4
  obtain ⟨jl, hjl⟩ : ∃ jl, Lib.join (lineWs o d a b n) [32] = jl := ⟨_, rfl⟩
  have hlt : lineT o d a b n = txt jl := by unfold lineT; rw [if_pos hz, hjl]
  have hjlen := join_len (m := 12) _ hs2
  rw [hjl] at hjlen
  rw [hlt, txt_list] at hwd
  change ∀ x ∈ lineWs o d a b n, x ≠ [] ∧ ∀ y ∈ x, y ≠ 32 at htw
  generalize hws : lineWs o d a b n = ws at *
  have HT := Lib.hid hlt
  have HW := Lib.hid hwd
  have HB := Lib.hid hlb
  have HS2 := Lib.hid hs2
  have HTW := Lib.hid htw
  have HJ := Lib.hid (show jl.length < 1000000 by omega)
  have hq := eq_ins
  clear hz hL hwd hlb hs2 htw hjl hjlen hlt hws
  go_enter Tryd.func4, Tryd.ntmps4
  go_wp2_with (first
    | (go_at_call 7; ((with_reducible refine (lineText_is o d a b n 0 _ _ HZ.out HT.out (HL.out.below (HI.out _).below (Nat.le_refl _))).mono ?_); rintro e w1 ⟨rfl, hk⟩); have hI := (HI.out _).keep hk; clear hk)
    | (go_at_call 14; ((with_reducible refine (words_at jl ws _ HJ.out HW.out).mono ?_); rintro e w2 ⟨A, rfl, hown, hk⟩); have hI := hI.keep hk; have HO := Lib.hid hown; clear hk hown))
  have HR := Lib.hid (hr.keep hI.below (Nat.le_refl _))
  have HII := Lib.hid hI
  clear hr hI
  have H0 := Lib.hid (show TextAt ws 0 (16 * 0) (.string { data := #[] }) from ⟨[], rfl, closed_nil, rfl, by simp⟩)
  go_loop [8, 9, 10] (fun t i _ => ∃ k : Nat, k ≤ ws.length ∧ i = .int .i64 k ∧ TextAt ws k (16 * k) t) (fun _ i _ => ws.length - (intOf i).toNat)
  case atStart => exact ⟨0, by omega, rfl, H0.out⟩
  case round =>
    obtain ⟨k, hk, rfl, ht⟩ := hrel
    have HTX := Lib.hid ht
    clear ht
    by_cases hlt : k < ws.length
    · have hx : ws[k]? = some ws[k] := List.getElem?_eq_getElem hlt
      have hcell := HO.out k _ hx
      have hokx := HTW.out ws[k] (List.getElem_mem hlt)
      have hlx := HS2.out ws[k] (List.getElem_mem hlt)
      generalize ws[k] = u at *
      have HX := Lib.hid hx
      have HU := Lib.hid hokx
      clear hx hokx
      by_cases hbl : k < len
      · obtain ⟨bb, off, hp, hby⟩ := HR.out.lie (by omega)
        have hb := hby k hbl
        have hbd := HR.out.bd.at (i := k) (by rw [HR.out.len]; exact hbl)
        generalize byAt zs k = y at *
        have HP := Lib.hid hp
        subst hp
        clear hby
        have h1 : 0 ≤ y % 4 := by omega
        have h2 : y % 4 ≤ 3 := by omega
        go_wp2_with fail
        have HT0 := Lib.hid (HTX.out.mono (show 16 * k ≤ 16 * k + (3 - (y % 4)).toNat by omega))
        go_loop [8, 10] (fun t q => ∃ x : Int, 0 ≤ x ∧ x ≤ 3 ∧ q = .int .u8 x ∧ TextAt ws k (16 * k + (3 - x).toNat) t) (fun _ q => (intOf q).toNat)
        case atStart => exact ⟨y % 4, h1, h2, rfl, HT0.out⟩
        case round =>
          obtain ⟨x, x0, x3, rfl, tl, rfl, hc, hw, hl⟩ := hrel
          by_cases hx : 0 < x
          · have hcat := cat_txt tl [32]
            have hsz : ¬ (9223372036854775807 < (txt tl).size + 1) := by rw [txt_size]; omega
            have HN := Lib.hid (show TextAt ws k (16 * k + (3 - (x - 1)).toNat) (.string (txt (tl ++ [32]))) from ⟨_, rfl, closed_blank _, text_blank hc hw, by simp; omega⟩)
            change txt tl ++ { data := #[32] } = _ at hcat
            clear hc hw
            go_wp2_with fail
            go_round
            case rel => exact ⟨x - 1, by omega, by omega, rfl, HN.out⟩
            case measure => simp [intOf]; omega
          · obtain rfl : x = 0 := by omega
            clear hx
            have hc1 := cat_txt tl u
            have hc2 : txt (tl ++ u) ++ ({ data := #[32] } : ByteArray) = txt (tl ++ u ++ [32]) := cat_txt (tl ++ u) [32]
            have hz1 : ¬ (9223372036854775807 < (txt tl).size + (txt u).size) := by rw [txt_size, txt_size]; omega
            have hz2 : ¬ (9223372036854775807 < (txt (tl ++ u)).size + 1) := by rw [txt_size]; simp; omega
            have HN := Lib.hid (show TextAt ws (k + 1) (16 * (k + 1)) (.string (txt (tl ++ (u ++ [32])))) from ⟨tl ++ (u ++ [32]), rfl, by rw [← List.append_assoc]; exact closed_blank _, by rw [← List.append_assoc]; exact text_word hc hw HX.out HU.out, by simp; omega⟩)
            clear hc hw
            go_wp2_with fail
            go_round
            case rel => exact ⟨k + 1, by omega, by go_num, HN.out⟩
            case measure => simp [intOf]; omega
      · obtain ⟨tl, rfl, hc, hw, hl⟩ := HTX.out
        have hc1 := cat_txt tl u
        have hc2 : txt (tl ++ u) ++ ({ data := #[32] } : ByteArray) = txt (tl ++ u ++ [32]) := cat_txt (tl ++ u) [32]
        have hz1 : ¬ (9223372036854775807 < (txt tl).size + (txt u).size) := by rw [txt_size, txt_size]; omega
        have hz2 : ¬ (9223372036854775807 < (txt (tl ++ u)).size + 1) := by rw [txt_size]; simp; omega
        have HN := Lib.hid (show TextAt ws (k + 1) (16 * (k + 1)) (.string (txt (tl ++ (u ++ [32])))) from ⟨tl ++ (u ++ [32]), rfl, by rw [← List.append_assoc]; exact closed_blank _, by rw [← List.append_assoc]; exact text_word hc hw HX.out HU.out, by simp; omega⟩)
        clear hc hw
        go_wp2_with fail
        go_round
        case rel => exact ⟨k + 1, by omega, by go_num, HN.out⟩
        case measure => simp [intOf]; omega
    · obtain rfl : k = ws.length := by omega
      obtain ⟨tl, rfl, hc, hw, hl⟩ := HTX.out
      rw [List.take_of_length_le (Nat.le_refl _)] at hw
      have HWT := Lib.hid hw
      have HTL := Lib.hid (show tl.length < 1000000 by omega)
      clear hc hw hl
      have PB := Lib.hid (fun l (h : wds l = ws) => show pErr (wds l) = 0 ∧ pO (wds l) = o ∧ pF (wds l) 0 = d ∧ pF (wds l) 1 = a ∧ pF (wds l) 2 = b ∧ pF (wds l) 3 = n by rw [h]; exact HB.out)
      have P1 := Lib.hid (PB.out jl HW.out)
      have P2 := Lib.hid (PB.out tl HWT.out)
      go_wp2_with (first
        | (go_at_call 9; ((with_reducible refine (lineParse_to (l := jl) rfl HJ.out P1.out.2.1 P1.out.2.2.1 P1.out.2.2.2.1 P1.out.2.2.2.2.1 P1.out.2.2.2.2.2 P1.out.1 (HL.out.below HII.out.below (Nat.le_refl _))).mono ?_); rintro e w3 ⟨rfl, hk⟩); have hI := HII.out.keep hk; have hJ := InsW.new w w3 o d a b n 23 hI.below hI.le; have hI := hI.alloc (.cells #[.int .i64 o, .int .i64 d, .int .i64 a, .int .i64 b, .int .i64 n] 23); clear hk)
        | (go_at_call 9; ((with_reducible refine (lineParse_to (l := tl) rfl HTL.out P2.out.2.1 P2.out.2.2.1 P2.out.2.2.2.1 P2.out.2.2.2.2.1 P2.out.2.2.2.2.2 P2.out.1 (HL.out.below hI.below (Nat.le_refl _))).mono ?_); rintro e w4 ⟨rfl, hk⟩); have hI := hI.keep hk; have hJ := hJ.keep hk; have hK := InsW.new w w4 o d a b n 23 hI.below hI.le; have hI := hI.alloc (.cells #[.int .i64 o, .int .i64 d, .int .i64 a, .int .i64 b, .int .i64 n] 23); have hJ := hJ.alloc (.cells #[.int .i64 o, .int .i64 d, .int .i64 a, .int .i64 b, .int .i64 n] 23); clear hk; have x0 := hI.c0; have x1 := hI.c1; have x2 := hI.c2; have x3 := hI.c3; have x4 := hI.c4; have y0 := hJ.c0; have y1 := hJ.c1; have y2 := hJ.c2; have y3 := hJ.c3; have y4 := hJ.c4; have z0 := hK.c0; have z1 := hK.c1; have z2 := hK.c2; have z3 := hK.c3; have z4 := hK.c4)
        | (go_at_call 6; ((with_reducible refine (lineAwake_is _ (HL.out.below hI.below (Nat.le_refl _))).mono ?_); rintro e w5 ⟨rfl, hk⟩); have hI := hI.keep hk; clear hk))
      go_ret
      exact ⟨rfl, hI.below⟩
theorem walk (a0_0 a0_1 a0_2 a0_3 a0_4 : Int) (p : Option Addr) (len cap : Nat) (zs : List Int) (w : World) (_ : (Lit.int .i64 a0_0).wf = true) (_ : (Lit.int .i64 a0_1).wf = true) (_ : (Lit.int .i64 a0_2).wf = true) (_ : (Lit.int .i64 a0_3).wf = true) (_ : (Lit.int .i64 a0_4).wf = true) (hr : IsRow .u8 w p len cap zs) (hL : LinLaid w) :
    Calls Tryd.prog 4 #[.agg #[.int .i64 a0_0, .int .i64 a0_1, .int .i64 a0_2, .int .i64 a0_3, .int .i64 a0_4], .slice p len cap] w fun e w' => e = .returned (.bool true) ∧ Below w.heap.size w w' := by
  by_cases hz : cChk a0_0 a0_1 a0_2 a0_3 a0_4 = 0
  · exact good _ _ _ _ _ p len cap _ w hz (By.of_row hr) hL
  · exact bad _ _ _ _ _ _ _ w rfl hz hL
end Go.Proofs.YtheflkhbmbfajaaDoor.lineBack
