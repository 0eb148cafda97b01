/- What the document's own Parse answers. No conditions but the line's length. -/
import Derived.Test.YtheflkhbmbfajaaDoorLinS
import Derived.Test.YtheflkhbmbfajaaDoorLinV
namespace Go.Proofs.YtheflkhbmbfajaaDoor
open Go.RowKit

theorem refWords_to (l : List UInt8) (ws : List (List UInt8)) (w : World) (hl : l.length ≤ 1000) (h : wds l = ws) :
    Calls Tryd.prog 15 #[.string (txt l)] w fun e w' => ∃ p c, e = .returned (.slice p ws.length c) ∧ StrsAt w' p ws.length c (ws.map txt) ∧ Below w.heap.size w w' := by
  refine (refWords_is (txt l) w (by rw [txt_size]; exact hl)).mono ?_
  unfold wtx
  rw [txt_list, h]
  rintro e w' ⟨v, rfl, ho, hb⟩
  rw [List.length_map] at ho
  obtain ⟨p, c, rfl, hs⟩ := StrsAt.of_own ho
  exact ⟨p, c, rfl, hs, hb⟩
theorem refNumber_to (l : List UInt8) (v : Int) (k : Bool) (w : World) (hl : l.length ≤ 4294967296) (hv : numV l = v) (hk : numOk l = k) :
    Calls Tryd.prog 12 #[.string (txt l)] w fun e w' => e = .returned (.tuple #[.int .i64 v, .bool k]) ∧ w = w' := by
  subst hv hk
  refine (refNumber_is (txt l) w (by rw [txt_size]; exact hl)).mono ?_
  rw [txt_list]
  exact fun _ _ h => h
theorem refFind_S (u : List UInt8) (o : Int) (w : World) (h : wFind (txt u) = o) : Calls Tryd.prog 29 #[.string (txt u)] w fun e w' => e = .returned (.int .i64 o) ∧ Below w.heap.size w w' := by
  subst h
  exact (refFind_is (txt u) w).mono fun _ _ h => h
/-- A word's head, and what stands behind it. -/
theorem word_head {u : List UInt8} (h : u ≠ []) : ∃ (hz : 0 < (txt u).size), (((txt u)[0]'hz = 114) → Lib.hasPrefix u [114] = true ∧ Lib.trimPrefix u [114] = u.drop 1) ∧ ((txt u)[0]'hz ≠ 114 → Lib.hasPrefix u [114] = false) := by
  cases u with
  | nil => exact absurd rfl h
  | cons c r =>
    have e : (txt (c :: r))[0]'(by rw [txt_size]; simp) = c := rfl
    refine ⟨by rw [txt_size]; simp, fun hc => ?_, fun hc => ?_⟩
    · rw [e] at hc
      subst hc
      simp [Lib.hasPrefix, Lib.trimPrefix, List.isPrefixOf]
    · rw [e] at hc
      have : (114 == c) = false := by rw [beq_eq_false_iff_ne]; exact fun x => hc x.symm
      simp [Lib.hasPrefix, List.isPrefixOf, this]
theorem fv_set {o : Int} {ops : List (List UInt8)} {k : Nat} (hk : k < 4) :
    (#[.int .i64 (fvOf o ops k 0), .int .i64 (fvOf o ops k 1), .int .i64 (fvOf o ops k 2), .int .i64 (fvOf o ops k 3)] : Array Value).setIfInBounds k (.int .i64 (fldR o ops k)) = #[.int .i64 (fvOf o ops (k + 1) 0), .int .i64 (fvOf o ops (k + 1) 1), .int .i64 (fvOf o ops (k + 1) 2), .int .i64 (fvOf o ops (k + 1) 3)] := by
  obtain rfl | rfl | rfl | rfl : k = 0 ∨ k = 1 ∨ k = 2 ∨ k = 3 := by omega
  all_goals simp [fvOf]
theorem fv_same {o : Int} {ops : List (List UInt8)} {k : Nat} (hk : k < 4) (h0 : fldR o ops k = 0) :
    (#[.int .i64 (fvOf o ops k 0), .int .i64 (fvOf o ops k 1), .int .i64 (fvOf o ops k 2), .int .i64 (fvOf o ops k 3)] : Array Value) = #[.int .i64 (fvOf o ops (k + 1) 0), .int .i64 (fvOf o ops (k + 1) 1), .int .i64 (fvOf o ops (k + 1) 2), .int .i64 (fvOf o ops (k + 1) 3)] := by
  obtain rfl | rfl | rfl | rfl : k = 0 ∨ k = 1 ∨ k = 2 ∨ k = 3 := by omega
  all_goals simp [fvOf, h0]
/-- How far the document's own reading of operands is. -/
def RefAt (w3 : World) (o : Int) (ops : List (List UInt8)) (a i : Value) (wr : World) : Prop :=
  ∃ k v : Nat, k ≤ 4 ∧ i = .int .i64 k ∧ a = .int .i64 v ∧ v = used o k + 1 ∧ okTo o ops k = true ∧ BlkAt w3.heap.size 48 #[.int .i64 (fvOf o ops k 0), .int .i64 (fvOf o ops k 1), .int .i64 (fvOf o ops k 2), .int .i64 (fvOf o ops k 3)] wr ∧ Below w3.heap.size w3 wr
theorem used_le (o : Int) : ∀ k, used o k ≤ k
  | 0 => Nat.le_refl _
  | k + 1 => by
    have := used_le o k
    rw [used]
    split <;> omega
/-- A letter that has a word: on, or to an end. -/
theorem step_ok {o : Int} {ops : List (List UInt8)} {k : Nat} (h : okTo o ops k = true) (hv : opdOk (shL o k) (wAt ops (used o k)) = true) : okTo o ops (k + 1) = true := by rw [okTo, h, hv]; rfl
theorem step_no {o : Int} {ops : List (List UInt8)} {k : Nat} (hk : k < 4) (hv : opdOk (shL o k) (wAt ops (used o k)) = false) : okTo o ops 4 = false := by
  cases q : okTo o ops 4
  · rfl
  · have := okTo_mono (j := k + 1) (by omega) q
    rw [okTo, hv] at this
    simp at this
theorem used_more {o : Int} {k : Nat} (h : isReg (shL o k) ∨ isNum (shL o k)) : used o (k + 1) = used o k + 1 := by rw [used, if_pos h]
theorem used_same {o : Int} {k : Nat} (h : shL o k = 45) : used o (k + 1) = used o k ∧ ∀ ops, fldR o ops k = 0 ∧ opdOk (shL o k) (wAt ops (used o k)) = true := by
  have hr : ¬ isReg (shL o k) := by unfold isReg; omega
  have hn : ¬ isNum (shL o k) := by unfold isNum; omega
  refine ⟨by rw [used, if_neg (fun e => e.elim hr hn)]; rfl, fun ops => ⟨?_, ?_⟩⟩
  · unfold fldR opdV; rw [if_neg hr, if_neg hn]
  · unfold opdOk; rw [if_neg hr, if_neg hn]
theorem wAt_some {ops : List (List UInt8)} {u : Nat} (h : u < ops.length) : ops[u]? = some (wAt ops u) := by
  unfold wAt
  rw [List.getD_eq_getElem?_getD, List.getElem?_eq_getElem h]
  rfl
theorem wAt_none {ops : List (List UInt8)} {u : Nat} (h : ops.length ≤ u) : wAt ops u = [] := by
  unfold wAt
  rw [List.getD_eq_getElem?_getD, List.getElem?_eq_none h]
  rfl
theorem reg_field {o : Int} {ops : List (List UInt8)} {k : Nat} (h : isReg (shL o k)) : opdOk (shL o k) (wAt ops (used o k)) = regOk (wAt ops (used o k)) ∧ fldR o ops k = regV (wAt ops (used o k)) := by
  unfold fldR opdOk opdV
  rw [if_pos h, if_pos h]
  exact ⟨rfl, rfl⟩
theorem num_field {o : Int} {ops : List (List UInt8)} {k : Nat} (hr : ¬ isReg (shL o k)) (h : isNum (shL o k)) : opdOk (shL o k) (wAt ops (used o k)) = numOk (wAt ops (used o k)) ∧ fldR o ops k = numV (wAt ops (used o k)) := by
  unfold fldR opdOk opdV
  rw [if_neg hr, if_neg hr, if_pos h, if_pos h]
  exact ⟨rfl, rfl⟩
set_option maxHeartbeats 4000000 in
theorem refParse_none (l : List UInt8) (w : World) (hl : l.length ≤ 1000) (h : wds l = []) :
    Calls Tryd.prog 10 #[.string (txt l)] w fun e w' => e = .returned (.tuple #[.agg #[.int .i64 0, .int .i64 0, .int .i64 0, .int .i64 0, .int .i64 0], .int .i64 3]) ∧ Below w.heap.size w w' := by
  have HW := Lib.hid h
  have HI := Lib.hid (fun T => InsW.new w w 0 0 0 0 0 T (Below.refl _ _) (Nat.le_refl _))
  clear h
  go_enter Tryd.func10, Tryd.ntmps10
  go_wp2_with (go_at_call 15; ((with_reducible refine (refWords_to l [] _ hl HW.out).mono ?_); rintro e w1 ⟨p, c, rfl, _, hb⟩); dsimp only [List.length_nil]; have hR := (HI.out _).keep hb; clear hb; have c0 := hR.c0; have c1 := hR.c1; have c2 := hR.c2; have c3 := hR.c3; have c4 := hR.c4; have f0 := hR.f0; have f1 := hR.f1; have f2 := hR.f2; have f3 := hR.f3; have f4 := hR.f4)
  exact bodyPost_ret (v := .tuple #[.agg #[.int .i64 0, .int .i64 0, .int .i64 0, .int .i64 0, .int .i64 0], .int .i64 3]) (by simp [results, Tryd.results10, go_sem, c0, c1, c2, c3, c4]) rfl ⟨rfl, hR.end5 _ _ _ _ _⟩
set_option maxHeartbeats 4000000 in
theorem refParse_name (l nw : List UInt8) (ops : List (List UInt8)) (w : World) (hl : l.length ≤ 1000) (h : wds l = nw :: ops) (ho : wFind (txt nw) = 0) :
    Calls Tryd.prog 10 #[.string (txt l)] w fun e w' => e = .returned (.tuple #[.agg #[.int .i64 0, .int .i64 0, .int .i64 0, .int .i64 0, .int .i64 0], .int .i64 3]) ∧ Below w.heap.size w w' := by
  have HW := Lib.hid h
  have HI := Lib.hid (fun T => InsW.new w w 0 0 0 0 0 T (Below.refl _ _) (Nat.le_refl _))
  have HO := Lib.hid ho
  clear h ho
  go_enter Tryd.func10, Tryd.ntmps10
  go_wp2_with (first
    | (go_at_call 15; ((with_reducible refine (refWords_to l (nw :: ops) _ hl HW.out).mono ?_); rintro e w1 ⟨p, c, rfl, hst, hb⟩); dsimp only [List.length_cons] at hst ⊢; have hR := (HI.out _).keep hb; obtain ⟨g, rfl, hce⟩ := hst.lie (Nat.succ_pos _); have hx := hce 0 (txt nw) rfl; have hcap := hst.cap; clear hb hst hce)
    | (go_at_call 29; ((with_reducible refine (refFind_S nw 0 _ HO.out).mono ?_); rintro e w2 ⟨rfl, hb⟩); have hR := hR.keep hb; clear hb; have c0 := hR.c0; have c1 := hR.c1; have c2 := hR.c2; have c3 := hR.c3; have c4 := hR.c4; have f0 := hR.f0; have f1 := hR.f1; have f2 := hR.f2; have f3 := hR.f3; have f4 := hR.f4))
  exact bodyPost_ret (v := .tuple #[.agg #[.int .i64 0, .int .i64 0, .int .i64 0, .int .i64 0, .int .i64 0], .int .i64 3]) (by simp [results, Tryd.results10, go_sem, c0, c1, c2, c3, c4]) rfl ⟨rfl, hR.end5 _ _ _ _ _⟩
set_option maxRecDepth 100000 in
set_option maxHeartbeats 8000000 in
theorem refParse_op (l nw : List UInt8) (ops : List (List UInt8)) (o : Int) (w : World) (hl : l.length ≤ 1000) (h : wds l = nw :: ops) (ho : wFind (txt nw) = o) (hz : o ≠ 0) :
    Calls Tryd.prog 10 #[.string (txt l)] w (RetIns w (nw :: ops)) := by
  have HW := Lib.hid h
  have HI := Lib.hid (fun T => InsW.new w w 0 0 0 0 0 T (Below.refl _ _) (Nat.le_refl _))
  have HO := Lib.hid ho
  have hop : isOp o := by rw [← ho] at hz ⊢; exact find_op hz
  have hlen : ops.length < 1000 := by have := wds_len l; rw [h] at this; simp at this; omega
  have HE := Lib.hid (fun x (hx : x ∈ ops) => show x.length ≤ 1000 by have := wds_each (l := l) (w := x) (by rw [h]; exact .tail _ hx); omega)
  have HNE := Lib.hid (fun x (hx : x ∈ ops) => (wds_ok (l := l) (w := x) (by rw [h]; exact .tail _ hx)).1)
  obtain ⟨x0, x1, x2, x3, hs, hx, he⟩ := letter_small hop
  have hz' : (o == 0) = false := by simpa using hz
  have HZ := Lib.hid hz
  have HOP := Lib.hid hop
  have HSH := Lib.hid hs
  have HLT := Lib.hid (letter_test he)
  clear h ho hz hop hs he hx
  unfold RetIns
  obtain ⟨zE, hzE⟩ : ∃ z, pErr (nw :: ops) = z := ⟨_, rfl⟩
  obtain ⟨zO, hzO⟩ : ∃ z, pO (nw :: ops) = z := ⟨_, rfl⟩
  obtain ⟨z0, hz0⟩ : ∃ z, pF (nw :: ops) 0 = z := ⟨_, rfl⟩
  obtain ⟨z1, hz1⟩ : ∃ z, pF (nw :: ops) 1 = z := ⟨_, rfl⟩
  obtain ⟨z2, hz2⟩ : ∃ z, pF (nw :: ops) 2 = z := ⟨_, rfl⟩
  obtain ⟨z3, hz3⟩ : ∃ z, pF (nw :: ops) 3 = z := ⟨_, rfl⟩
  rw [hzE, hzO, hz0, hz1, hz2, hz3]
  have HR := Lib.hid (And.intro hzE (And.intro hzO (And.intro hz0 (And.intro hz1 (And.intro hz2 hz3)))))
  clear hzE hzO hz0 hz1 hz2 hz3
  go_enter Tryd.func10, Tryd.ntmps10
  go_wp2_with (first
    | (go_at_call 15; ((with_reducible refine (refWords_to l (nw :: ops) _ hl HW.out).mono ?_); rintro e w1 ⟨p, c, rfl, hst, hb⟩); dsimp only [List.length_cons] at hst ⊢; have hR := (HI.out _).keep hb; obtain ⟨g, rfl, hce⟩ := hst.lie (Nat.succ_pos _); have hx := hce 0 (txt nw) rfl; have hcap := hst.cap; have hbig := hst.big; have HST := Lib.hid hst; have HCE := Lib.hid hce; clear hb hst hce)
    | (go_at_call 29; ((with_reducible refine (refFind_S nw o _ HO.out).mono ?_); rintro e w2 ⟨rfl, hb⟩); have hR := hR.keep hb; first | (have hx2 := (hb.cell (p := ⟨g, 0, none⟩) (cell_lt hx)).trans hx; have HB1 := Lib.hid hb) | (have HB2 := Lib.hid hb); clear hb)
    | (go_at_call 25; ((with_reducible refine (refShape_S o _ _ HSH.out).mono ?_); rintro e w3 ⟨rfl, rfl⟩)))
  clear hx hx2 hb
  have HC3 := Lib.hid (fun j x (hj : ops[j]? = some x) => show w2.cell? ⟨g, j + 1, none⟩ = some (.string (txt x)) from by
    have e := HCE.out (j + 1) (txt x) (by simp [hj])
    have e1 := (HB1.out.cell (p := ⟨g, j + 1, none⟩) (cell_lt e)).trans e
    exact (HB2.out.cell (p := ⟨g, j + 1, none⟩) (cell_lt e1)).trans e1)
  have HRR := Lib.hid hR
  have H0 := Lib.hid (show RefAt w2 o ops (.int .i64 1) (.int .i64 0) (w2.alloc (.cells #[.int .i64 0, .int .i64 0, .int .i64 0, .int .i64 0] 48)) from ⟨0, 1, by omega, rfl, rfl, rfl, rfl, BlkAt.new w2 _ _, (Below.refl _ _).alloc (Nat.le_refl _) _⟩)
  clear hR
  go_loopw [8, 9] (fun a i wr => RefAt w2 o ops a i wr) (fun _ i _ => 4 - (intOf i).toNat)
  case atStart => exact H0.out
  case round =>
    obtain ⟨k, v, hk, rfl, rfl, hv, hok, hblk, hbl⟩ := hrel
    have HV := Lib.hid hv
    have HOK := Lib.hid hok
    have HBLK := Lib.hid hblk
    have HBL := Lib.hid hbl
    have hul := used_le o k
    have hv5 : v ≤ 5 := by omega
    have HVU := Lib.hid (show used o k = v - 1 by omega)
    clear hok hblk hbl hul
    by_cases hlt : k < 4
    · obtain rfl | rfl | rfl | rfl : k = 0 ∨ k = 1 ∨ k = 2 ∨ k = 3 := by omega
      · rcases letter_at HOP.out hlt with hq | hq
        · have hr : isReg (shL o 0) := by unfold isReg; omega
          have ht : (((({ data := #[x0, x1, x2, x3] } : ByteArray)[0]'(show 0 < 4 by decide)).toNat : Int) == 45) = false := by rw [HLT.out.1, beq_eq_false_iff_ne]; omega
          have hmore := used_more (.inl hr)
          by_cases hge : ops.length ≤ used o 0
          · have hno : okTo o ops 4 = false := step_no hlt (by rw [wAt_none hge]; exact opdOk_nil (.inl hr))
            have hR := HRR.out.keep HBL.out
            have c0 := hR.c0; have c1 := hR.c1; have c2 := hR.c2; have c3 := hR.c3; have c4 := hR.c4; have f0 := hR.f0; have f1 := hR.f1; have f2 := hR.f2; have f3 := hR.f3; have f4 := hR.f4
            obtain ⟨e0, e1, e2⟩ := pErr_no (pGood_false HO.out (.inl hno))
            obtain ⟨r0, r1, r2, r3, r4, r5⟩ := HR.out
            rw [e0] at r0
            rw [e1] at r1
            rw [e2] at r2 r3 r4 r5
            subst r0 r1 r2 r3 r4 r5
            clear e0 e1 e2
            have hge' : ops.length + 1 ≤ v := by omega
            clear hq hr hmore hno hge hv
            go_wp2_with fail
            exact bodyPost_ret (v := .tuple #[.agg #[.int .i64 0, .int .i64 0, .int .i64 0, .int .i64 0, .int .i64 0], .int .i64 3]) (by simp [results, Tryd.results10, go_sem, c0, c1, c2, c3, c4]) rfl ⟨rfl, hR.end5 _ _ _ _ _⟩
          · have hlu : used o 0 < ops.length := by omega
            have hx := wAt_some hlu
            have hmem := List.mem_of_getElem? hx
            have hcell := HC3.out _ _ hx
            rw [← hv] at hcell
            have hcw := (HBL.out.cell (p := ⟨g, v, none⟩) (cell_lt hcell)).trans hcell
            have hf := reg_field (ops := ops) hr
            have hlx := HE.out _ hmem
            have hne := HNE.out _ hmem
            have hlv : v < ops.length + 1 := by omega
            have hs1 := @step_ok o ops 0 HOK.out
            have hs2 := @step_no o ops 0 hlt
            generalize wAt ops (used o 0) = xw at *
            rw [hf.1] at hs1 hs2
            have HF2 := Lib.hid hf.2
            have HM := Lib.hid (show v + 1 = used o (0 + 1) + 1 by rw [hmore, ← hv])
            have HS1 := Lib.hid hs1
            have HS2 := Lib.hid hs2
            clear hcell hf hx hmem hlu hge hmore hq hr hs1 hs2 hv
            obtain ⟨hz0, hyes, hnot⟩ := word_head hne
            have hz1 : 1 ≤ (txt xw).size := hz0
            by_cases hc : (txt xw)[0] = 114
            · obtain ⟨hp1, hp2⟩ := hyes hc
              have ht2 : (((txt xw)[0].toNat : Int) != 114) = false := by rw [hc]; rfl
              obtain ⟨xt, hxt⟩ : ∃ y, xw.drop 1 = y := ⟨_, rfl⟩
              rw [hxt] at hp2
              have hxl : xt.length ≤ 1000 := by rw [← hxt, List.length_drop]; omega
              have hsl : ∀ w', (Instr.slice 9 (.string (txt xw)) (some (.int .i64 1)) none none).run Tryd.prog w' = .ok (.string (txt xt)) w' := fun w' => by
                have e := (run_slice_string_l (P := Tryd.prog) (w := w') 9 (txt xw) Tryd.underlying9 .i64 1 (by decide) (by omega))
                rw [e]
                congr 2
                have q := str_drop (txt xw) 1
                rw [txt_list, hxt] at q
                exact q
              clear hxt hyes hnot hc hne
              have HLN := Lib.hid (show (xt).length ≤ 4294967296 by omega)
              cases hnk : numOk (xt)
              · have hno : okTo o ops 4 = false := HS2.out (by unfold regOk; rw [hp2, hnk, hp1]; rfl)
                have HNK := Lib.hid hnk
                have HNV := Lib.hid (num_no hnk)
                have hR := HRR.out.keep HBL.out
                have c0 := hR.c0; have c1 := hR.c1; have c2 := hR.c2; have c3 := hR.c3; have c4 := hR.c4; have f0 := hR.f0; have f1 := hR.f1; have f2 := hR.f2; have f3 := hR.f3; have f4 := hR.f4
                obtain ⟨e0, e1, e2⟩ := pErr_no (pGood_false HO.out (.inl hno))
                obtain ⟨r0, r1, r2, r3, r4, r5⟩ := HR.out
                rw [e0] at r0
                rw [e1] at r1
                rw [e2] at r2 r3 r4 r5
                subst r0 r1 r2 r3 r4 r5
                clear e0 e1 e2
                clear hno hnk
                go_wp2_with (go_at_call 12; ((with_reducible refine (refNumber_to (xt) 0 false _ HLN.out HNV.out HNK.out).mono ?_); rintro e w5 ⟨rfl, rfl⟩))
                exact bodyPost_ret (v := .tuple #[.agg #[.int .i64 0, .int .i64 0, .int .i64 0, .int .i64 0, .int .i64 0], .int .i64 3]) (by simp [results, Tryd.results10, go_sem, c0, c1, c2, c3, c4]) rfl ⟨rfl, hR.end5 _ _ _ _ _⟩
              · have hgo : okTo o ops (0 + 1) = true := HS1.out (by unfold regOk; rw [hp2, hnk, hp1]; rfl)
                obtain ⟨nv, hnv⟩ : ∃ y, numV (xt) = y := ⟨_, rfl⟩
                have hfd : fldR o ops 0 = nv := by rw [HF2.out]; unfold regV; rw [hp2]; exact hnv
                have hset := fv_set (o := o) (ops := ops) hlt
                rw [hfd] at hset
                have HNK := Lib.hid hnk
                have HNV := Lib.hid hnv
                have HGO := Lib.hid hgo
                have HSET := Lib.hid hset
                have cl := HBLK.out.cell 0
                have fl := HBLK.out.free 0
                simp only [List.getElem?_toArray, List.getElem?_cons_zero] at cl
                clear hnk hnv hgo hset hfd
                go_wp2_with (go_at_call 12; ((with_reducible refine (refNumber_to (xt) nv true _ HLN.out HNV.out HNK.out).mono ?_); rintro e w5 ⟨rfl, rfl⟩))
                go_roundw
                case rel => exact ⟨1, v + 1, by omega, rfl, by go_num, HM.out, HGO.out, (HBLK.out.set 0 (.int .i64 nv)).eq HSET.out, HBL.out.setCell (p := ⟨w2.heap.size, 0, none⟩) (Nat.le_refl _) _⟩
                case measure => simp [intOf]
            · have ht2 : (((txt xw)[0].toNat : Int) != 114) = true := by
                rw [bne_iff_ne]
                intro e
                exact hc (UInt8.toNat_inj.1 (by show (txt xw)[0].toNat = 114; omega))
              have hno : okTo o ops 4 = false := HS2.out (by unfold regOk; rw [hnot hc]; rfl)
              have hR := HRR.out.keep HBL.out
              have c0 := hR.c0; have c1 := hR.c1; have c2 := hR.c2; have c3 := hR.c3; have c4 := hR.c4; have f0 := hR.f0; have f1 := hR.f1; have f2 := hR.f2; have f3 := hR.f3; have f4 := hR.f4
              obtain ⟨e0, e1, e2⟩ := pErr_no (pGood_false HO.out (.inl hno))
              obtain ⟨r0, r1, r2, r3, r4, r5⟩ := HR.out
              rw [e0] at r0
              rw [e1] at r1
              rw [e2] at r2 r3 r4 r5
              subst r0 r1 r2 r3 r4 r5
              clear e0 e1 e2
              clear hyes hnot hc hne hno
              go_wp2_with fail
              exact bodyPost_ret (v := .tuple #[.agg #[.int .i64 0, .int .i64 0, .int .i64 0, .int .i64 0, .int .i64 0], .int .i64 3]) (by simp [results, Tryd.results10, go_sem, c0, c1, c2, c3, c4]) rfl ⟨rfl, hR.end5 _ _ _ _ _⟩
        · have ht : (((({ data := #[x0, x1, x2, x3] } : ByteArray)[0]'(show 0 < 4 by decide)).toNat : Int) == 45) = true := by rw [HLT.out.1, hq]; rfl
          obtain ⟨hu1, hu2⟩ := used_same hq
          obtain ⟨hu3, hu4⟩ := hu2 ops
          have HN := Lib.hid (show v = used o (0 + 1) + 1 by omega)
          have HGO := Lib.hid (step_ok HOK.out hu4)
          have HSM := Lib.hid (fv_same (o := o) (ops := ops) hlt hu3)
          clear hq hu1 hu2 hu3 hu4 hv
          go_wp2_with fail
          go_roundw
          case rel => exact ⟨1, v, by omega, rfl, rfl, HN.out, HGO.out, HBLK.out.eq HSM.out, HBL.out⟩
          case measure => simp [intOf]
      · rcases letter_at HOP.out hlt with hq | hq
        · have hr : isReg (shL o 1) := by unfold isReg; omega
          have ht : (((({ data := #[x0, x1, x2, x3] } : ByteArray)[1]'(show 1 < 4 by decide)).toNat : Int) == 45) = false := by rw [HLT.out.2.1, beq_eq_false_iff_ne]; omega
          have hmore := used_more (.inl hr)
          by_cases hge : ops.length ≤ used o 1
          · have hno : okTo o ops 4 = false := step_no hlt (by rw [wAt_none hge]; exact opdOk_nil (.inl hr))
            have hR := HRR.out.keep HBL.out
            have c0 := hR.c0; have c1 := hR.c1; have c2 := hR.c2; have c3 := hR.c3; have c4 := hR.c4; have f0 := hR.f0; have f1 := hR.f1; have f2 := hR.f2; have f3 := hR.f3; have f4 := hR.f4
            obtain ⟨e0, e1, e2⟩ := pErr_no (pGood_false HO.out (.inl hno))
            obtain ⟨r0, r1, r2, r3, r4, r5⟩ := HR.out
            rw [e0] at r0
            rw [e1] at r1
            rw [e2] at r2 r3 r4 r5
            subst r0 r1 r2 r3 r4 r5
            clear e0 e1 e2
            have hge' : ops.length + 1 ≤ v := by omega
            clear hq hr hmore hno hge hv
            go_wp2_with fail
            exact bodyPost_ret (v := .tuple #[.agg #[.int .i64 0, .int .i64 0, .int .i64 0, .int .i64 0, .int .i64 0], .int .i64 3]) (by simp [results, Tryd.results10, go_sem, c0, c1, c2, c3, c4]) rfl ⟨rfl, hR.end5 _ _ _ _ _⟩
          · have hlu : used o 1 < ops.length := by omega
            have hx := wAt_some hlu
            have hmem := List.mem_of_getElem? hx
            have hcell := HC3.out _ _ hx
            rw [← hv] at hcell
            have hcw := (HBL.out.cell (p := ⟨g, v, none⟩) (cell_lt hcell)).trans hcell
            have hf := reg_field (ops := ops) hr
            have hlx := HE.out _ hmem
            have hne := HNE.out _ hmem
            have hlv : v < ops.length + 1 := by omega
            have hs1 := @step_ok o ops 1 HOK.out
            have hs2 := @step_no o ops 1 hlt
            generalize wAt ops (used o 1) = xw at *
            rw [hf.1] at hs1 hs2
            have HF2 := Lib.hid hf.2
            have HM := Lib.hid (show v + 1 = used o (1 + 1) + 1 by rw [hmore, ← hv])
            have HS1 := Lib.hid hs1
            have HS2 := Lib.hid hs2
            clear hcell hf hx hmem hlu hge hmore hq hr hs1 hs2 hv
            obtain ⟨hz0, hyes, hnot⟩ := word_head hne
            have hz1 : 1 ≤ (txt xw).size := hz0
            by_cases hc : (txt xw)[0] = 114
            · obtain ⟨hp1, hp2⟩ := hyes hc
              have ht2 : (((txt xw)[0].toNat : Int) != 114) = false := by rw [hc]; rfl
              obtain ⟨xt, hxt⟩ : ∃ y, xw.drop 1 = y := ⟨_, rfl⟩
              rw [hxt] at hp2
              have hxl : xt.length ≤ 1000 := by rw [← hxt, List.length_drop]; omega
              have hsl : ∀ w', (Instr.slice 9 (.string (txt xw)) (some (.int .i64 1)) none none).run Tryd.prog w' = .ok (.string (txt xt)) w' := fun w' => by
                have e := (run_slice_string_l (P := Tryd.prog) (w := w') 9 (txt xw) Tryd.underlying9 .i64 1 (by decide) (by omega))
                rw [e]
                congr 2
                have q := str_drop (txt xw) 1
                rw [txt_list, hxt] at q
                exact q
              clear hxt hyes hnot hc hne
              have HLN := Lib.hid (show (xt).length ≤ 4294967296 by omega)
              cases hnk : numOk (xt)
              · have hno : okTo o ops 4 = false := HS2.out (by unfold regOk; rw [hp2, hnk, hp1]; rfl)
                have HNK := Lib.hid hnk
                have HNV := Lib.hid (num_no hnk)
                have hR := HRR.out.keep HBL.out
                have c0 := hR.c0; have c1 := hR.c1; have c2 := hR.c2; have c3 := hR.c3; have c4 := hR.c4; have f0 := hR.f0; have f1 := hR.f1; have f2 := hR.f2; have f3 := hR.f3; have f4 := hR.f4
                obtain ⟨e0, e1, e2⟩ := pErr_no (pGood_false HO.out (.inl hno))
                obtain ⟨r0, r1, r2, r3, r4, r5⟩ := HR.out
                rw [e0] at r0
                rw [e1] at r1
                rw [e2] at r2 r3 r4 r5
                subst r0 r1 r2 r3 r4 r5
                clear e0 e1 e2
                clear hno hnk
                go_wp2_with (go_at_call 12; ((with_reducible refine (refNumber_to (xt) 0 false _ HLN.out HNV.out HNK.out).mono ?_); rintro e w5 ⟨rfl, rfl⟩))
                exact bodyPost_ret (v := .tuple #[.agg #[.int .i64 0, .int .i64 0, .int .i64 0, .int .i64 0, .int .i64 0], .int .i64 3]) (by simp [results, Tryd.results10, go_sem, c0, c1, c2, c3, c4]) rfl ⟨rfl, hR.end5 _ _ _ _ _⟩
              · have hgo : okTo o ops (1 + 1) = true := HS1.out (by unfold regOk; rw [hp2, hnk, hp1]; rfl)
                obtain ⟨nv, hnv⟩ : ∃ y, numV (xt) = y := ⟨_, rfl⟩
                have hfd : fldR o ops 1 = nv := by rw [HF2.out]; unfold regV; rw [hp2]; exact hnv
                have hset := fv_set (o := o) (ops := ops) hlt
                rw [hfd] at hset
                have HNK := Lib.hid hnk
                have HNV := Lib.hid hnv
                have HGO := Lib.hid hgo
                have HSET := Lib.hid hset
                have cl := HBLK.out.cell 1
                have fl := HBLK.out.free 1
                simp only [List.getElem?_toArray, List.getElem?_cons_zero, List.getElem?_cons_succ] at cl
                clear hnk hnv hgo hset hfd
                go_wp2_with (go_at_call 12; ((with_reducible refine (refNumber_to (xt) nv true _ HLN.out HNV.out HNK.out).mono ?_); rintro e w5 ⟨rfl, rfl⟩))
                go_roundw
                case rel => exact ⟨2, v + 1, by omega, rfl, by go_num, HM.out, HGO.out, (HBLK.out.set 1 (.int .i64 nv)).eq HSET.out, HBL.out.setCell (p := ⟨w2.heap.size, 1, none⟩) (Nat.le_refl _) _⟩
                case measure => simp [intOf]
            · have ht2 : (((txt xw)[0].toNat : Int) != 114) = true := by
                rw [bne_iff_ne]
                intro e
                exact hc (UInt8.toNat_inj.1 (by show (txt xw)[0].toNat = 114; omega))
              have hno : okTo o ops 4 = false := HS2.out (by unfold regOk; rw [hnot hc]; rfl)
              have hR := HRR.out.keep HBL.out
              have c0 := hR.c0; have c1 := hR.c1; have c2 := hR.c2; have c3 := hR.c3; have c4 := hR.c4; have f0 := hR.f0; have f1 := hR.f1; have f2 := hR.f2; have f3 := hR.f3; have f4 := hR.f4
              obtain ⟨e0, e1, e2⟩ := pErr_no (pGood_false HO.out (.inl hno))
              obtain ⟨r0, r1, r2, r3, r4, r5⟩ := HR.out
              rw [e0] at r0
              rw [e1] at r1
              rw [e2] at r2 r3 r4 r5
              subst r0 r1 r2 r3 r4 r5
              clear e0 e1 e2
              clear hyes hnot hc hne hno
              go_wp2_with fail
              exact bodyPost_ret (v := .tuple #[.agg #[.int .i64 0, .int .i64 0, .int .i64 0, .int .i64 0, .int .i64 0], .int .i64 3]) (by simp [results, Tryd.results10, go_sem, c0, c1, c2, c3, c4]) rfl ⟨rfl, hR.end5 _ _ _ _ _⟩
        · have ht : (((({ data := #[x0, x1, x2, x3] } : ByteArray)[1]'(show 1 < 4 by decide)).toNat : Int) == 45) = true := by rw [HLT.out.2.1, hq]; rfl
          obtain ⟨hu1, hu2⟩ := used_same hq
          obtain ⟨hu3, hu4⟩ := hu2 ops
          have HN := Lib.hid (show v = used o (1 + 1) + 1 by omega)
          have HGO := Lib.hid (step_ok HOK.out hu4)
          have HSM := Lib.hid (fv_same (o := o) (ops := ops) hlt hu3)
          clear hq hu1 hu2 hu3 hu4 hv
          go_wp2_with fail
          go_roundw
          case rel => exact ⟨2, v, by omega, rfl, rfl, HN.out, HGO.out, HBLK.out.eq HSM.out, HBL.out⟩
          case measure => simp [intOf]
      · rcases letter_at HOP.out hlt with hq | hq
        · have hr : isReg (shL o 2) := by unfold isReg; omega
          have ht : (((({ data := #[x0, x1, x2, x3] } : ByteArray)[2]'(show 2 < 4 by decide)).toNat : Int) == 45) = false := by rw [HLT.out.2.2.1, beq_eq_false_iff_ne]; omega
          have hmore := used_more (.inl hr)
          by_cases hge : ops.length ≤ used o 2
          · have hno : okTo o ops 4 = false := step_no hlt (by rw [wAt_none hge]; exact opdOk_nil (.inl hr))
            have hR := HRR.out.keep HBL.out
            have c0 := hR.c0; have c1 := hR.c1; have c2 := hR.c2; have c3 := hR.c3; have c4 := hR.c4; have f0 := hR.f0; have f1 := hR.f1; have f2 := hR.f2; have f3 := hR.f3; have f4 := hR.f4
            obtain ⟨e0, e1, e2⟩ := pErr_no (pGood_false HO.out (.inl hno))
            obtain ⟨r0, r1, r2, r3, r4, r5⟩ := HR.out
            rw [e0] at r0
            rw [e1] at r1
            rw [e2] at r2 r3 r4 r5
            subst r0 r1 r2 r3 r4 r5
            clear e0 e1 e2
            have hge' : ops.length + 1 ≤ v := by omega
            clear hq hr hmore hno hge hv
            go_wp2_with fail
            exact bodyPost_ret (v := .tuple #[.agg #[.int .i64 0, .int .i64 0, .int .i64 0, .int .i64 0, .int .i64 0], .int .i64 3]) (by simp [results, Tryd.results10, go_sem, c0, c1, c2, c3, c4]) rfl ⟨rfl, hR.end5 _ _ _ _ _⟩
          · have hlu : used o 2 < ops.length := by omega
            have hx := wAt_some hlu
            have hmem := List.mem_of_getElem? hx
            have hcell := HC3.out _ _ hx
            rw [← hv] at hcell
            have hcw := (HBL.out.cell (p := ⟨g, v, none⟩) (cell_lt hcell)).trans hcell
            have hf := reg_field (ops := ops) hr
            have hlx := HE.out _ hmem
            have hne := HNE.out _ hmem
            have hlv : v < ops.length + 1 := by omega
            have hs1 := @step_ok o ops 2 HOK.out
            have hs2 := @step_no o ops 2 hlt
            generalize wAt ops (used o 2) = xw at *
            rw [hf.1] at hs1 hs2
            have HF2 := Lib.hid hf.2
            have HM := Lib.hid (show v + 1 = used o (2 + 1) + 1 by rw [hmore, ← hv])
            have HS1 := Lib.hid hs1
            have HS2 := Lib.hid hs2
            clear hcell hf hx hmem hlu hge hmore hq hr hs1 hs2 hv
            obtain ⟨hz0, hyes, hnot⟩ := word_head hne
            have hz1 : 1 ≤ (txt xw).size := hz0
            by_cases hc : (txt xw)[0] = 114
            · obtain ⟨hp1, hp2⟩ := hyes hc
              have ht2 : (((txt xw)[0].toNat : Int) != 114) = false := by rw [hc]; rfl
              obtain ⟨xt, hxt⟩ : ∃ y, xw.drop 1 = y := ⟨_, rfl⟩
              rw [hxt] at hp2
              have hxl : xt.length ≤ 1000 := by rw [← hxt, List.length_drop]; omega
              have hsl : ∀ w', (Instr.slice 9 (.string (txt xw)) (some (.int .i64 1)) none none).run Tryd.prog w' = .ok (.string (txt xt)) w' := fun w' => by
                have e := (run_slice_string_l (P := Tryd.prog) (w := w') 9 (txt xw) Tryd.underlying9 .i64 1 (by decide) (by omega))
                rw [e]
                congr 2
                have q := str_drop (txt xw) 1
                rw [txt_list, hxt] at q
                exact q
              clear hxt hyes hnot hc hne
              have HLN := Lib.hid (show (xt).length ≤ 4294967296 by omega)
              cases hnk : numOk (xt)
              · have hno : okTo o ops 4 = false := HS2.out (by unfold regOk; rw [hp2, hnk, hp1]; rfl)
                have HNK := Lib.hid hnk
                have HNV := Lib.hid (num_no hnk)
                have hR := HRR.out.keep HBL.out
                have c0 := hR.c0; have c1 := hR.c1; have c2 := hR.c2; have c3 := hR.c3; have c4 := hR.c4; have f0 := hR.f0; have f1 := hR.f1; have f2 := hR.f2; have f3 := hR.f3; have f4 := hR.f4
                obtain ⟨e0, e1, e2⟩ := pErr_no (pGood_false HO.out (.inl hno))
                obtain ⟨r0, r1, r2, r3, r4, r5⟩ := HR.out
                rw [e0] at r0
                rw [e1] at r1
                rw [e2] at r2 r3 r4 r5
                subst r0 r1 r2 r3 r4 r5
                clear e0 e1 e2
                clear hno hnk
                go_wp2_with (go_at_call 12; ((with_reducible refine (refNumber_to (xt) 0 false _ HLN.out HNV.out HNK.out).mono ?_); rintro e w5 ⟨rfl, rfl⟩))
                exact bodyPost_ret (v := .tuple #[.agg #[.int .i64 0, .int .i64 0, .int .i64 0, .int .i64 0, .int .i64 0], .int .i64 3]) (by simp [results, Tryd.results10, go_sem, c0, c1, c2, c3, c4]) rfl ⟨rfl, hR.end5 _ _ _ _ _⟩
              · have hgo : okTo o ops (2 + 1) = true := HS1.out (by unfold regOk; rw [hp2, hnk, hp1]; rfl)
                obtain ⟨nv, hnv⟩ : ∃ y, numV (xt) = y := ⟨_, rfl⟩
                have hfd : fldR o ops 2 = nv := by rw [HF2.out]; unfold regV; rw [hp2]; exact hnv
                have hset := fv_set (o := o) (ops := ops) hlt
                rw [hfd] at hset
                have HNK := Lib.hid hnk
                have HNV := Lib.hid hnv
                have HGO := Lib.hid hgo
                have HSET := Lib.hid hset
                have cl := HBLK.out.cell 2
                have fl := HBLK.out.free 2
                simp only [List.getElem?_toArray, List.getElem?_cons_zero, List.getElem?_cons_succ] at cl
                clear hnk hnv hgo hset hfd
                go_wp2_with (go_at_call 12; ((with_reducible refine (refNumber_to (xt) nv true _ HLN.out HNV.out HNK.out).mono ?_); rintro e w5 ⟨rfl, rfl⟩))
                go_roundw
                case rel => exact ⟨3, v + 1, by omega, rfl, by go_num, HM.out, HGO.out, (HBLK.out.set 2 (.int .i64 nv)).eq HSET.out, HBL.out.setCell (p := ⟨w2.heap.size, 2, none⟩) (Nat.le_refl _) _⟩
                case measure => simp [intOf]
            · have ht2 : (((txt xw)[0].toNat : Int) != 114) = true := by
                rw [bne_iff_ne]
                intro e
                exact hc (UInt8.toNat_inj.1 (by show (txt xw)[0].toNat = 114; omega))
              have hno : okTo o ops 4 = false := HS2.out (by unfold regOk; rw [hnot hc]; rfl)
              have hR := HRR.out.keep HBL.out
              have c0 := hR.c0; have c1 := hR.c1; have c2 := hR.c2; have c3 := hR.c3; have c4 := hR.c4; have f0 := hR.f0; have f1 := hR.f1; have f2 := hR.f2; have f3 := hR.f3; have f4 := hR.f4
              obtain ⟨e0, e1, e2⟩ := pErr_no (pGood_false HO.out (.inl hno))
              obtain ⟨r0, r1, r2, r3, r4, r5⟩ := HR.out
              rw [e0] at r0
              rw [e1] at r1
              rw [e2] at r2 r3 r4 r5
              subst r0 r1 r2 r3 r4 r5
              clear e0 e1 e2
              clear hyes hnot hc hne hno
              go_wp2_with fail
              exact bodyPost_ret (v := .tuple #[.agg #[.int .i64 0, .int .i64 0, .int .i64 0, .int .i64 0, .int .i64 0], .int .i64 3]) (by simp [results, Tryd.results10, go_sem, c0, c1, c2, c3, c4]) rfl ⟨rfl, hR.end5 _ _ _ _ _⟩
        · have ht : (((({ data := #[x0, x1, x2, x3] } : ByteArray)[2]'(show 2 < 4 by decide)).toNat : Int) == 45) = true := by rw [HLT.out.2.2.1, hq]; rfl
          obtain ⟨hu1, hu2⟩ := used_same hq
          obtain ⟨hu3, hu4⟩ := hu2 ops
          have HN := Lib.hid (show v = used o (2 + 1) + 1 by omega)
          have HGO := Lib.hid (step_ok HOK.out hu4)
          have HSM := Lib.hid (fv_same (o := o) (ops := ops) hlt hu3)
          clear hq hu1 hu2 hu3 hu4 hv
          go_wp2_with fail
          go_roundw
          case rel => exact ⟨3, v, by omega, rfl, rfl, HN.out, HGO.out, HBLK.out.eq HSM.out, HBL.out⟩
          case measure => simp [intOf]
      · rcases letter_at HOP.out hlt with hq | hq
        · have hrn : ¬ isReg (shL o 3) := by unfold isReg; omega
          have hm : isNum (shL o 3) := by unfold isNum; omega
          have ht : (((({ data := #[x0, x1, x2, x3] } : ByteArray)[3]'(show 3 < 4 by decide)).toNat : Int) == 45) = false := by rw [HLT.out.2.2.2, beq_eq_false_iff_ne]; omega
          have hmore := used_more (.inr hm)
          by_cases hge : ops.length ≤ used o 3
          · have hno : okTo o ops 4 = false := step_no hlt (by rw [wAt_none hge]; exact opdOk_nil (.inr hm))
            have hR := HRR.out.keep HBL.out
            have c0 := hR.c0; have c1 := hR.c1; have c2 := hR.c2; have c3 := hR.c3; have c4 := hR.c4; have f0 := hR.f0; have f1 := hR.f1; have f2 := hR.f2; have f3 := hR.f3; have f4 := hR.f4
            obtain ⟨e0, e1, e2⟩ := pErr_no (pGood_false HO.out (.inl hno))
            obtain ⟨r0, r1, r2, r3, r4, r5⟩ := HR.out
            rw [e0] at r0
            rw [e1] at r1
            rw [e2] at r2 r3 r4 r5
            subst r0 r1 r2 r3 r4 r5
            clear e0 e1 e2
            have hge' : ops.length + 1 ≤ v := by omega
            clear hq hrn hm hmore hno hge hv
            go_wp2_with fail
            exact bodyPost_ret (v := .tuple #[.agg #[.int .i64 0, .int .i64 0, .int .i64 0, .int .i64 0, .int .i64 0], .int .i64 3]) (by simp [results, Tryd.results10, go_sem, c0, c1, c2, c3, c4]) rfl ⟨rfl, hR.end5 _ _ _ _ _⟩
          · have hlu : used o 3 < ops.length := by omega
            have hx := wAt_some hlu
            have hmem := List.mem_of_getElem? hx
            have hcell := HC3.out _ _ hx
            rw [← hv] at hcell
            have hcw := (HBL.out.cell (p := ⟨g, v, none⟩) (cell_lt hcell)).trans hcell
            have hf := num_field (ops := ops) hrn hm
            have hlx := HE.out _ hmem
            have hne := HNE.out _ hmem
            have hlv : v < ops.length + 1 := by omega
            have hs1 := @step_ok o ops 3 HOK.out
            have hs2 := @step_no o ops 3 hlt
            generalize wAt ops (used o 3) = xw at *
            rw [hf.1] at hs1 hs2
            have HF2 := Lib.hid hf.2
            have HM := Lib.hid (show v + 1 = used o (3 + 1) + 1 by rw [hmore, ← hv])
            have HS1 := Lib.hid hs1
            have HS2 := Lib.hid hs2
            clear hcell hf hx hmem hlu hge hmore hq hrn hm hs1 hs2 hv
            clear hne
            have HLN := Lib.hid (show (xw).length ≤ 4294967296 by omega)
            cases hnk : numOk (xw)
            · have hno : okTo o ops 4 = false := HS2.out (hnk)
              have HNK := Lib.hid hnk
              have HNV := Lib.hid (num_no hnk)
              have hR := HRR.out.keep HBL.out
              have c0 := hR.c0; have c1 := hR.c1; have c2 := hR.c2; have c3 := hR.c3; have c4 := hR.c4; have f0 := hR.f0; have f1 := hR.f1; have f2 := hR.f2; have f3 := hR.f3; have f4 := hR.f4
              obtain ⟨e0, e1, e2⟩ := pErr_no (pGood_false HO.out (.inl hno))
              obtain ⟨r0, r1, r2, r3, r4, r5⟩ := HR.out
              rw [e0] at r0
              rw [e1] at r1
              rw [e2] at r2 r3 r4 r5
              subst r0 r1 r2 r3 r4 r5
              clear e0 e1 e2
              clear hno hnk
              go_wp2_with (go_at_call 12; ((with_reducible refine (refNumber_to (xw) 0 false _ HLN.out HNV.out HNK.out).mono ?_); rintro e w5 ⟨rfl, rfl⟩))
              exact bodyPost_ret (v := .tuple #[.agg #[.int .i64 0, .int .i64 0, .int .i64 0, .int .i64 0, .int .i64 0], .int .i64 3]) (by simp [results, Tryd.results10, go_sem, c0, c1, c2, c3, c4]) rfl ⟨rfl, hR.end5 _ _ _ _ _⟩
            · have hgo : okTo o ops (3 + 1) = true := HS1.out (hnk)
              obtain ⟨nv, hnv⟩ : ∃ y, numV (xw) = y := ⟨_, rfl⟩
              have hfd : fldR o ops 3 = nv := by rw [HF2.out]; exact hnv
              have hset := fv_set (o := o) (ops := ops) hlt
              rw [hfd] at hset
              have HNK := Lib.hid hnk
              have HNV := Lib.hid hnv
              have HGO := Lib.hid hgo
              have HSET := Lib.hid hset
              have cl := HBLK.out.cell 3
              have fl := HBLK.out.free 3
              simp only [List.getElem?_toArray, List.getElem?_cons_zero, List.getElem?_cons_succ] at cl
              clear hnk hnv hgo hset hfd
              go_wp2_with (go_at_call 12; ((with_reducible refine (refNumber_to (xw) nv true _ HLN.out HNV.out HNK.out).mono ?_); rintro e w5 ⟨rfl, rfl⟩))
              go_roundw
              case rel => exact ⟨4, v + 1, by omega, rfl, by go_num, HM.out, HGO.out, (HBLK.out.set 3 (.int .i64 nv)).eq HSET.out, HBL.out.setCell (p := ⟨w2.heap.size, 3, none⟩) (Nat.le_refl _) _⟩
              case measure => simp [intOf]
        · have ht : (((({ data := #[x0, x1, x2, x3] } : ByteArray)[3]'(show 3 < 4 by decide)).toNat : Int) == 45) = true := by rw [HLT.out.2.2.2, hq]; rfl
          obtain ⟨hu1, hu2⟩ := used_same hq
          obtain ⟨hu3, hu4⟩ := hu2 ops
          have HN := Lib.hid (show v = used o (3 + 1) + 1 by omega)
          have HGO := Lib.hid (step_ok HOK.out hu4)
          have HSM := Lib.hid (fv_same (o := o) (ops := ops) hlt hu3)
          clear hq hu1 hu2 hu3 hu4 hv
          go_wp2_with fail
          go_roundw
          case rel => exact ⟨4, v, by omega, rfl, rfl, HN.out, HGO.out, HBLK.out.eq HSM.out, HBL.out⟩
          case measure => simp [intOf]
    · obtain rfl : k = 4 := by omega
      have b0 := HBLK.out.cell 0; have b1 := HBLK.out.cell 1; have b2 := HBLK.out.cell 2; have b3 := HBLK.out.cell 3
      simp only [List.getElem?_toArray, List.getElem?_cons_zero, List.getElem?_cons_succ] at b0 b1 b2 b3
      have hfv : ∀ j, j < 4 → fvOf o ops 4 j = fldR o ops j := fun j hj => if_pos hj
      rw [hfv 0 (by decide)] at b0
      rw [hfv 1 (by decide)] at b1
      rw [hfv 2 (by decide)] at b2
      rw [hfv 3 (by decide)] at b3
      have hR := HRR.out.keep HBL.out
      have c0 := hR.c0; have c1 := hR.c1; have c2 := hR.c2; have c3 := hR.c3; have c4 := hR.c4; have f0 := hR.f0; have f1 := hR.f1; have f2 := hR.f2; have f3 := hR.f3; have f4 := hR.f4
      by_cases hm : ops.length = used o 4
      · obtain ⟨e0, e1⟩ := pGood_true HO.out HZ.out HOK.out hm
        have hvn : ((v : Int) != (ops.length : Int) + 1) = false := by rw [bne_eq_false_iff_eq]; omega
        obtain ⟨r0, r1, r2, r3, r4, r5⟩ := HR.out
        rw [e0] at r0
        unfold pO at r1
        unfold pF at r2 r3 r4 r5
        rw [e0, r0, e1] at r1 r2 r3 r4 r5
        rw [show (nw :: ops).tail = ops from rfl] at r2 r3 r4 r5
        obtain ⟨y0, hy0⟩ : ∃ x, fldR o ops 0 = x := ⟨_, rfl⟩
        obtain ⟨y1, hy1⟩ : ∃ x, fldR o ops 1 = x := ⟨_, rfl⟩
        obtain ⟨y2, hy2⟩ : ∃ x, fldR o ops 2 = x := ⟨_, rfl⟩
        obtain ⟨y3, hy3⟩ : ∃ x, fldR o ops 3 = x := ⟨_, rfl⟩
        rw [hy0, hy1, hy2, hy3] at r0
        rw [hy0] at r2 b0
        rw [hy1] at r3 b1
        rw [hy2] at r4 b2
        rw [hy3] at r5 b3
        have R0 := Lib.hid r0
        have hI := InsW.new w wr o y0 y1 y2 y3 23 hR.below hR.le
        have hR := hR.alloc (.cells #[.int .i64 o, .int .i64 y0, .int .i64 y1, .int .i64 y2, .int .i64 y3] 23)
        clear hm e0 e1 hy0 hy1 hy2 hy3 hfv r0 hv hv5 hlt c0 c1 c2 c3 c4 f0 f1 f2 f3 f4
        by_cases hzE : zE = 0
        · rw [if_pos hzE] at r1 r2 r3 r4 r5
          subst r1 r2 r3 r4 r5 hzE
          go_wp2_with (go_at_call 23; ((with_reducible refine (refCheckI_is o y0 y1 y2 y3 0 _ R0.out).mono ?_); rintro e w6 ⟨rfl, hq⟩); have hR := hR.keep hq; have hI := hI.keep hq; have c0 := hR.c0; have c1 := hR.c1; have c2 := hR.c2; have c3 := hR.c3; have c4 := hR.c4; have f0 := hR.f0; have f1 := hR.f1; have f2 := hR.f2; have f3 := hR.f3; have f4 := hR.f4; have i0 := hI.c0; have i1 := hI.c1; have i2 := hI.c2; have i3 := hI.c3; have i4 := hI.c4; clear hq b0 b1 b2 b3)
          exact bodyPost_ret (v := .tuple #[.agg #[.int .i64 o, .int .i64 y0, .int .i64 y1, .int .i64 y2, .int .i64 y3], .int .i64 0]) (by simp [results, Tryd.results10, go_sem, c0, c1, c2, c3, c4]) rfl ⟨rfl, hR.end5 _ _ _ _ _⟩
        · rw [if_neg hzE] at r1 r2 r3 r4 r5
          subst r1 r2 r3 r4 r5
          have hzE' : (zE != 0) = true := by simpa using hzE
          clear hzE
          go_wp2_with (go_at_call 23; ((with_reducible refine (refCheckI_is o y0 y1 y2 y3 zE _ R0.out).mono ?_); rintro e w6 ⟨rfl, hq⟩); have hR := hR.keep hq; have c0 := hR.c0; have c1 := hR.c1; have c2 := hR.c2; have c3 := hR.c3; have c4 := hR.c4; have f0 := hR.f0; have f1 := hR.f1; have f2 := hR.f2; have f3 := hR.f3; have f4 := hR.f4; clear hq b0 b1 b2 b3)
          exact bodyPost_ret (v := .tuple #[.agg #[.int .i64 0, .int .i64 0, .int .i64 0, .int .i64 0, .int .i64 0], .int .i64 zE]) (by simp [results, Tryd.results10, go_sem, c0, c1, c2, c3, c4]) rfl ⟨rfl, hR.end5 _ _ _ _ _⟩
      · have hvn : ((v : Int) != (ops.length : Int) + 1) = true := by rw [bne_iff_ne]; omega
        obtain ⟨e0, e1, e2⟩ := pErr_no (pGood_false HO.out (.inr hm))
        obtain ⟨r0, r1, r2, r3, r4, r5⟩ := HR.out
        rw [e0] at r0
        rw [e1] at r1
        rw [e2] at r2 r3 r4 r5
        subst r0 r1 r2 r3 r4 r5
        clear e0 e1 e2 hm hfv hv hv5 hlt b0 b1 b2 b3
        go_wp2_with fail
        exact bodyPost_ret (v := .tuple #[.agg #[.int .i64 0, .int .i64 0, .int .i64 0, .int .i64 0, .int .i64 0], .int .i64 3]) (by simp [results, Tryd.results10, go_sem, c0, c1, c2, c3, c4]) rfl ⟨rfl, hR.end5 _ _ _ _ _⟩
theorem refParse_is (l : List UInt8) (w : World) (hl : l.length ≤ 1000) :
    Calls Tryd.prog 10 #[.string (txt l)] w (RetIns w (wds l)) := by
  cases h : wds l with
  | nil =>
    have hg : pGood [] = false := by
      unfold pGood pOp
      rw [show txt (wAt [] 0) = ⟨#[]⟩ from rfl, find_nil]
      rfl
    obtain ⟨e0, e1, e2⟩ := pErr_no hg
    unfold RetIns
    rw [e0, e1, e2, e2, e2, e2]
    exact refParse_none l w hl h
  | cons nw ops =>
    by_cases hz : wFind (txt nw) = 0
    · have hg : pGood (nw :: ops) = false := by
        have e : pOp (nw :: ops) = 0 := hz
        unfold pGood
        rw [e]
        rfl
      obtain ⟨e0, e1, e2⟩ := pErr_no hg
      unfold RetIns
      rw [e0, e1, e2, e2, e2, e2]
      exact refParse_name l nw ops w hl h hz
    · exact refParse_op l nw ops _ w hl h rfl hz
end Go.Proofs.YtheflkhbmbfajaaDoor
