/- Package build: a draft's words, with the places of names put where they are used. Conditions: as few as 900. -/
import Derived.Test.YtgmphfagflhglaaGreatDoorBldB
import Derived.Lib.Builder
import Derived.Lib.SliceRun
namespace Go.Proofs.YtgmphfagflhglaaGreatDoor
open Go.RowKit Go.Maps Go.IntWalk

/-- Each use stands at an instruction. -/
def Fit (s : Bst) : Prop := ∀ u ∈ s.us, 0 ≤ u.2 ∧ u.2 < s.L.length
theorem Fit.nil : Fit ⟨[], [], []⟩ := fun _ h => by cases h
theorem Fit.add {s : Bst} (h : Fit s) (l : List I5) : Fit (s.add l) := fun u hu => ⟨(h u hu).1, by
  have := (h u hu).2
  show _ < ((s.L ++ l).length : Int)
  rw [List.length_append]; omega⟩
theorem Fit.lab {s : Bst} (h : Fit s) (n : ByteArray) (p : Int) : Fit (s.lab n p) := h
theorem Fit.used {s : Bst} (h : Fit s) (n : ByteArray) (i : I5) : Fit ((s.use n s.L.length).add [i]) := fun u hu => by
  have hl : ((s.use n s.L.length).add [i]).L.length = s.L.length + 1 := by show (s.L ++ [i]).length = _; rw [List.length_append]; rfl
  rw [hl]
  have hu : u ∈ useS s.us n s.L.length := hu
  unfold useS at hu
  split at hu
  · rcases List.mem_append.1 hu with q | q
    · have := h u q; omega
    · rw [List.mem_singleton] at q; subst q; show 0 ≤ (s.L.length : Int) ∧ (s.L.length : Int) < _; omega
  · have := h u hu; omega
theorem Fit.ins {s : Bst} (h : Fit s) (i : I5) : Fit (s.ins i) := by unfold Bst.ins; split; exact h.add _; exact h
theorem Fit.goes {s : Bst} (h : Fit s) (o d a : Int) (n : ByteArray) : Fit (s.goes o d a n) := by unfold Bst.goes; split; exact h.used _ _; exact h
theorem Fit.setR {s : Bst} (h : Fit s) (d n : Int) : Fit (s.setR d n) := by unfold Bst.setR; split; exact h.add _; exact h
theorem Fit.opens {s : Bst} (h : Fit s) (c l n : Int) (nm : ByteArray) : Fit (s.opens c l n nm) := by unfold Bst.opens; split; exact (h.lab _ _).add _; exact h
theorem Fit.shuts {s : Bst} (h : Fit s) (c l : Int) (nm : ByteArray) : Fit (s.shuts c l nm) := (h.add _).goes _ _ _ _
theorem Fit.res {s : Bst} (h : Fit s) : ∀ f ∈ resL s.ds s.us, 0 ≤ f.1 ∧ f.1 < s.L.length := by
  intro f hf
  unfold resL at hf
  split at hf
  · cases hf
  · obtain ⟨u, hu, rfl⟩ := List.mem_map.1 hf
    exact h u hu
/-- The instructions behind the first k fixes. -/
def fixedL (L : List I5) (fx : List (Int × Int)) (k : Nat) : List I5 := (List.range L.length).map fun i : Nat => fixI (fx.take k) i (el L i)
theorem fixedL_len (L : List I5) (fx : List (Int × Int)) (k : Nat) : (fixedL L fx k).length = L.length := by simp [fixedL]
theorem fixedL_el (L : List I5) (fx : List (Int × Int)) (k : Nat) {i : Nat} (hi : i < L.length) : el (fixedL L fx k) i = fixI (fx.take k) i (el L i) := by
  have h : i < (fixedL L fx k).length := by rw [fixedL_len]; exact hi
  rw [← el_eq h]; simp [fixedL]
theorem fixedL_zero (L : List I5) (fx : List (Int × Int)) : fixedL L fx 0 = L := by
  refine List.ext_getElem (fixedL_len _ _ _) fun i h1 h2 => ?_
  rw [el_eq h1, el_eq h2, fixedL_el L fx 0 h2]; rfl
theorem fixedL_set {L : List I5} {fx : List (Int × Int)} {k p : Nat} {x0 x1 x2 x3 x4 : Int} (hk : k < fx.length) (hp : (el fx k).1 = (p : Int)) (hx : el (fixedL L fx k) p = (x0, x1, x2, x3, x4)) :
    (fixedL L fx k).set p (x0, x1, x2, x3, (el fx k).2) = fixedL L fx (k + 1) := by
  refine List.ext_getElem (by rw [List.length_set, fixedL_len, fixedL_len]) fun i h1 h2 => ?_
  have hi : i < L.length := by rw [fixedL_len] at h2; exact h2
  rw [List.getElem_set, el_eq h2, fixedL_el L fx (k + 1) hi]
  unfold fixI
  rw [fixN_take fx i _ hk]
  by_cases e : p = i
  · subst e
    rw [if_pos rfl, if_pos hp]
    rw [fixedL_el L fx k hi] at hx
    unfold fixI at hx
    simp only [Prod.mk.injEq] at hx
    rw [hx.1, hx.2.1, hx.2.2.1, hx.2.2.2.1]
  · rw [if_neg e, if_neg (by omega), el_eq (by rw [fixedL_len]; exact hi), fixedL_el L fx k hi]; rfl
theorem infoU32A : (Tryz.prog.info? 50).map (fun i => (i.zero, i.size, i.bytes)) = some (some (.int .u32 0), 1, 4) := by kernel_rfl
theorem insNil (a : Option Addr) (n c n' c' : Nat) (w : World) : Sem.run Tryz.prog (binOp .eql 44 (.slice a n c) (.slice none n' c')) w = .ok (.bool a.isNone) w := Lib.run_eql_slice_nil w _ _ a n c n' c' Tryz.underlying44
/-- A list of instructions of the call's own is answered. -/
def RetIns (w : World) (l : List I5) (e : Ending) (w' : World) : Prop := ∃ v, e = .returned v ∧ OwnEl insK w' w.heap.size 29 v l ∧ Below w.heap.size w w'
set_option maxRecDepth 100000 in
set_option maxHeartbeats 2000000 in
theorem bldClone_is {w : World} {a : Option Addr} {n c : Nat} {l : List I5} (h : ElAt insK w a n c l) (hn : n ≤ 2048) : Calls Tryz.prog 43 #[.slice a n c] w (RetIns w l) := by
  obtain ⟨i0, hi, hz0, hz1, hz2⟩ := info_el infoInsA
  have hq := insNil
  have hl := h.len
  cases a with
  | none =>
    obtain ⟨rfl, rfl, rfl⟩ := h.none_eq
    clear h
    go_enter Tryz.func43, Tryz.ntmps43
    go_wp2
    go_ret
    exact ⟨_, rfl, OwnEl.nil _ _ _ _, Below.refl _ _⟩
  | some ad =>
    have k1 := (Below.refl w.heap.size w).alloc (Nat.le_refl _) (.cells #[] 29)
    have ho : OwnEl insK (w.alloc (.cells #[] 29)) w.heap.size 29 (.slice (some ⟨w.heap.size, 0, none⟩) 0 0) [] := OwnEl.lit (K := insK) (base := w.heap.size) w 29 (Nat.le_refl _) [] (by unfold maxLen; simp) #[] rfl
    have HE := Lib.hid (h.keep k1)
    have HO := Lib.hid ho
    have HK := Lib.hid k1
    have hl0 : ([] : List I5).length + n ≤ 1048576 := by simp; omega
    clear h ho k1 hl
    go_enter Tryz.func43, Tryz.ntmps43
    go_wp2_with (at_builtin; refine wpList_append_els rfl _ _ 44 rfl w.heap.size 29 i0 _ Tryz.underlying44 hi hz0 hz1 (by omega) rfl rfl HO.out rfl HE.out hl0 (by simp) ?_; intro v2 w5 hown2 hgrow2; have HO5 := Lib.hid hown2; have HG5 := Lib.hid (HK.out.grown hgrow2 (by simp) (fun j q => (HO.out.lt j q).1)); clear hown2 hgrow2)
    go_ret
    exact ⟨_, rfl, HO5.out, HG5.out⟩
set_option maxRecDepth 100000 in
set_option maxHeartbeats 4000000 in
theorem drWords_is (B d : Nat) (s : Bst) (F : Nat → Prop) (fx : List (Int × Int)) (af : Option Addr) (nf cf : Nat) (w : World) (h : DrAt B w d s F) (hL : ShapesLaid w) (hf : ElAt fixK w af nf cf fx) (hn : s.L.length ≤ 900) (hfx : ∀ f ∈ fx, 0 ≤ f.1 ∧ f.1 < s.L.length) (hnf : nf ≤ 1000) :
    Calls Tryz.prog 25 #[.pointer (some ⟨d, 0, none⟩), .slice af nf cf] w fun e w' => ∃ v, e = .returned v ∧ OwnW .u32 w' w.heap.size 50 v (wordsK s.L fx s.L.length) ∧ Below w.heap.size w w' := by
  obtain ⟨t, v, G, h⟩ := h
  obtain ⟨av, cv, rfl, hel⟩ := h.own.at
  have c1 := h.blk.cell 1
  have HC := Lib.hid (bldClone_is hel (by omega))
  have HF := Lib.hid hf
  have HFX := Lib.hid hfx
  have HL := Lib.hid hL
  have hlf := hf.len
  obtain ⟨N, hN⟩ : ∃ N, s.L.length = N := ⟨_, rfl⟩
  rw [hN] at c1 hn HFX HC hel
  have hn : N ≤ 900 := by omega
  obtain ⟨i0, hi, hz0, hz1, hz2⟩ := info_el infoU32A
  clear h hL hf hfx hel
  go_enter Tryz.func25, Tryz.ntmps25
  go_wp2_with (go_at_call 43; ((with_reducible refine (HC.out).mono ?_); rintro e w1 ⟨v1, rfl, ho, hb⟩); have HO := Lib.hid ho; have HB := Lib.hid hb; clear ho hb)
  obtain ⟨a1, k1, e1, -⟩ := HO.out.at
  rw [hN] at e1
  subst e1
  go_loopw [7, 20] (fun _ i wr => ∃ k : Nat, k ≤ nf ∧ i = .int .i64 k ∧ OwnEl insK wr w.heap.size 29 (.slice a1 N k1) (fixedL s.L fx k) ∧ Below w.heap.size w wr) (fun _ i _ => nf - (intOf i).toNat)
  case atStart => exact ⟨0, by omega, rfl, by rw [fixedL_zero]; exact HO.out, HB.out⟩
  case round =>
    obtain ⟨k, hk, rfl, ho, hb⟩ := hrel
    have HOk := Lib.hid ho
    have HBk := Lib.hid hb
    have hlN := (fixedL_len s.L fx k).trans hN
    by_cases hlt : k < nf
    · obtain ⟨gf, of, rfl, r0, r1⟩ := (HF.out.keep hb).fix hlt
      have hlt' : (k : Int) < nf := by omega
      have hkl : k < fx.length := by omega
      have hr := HFX.out (el fx k) (by rw [← el_eq hkl]; exact List.getElem_mem _)
      obtain ⟨p, hp⟩ : ∃ p : Nat, (el fx k).1 = (p : Int) := ⟨(el fx k).1.toNat, by omega⟩
      rw [hp] at r0 hr
      have hpN : p < N := by omega
      have hpN' : (p : Int) < N := by omega
      obtain ⟨g, cap, e2, g1, g2, g3, g4⟩ := ho.form hlN (by omega)
      simp only [Value.slice.injEq] at e2
      obtain ⟨rfl, -, rfl⟩ := e2
      obtain ⟨X, hX⟩ : ∃ X, el (fixedL s.L fx k) p = X := ⟨_, rfl⟩
      obtain ⟨x0, x1, x2, x3, x4⟩ := X
      have HS := Lib.hid (fixedL_set hkl hp hX)
      have f4 := ho.free hlN (p * 5 + 4)
      have q4 := ho.cell hlN hpN (show 4 < 5 by decide)
      rw [hX] at q4
      have q4 : wr.cell? ⟨g, p * 5 + 4, none⟩ = some (.int .i64 x4) := q4
      have HOA := Lib.hid (fun (x : Obj) (u : Int) => (OwnEl.set HOk.out hlN hpN (show 4 < insK.k by decide) (x := (x0, x1, x2, x3, u)) (u := .int .i64 u) (by rw [hX]; rfl)).keep ((Below.refl _ _).alloc (Nat.le_refl _) x))
      have HBA := Lib.hid (fun (x : Obj) (u : Value) => (HBk.out.setCell (p := ⟨g, p * 5 + 4, none⟩) g1 u).alloc (HBk.out.setCell (p := ⟨g, p * 5 + 4, none⟩) g1 u).size x)
      generalize (el fx k).2 = to at *
      clear ho hb hX
      go_wp2
      go_roundw
      case rel => exact ⟨k + 1, by omega, by go_num, HS.out ▸ HOA.out _ _, HBA.out _ _⟩
      case measure => simp [intOf]; omega
    · obtain rfl : k = nf := by omega
      clear ho hb
      obtain ⟨a2, c2, e2, hel⟩ := HOk.out.at
      rw [hlN] at hel e2
      simp only [Value.slice.injEq] at e2
      obtain ⟨rfl, -, rfl⟩ := e2
      have HEL := Lib.hid hel
      clear hel
      generalize wr = W1 at *
      go_wp2
      go_loopw [8, 10, 34] (fun v _ i wz => ∃ m : Nat, m ≤ N ∧ i = .int .i64 m ∧ OwnW .u32 wz W1.heap.size 50 v (wordsK s.L fx m) ∧ Below W1.heap.size W1 wz) (fun _ _ i _ => N - (intOf i).toNat)
      case atStart => exact ⟨0, by omega, rfl, OwnW.nil _ _ _, Below.refl _ _⟩
      case round =>
        obtain ⟨m, hm, rfl, hv, hz⟩ := hrel
        have HV := Lib.hid hv
        have HZ := Lib.hid hz
        have HWZ := Lib.hid (HBk.out.trans (hz.mono HBk.out.size))
        have HNN := Lib.hid hN
        by_cases hlm : m < N
        · obtain ⟨g, off, rfl, d0, d1, d2, d3, d4⟩ := (HEL.out.keep hz).ins hlm
          have hlm' : (m : Int) < N := by omega
          have HX := Lib.hid (fixedL_el s.L fx k (i := m) (by omega))
          obtain ⟨X, hX⟩ : ∃ X, el (fixedL s.L fx k) m = X := ⟨_, rfl⟩
          rw [hX] at d0 d1 d2 d3 d4
          have HX := Lib.hid (show fixI fx m (el s.L m) = X by rw [← hX, HX.out, ← hlf, List.take_length])
          obtain ⟨x0, x1, x2, x3, x4⟩ := X
          simp only at d0 d1 d2 d3 d4
          have HW := Lib.hid (wordsK_next s.L fx m)
          have HXW := Lib.hid (show insW (fixI fx m (el s.L m)) = cEnc x0 x1 x2 x3 x4 by rw [HX.out]; rfl)
          have HLz := Lib.hid (HL.out.below HWZ.out HL.out.lt)
          have HEN := Lib.hid (fun w2 (hs : ShapesLaid w2) => codeEncode_is x0 x1 x2 x3 x4 (cEnc x0 x1 x2 x3 x4) (cChk x0 x1 x2 x3 x4) w2 hs rfl rfl)
          have HAL := Lib.hid (fun (w9 : World) (o : Obj) => (Below.refl w9.heap.size w9).alloc (Nat.le_refl _) o)
          have hlk := wordsK_len s.L fx m
          clear hv hz hX
          go_wp2_with (first
            | (go_at_call 44; ((with_reducible refine (HEN.out _ (HLz.out.below (HAL.out _ _) HLz.out.lt)).mono ?_); rintro e w5 ⟨rfl, hb5⟩); have HN5 := Lib.hid ((HAL.out _ _).trans (hb5.mono (HAL.out _ _).size)); clear hb5)
            | (at_builtin; refine wpList_append_1 rfl _ _ 30 rfl W1.heap.size 50 i0 (.int .u32 0) Tryz.underlying30 hi hz0 hz1 (by omega) rfl rfl ((HV.out.keep HN5.out).keep ((Below.refl _ _).alloc (Nat.le_refl _) _)) rfl ((BlkAt.new _ _ _).cell 0) (by omega) (by have := HZ.out.size; have := HN5.out.size; simp; omega) ?_; intro v' w' hown hgr hnx; have HOX := Lib.hid hown; have HBX := Lib.hid (((HZ.out.trans (HN5.out.mono HZ.out.size)).alloc (by have := HZ.out.size; have := HN5.out.size; omega) _).grown hgr (by have := HZ.out.size; have := HN5.out.size; simp; omega) fun j hj => (HV.out.lt j hj).1); obtain ⟨a2, c2, rfl, -⟩ := hown.wsn (m := m + 1) (by rw [List.length_append, hlk]; rfl); clear hown hgr hnx))
          go_roundw
          case rel => exact ⟨m + 1, by omega, by go_num, by rw [HW.out, HXW.out]; exact HOX.out, HBX.out⟩
          case measure => simp [intOf]; omega
        · obtain rfl : m = N := by omega
          obtain ⟨a0, c0', rfl, -⟩ := HV.out.wsn (wordsK_len s.L fx m)
          clear hv hz
          go_wp2
          go_ret
          exact ⟨_, rfl, HNN.out ▸ HV.out.mono HBk.out.size, HWZ.out⟩
end Go.Proofs.YtgmphfagflhglaaGreatDoor
