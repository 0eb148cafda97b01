/- Two counted loops behind a number put into a register, built: the builder's last state, and its words. Nothing of any program. -/
import Derived.Test.YtgmphfagflhglaaGreatDoorBldP
import Derived.Test.YtgmphfagflhglaaGreatDoorBldN
namespace Go.Proofs.YtgmphfagflhglaaGreatDoor
open Go.RowKit Go.IntWalk

def outerB : ByteArray := ⟨#[111, 117, 116, 101, 114]⟩
def innerB : ByteArray := ⟨#[105, 110, 110, 101, 114]⟩
theorem nm_outer : nameB outerB = true := by decide +kernel
theorem nm_inner : nameB innerB = true := by decide +kernel
/-- The builder behind each part. -/
def lpS0 (k : Int) : Bst := (⟨[], [], []⟩ : Bst).setR 5 k
def lpS1 (k x : Int) : Bst := (lpS0 k).opens 1 2 x outerB
def lpS2 (k x y : Int) : Bst := (lpS1 k x).opens 3 4 y innerB
def lpIn (s : Bst) : Bst := s.add [(31, 6, 6, 0, 1), (1, 7, 7, 1, 0), (1, 8, 8, 3, 0)]
def lpS3 (k x y : Int) : Bst := (lpIn (lpS2 k x y)).shuts 3 4 innerB
def lpS4 (k x y : Int) : Bst := (lpS3 k x y).shuts 1 2 outerB
def lpS5 (k x y : Int) : Bst := (lpS4 k x y).ins (43, 0, 0, 0, 0)
section
variable {k x y : Int} {L : List I5}
theorem st0 (k : Int) : lpS0 k = ⟨setI 5 k, [], []⟩ := by
  unfold lpS0 Bst.setR
  rw [if_pos (by decide)]; rfl
theorem st1 (hx : 1 ≤ x ∧ x ≤ 30) (L : List I5) : (⟨L, [], []⟩ : Bst).opens 1 2 x outerB = ⟨L ++ [(31, 1, 0, 0, 0), (31, 2, 0, 0, x)], [(outerB, (L.length : Int) + 2)], []⟩ := by
  have hk : loopOk 1 2 x := by unfold loopOk; omega
  have e := def_yes (ds := []) ((L.length : Int) + 2) nm_outer (show plB [] outerB = false by decide +kernel)
  unfold Bst.opens
  rw [if_pos ⟨hk, e.1⟩]
  show Bst.mk (L ++ _) (defS [] outerB ((L.length : Int) + 2)) [] = _
  rw [e.2]; rfl
theorem pl_out (p : Int) : plB [(outerB, p)] innerB = false := by
  have h : innerB ∉ ([(outerB, p)] : Df).map (·.1) := by
    intro q
    rw [List.map_cons, List.map_nil, List.mem_singleton] at q
    exact absurd (show innerB = outerB from q) (by decide +kernel)
  exact (pl_off h).1
theorem st2 (hy : 1 ≤ y ∧ y ≤ 30) (L : List I5) (p : Int) : (⟨L, [(outerB, p)], []⟩ : Bst).opens 3 4 y innerB = ⟨L ++ [(31, 3, 0, 0, 0), (31, 4, 0, 0, y)], [(outerB, p), (innerB, (L.length : Int) + 2)], []⟩ := by
  have hk : loopOk 3 4 y := by unfold loopOk; omega
  have e := def_yes (ds := [(outerB, p)]) ((L.length : Int) + 2) nm_inner (pl_out p)
  unfold Bst.opens
  rw [if_pos ⟨hk, e.1⟩]
  show Bst.mk (L ++ _) (defS [(outerB, p)] innerB ((L.length : Int) + 2)) [] = _
  rw [e.2]; rfl
theorem useS_yes {us : Df} {n : ByteArray} {p : Int} (h : nameB n = true) : useS us n p = us ++ [(n, p)] := by unfold useS; rw [h]; rfl
theorem st3 (c l : Int) (hc : 0 ≤ c ∧ c ≤ 31) (hl : 0 ≤ l ∧ l ≤ 31) {nm : ByteArray} (h : nameB nm = true) (L : List I5) (ds us : Df) : (⟨L, ds, us⟩ : Bst).shuts c l nm = ⟨L ++ [(31, c, c, 0, 1), (38, c, l, 0, 0)], ds, us ++ [(nm, (L.length : Int) + 1)]⟩ := by
  rw [shuts_is hc hl h]
  show Bst.mk ((L ++ [_]) ++ [_]) ds (useS us nm ((L.length : Int) + 1)) = _
  rw [useS_yes h, List.append_assoc]; rfl
theorem halt_ok : insE (43, 0, 0, 0, 0) = 0 := by decide +kernel
/-- The last state. -/
theorem lp_last (hx : 1 ≤ x ∧ x ≤ 30) (hy : 1 ≤ y ∧ y ≤ 30) : lpS5 k x y = ⟨setI 5 k ++ [(31, 1, 0, 0, 0), (31, 2, 0, 0, x), (31, 3, 0, 0, 0), (31, 4, 0, 0, y), (31, 6, 6, 0, 1), (1, 7, 7, 1, 0), (1, 8, 8, 3, 0), (31, 3, 3, 0, 1), (38, 3, 4, 0, 0), (31, 1, 1, 0, 1), (38, 1, 2, 0, 0), (43, 0, 0, 0, 0)],
    [(outerB, ((setI 5 k).length : Int) + 2), (innerB, ((setI 5 k).length : Int) + 4)], [(innerB, ((setI 5 k).length : Int) + 8), (outerB, ((setI 5 k).length : Int) + 10)]⟩ := by
  unfold lpS5 lpS4 lpS3 lpS2 lpS1 lpIn
  rw [st0, st1 hx, st2 hy]
  unfold Bst.add
  rw [st3 3 4 (by decide) (by decide) nm_inner, st3 1 2 (by decide) (by decide) nm_outer, ins_yes halt_ok]
  unfold Bst.add
  simp only [List.append_assoc, List.cons_append, List.nil_append, List.length_append, List.length_cons, List.length_nil]
  rw [Bst.mk.injEq]
  refine ⟨rfl, ?_, ?_⟩
  · simp; omega
  · simp; omega
/-- How much is kept. -/
theorem lp_sizes (hx : 1 ≤ x ∧ x ≤ 30) (hy : 1 ≤ y ∧ y ≤ 30) : (lpS0 k).L.length ≤ 2 ∧ (lpS0 k).ds.length = 0 ∧ (lpS0 k).us.length = 0 ∧ (lpS1 k x).L.length ≤ 4 ∧ (lpS1 k x).ds.length = 1 ∧ (lpS1 k x).us.length = 0 ∧ defE (lpS0 k).ds outerB = 0 ∧ defE (lpS1 k x).ds innerB = 0 ∧
    (lpS3 k x y).L.length ≤ 20 ∧ (lpS3 k x y).ds.length = 2 ∧ (lpS3 k x y).us.length = 1 ∧ (lpS4 k x y).L.length ≤ 20 ∧ (lpS5 k x y).L.length ≤ 20 ∧ (lpS5 k x y).us.length = 2 := by
  have hl : (setI 5 k).length ≤ 2 := by unfold setI; split <;> simp
  have e1 : lpS1 k x = ⟨setI 5 k ++ [(31, 1, 0, 0, 0), (31, 2, 0, 0, x)], [(outerB, ((setI 5 k).length : Int) + 2)], []⟩ := by unfold lpS1; rw [st0, st1 hx]
  have e3 : ∃ p q r, lpS3 k x y = ⟨setI 5 k ++ [(31, 1, 0, 0, 0), (31, 2, 0, 0, x)] ++ [(31, 3, 0, 0, 0), (31, 4, 0, 0, y)] ++ [(31, 6, 6, 0, 1), (1, 7, 7, 1, 0), (1, 8, 8, 3, 0)] ++ [(31, 3, 3, 0, 1), (38, 3, 4, 0, 0)], [(outerB, p), (innerB, q)], [(innerB, r)]⟩ := by
    unfold lpS3 lpS2 lpIn
    rw [e1, st2 hy]
    unfold Bst.add
    rw [st3 3 4 (by decide) (by decide) nm_inner]
    exact ⟨_, _, _, rfl⟩
  obtain ⟨p, q, r, e3⟩ := e3
  have e4 : ∃ u, lpS4 k x y = ⟨setI 5 k ++ [(31, 1, 0, 0, 0), (31, 2, 0, 0, x)] ++ [(31, 3, 0, 0, 0), (31, 4, 0, 0, y)] ++ [(31, 6, 6, 0, 1), (1, 7, 7, 1, 0), (1, 8, 8, 3, 0)] ++ [(31, 3, 3, 0, 1), (38, 3, 4, 0, 0)] ++ [(31, 1, 1, 0, 1), (38, 1, 2, 0, 0)], [(outerB, p), (innerB, q)], [(innerB, r)] ++ [(outerB, u)]⟩ := by
    unfold lpS4
    rw [e3, st3 1 2 (by decide) (by decide) nm_outer]
    exact ⟨_, rfl⟩
  obtain ⟨u, e4⟩ := e4
  have e5 : lpS5 k x y = (lpS4 k x y).add [(43, 0, 0, 0, 0)] := by unfold lpS5; rw [ins_yes halt_ok]
  rw [e5, e4, e3, e1, st0]
  refine ⟨hl, rfl, rfl, ?_, rfl, rfl, (def_yes (ds := []) 0 nm_outer (show plB [] outerB = false by decide +kernel)).1, (def_yes (ds := [(outerB, _)]) 0 nm_inner (pl_out _)).1, ?_, rfl, rfl, ?_, ?_, rfl⟩
  all_goals
    try unfold Bst.add
    simp only [List.length_append, List.length_cons, List.length_nil]
    omega
end
theorem insW_ok {o d a b n : Int} (h : cChk o d a b n = 0) : insW (o, d, a, b, n) = cWord o d a b n := by
  show cEnc o d a b n = _
  unfold cEnc; rw [if_pos h]
theorem lp_words (l : List I5) (w : List Int) (X Y p : Nat) (hX : 1 ≤ X ∧ X ≤ 30) (hY : 1 ≤ Y ∧ Y ≤ 30) (hp : l.length = p) (hw : l.map insW = w) (h2 : p ≤ 2) (fx : List (Int × Int)) (hf : fx = [((p : Int) + 8, (p : Int) + 4), ((p : Int) + 10, (p : Int) + 2)]) :
    wordsK (l ++ [(31, 1, 0, 0, 0), (31, 2, 0, 0, (X : Int)), (31, 3, 0, 0, 0), (31, 4, 0, 0, (Y : Int)), (31, 6, 6, 0, 1), (1, 7, 7, 1, 0), (1, 8, 8, 3, 0), (31, 3, 3, 0, 1), (38, 3, 4, 0, 0), (31, 1, 1, 0, 1), (38, 1, 2, 0, 0), (43, 0, 0, 0, 0)]) fx (p + 12) = w ++ lpTwo p X Y := by
  subst hf
  have e0 := insW_ok (chk_addi (d := 1) (a := 0) (n := 0) (by decide) (by decide) (by decide))
  have e1 := insW_ok (chk_addi (d := 2) (a := 0) (n := (X : Int)) (by decide) (by decide) (by omega))
  have e2 := insW_ok (chk_addi (d := 3) (a := 0) (n := 0) (by decide) (by decide) (by decide))
  have e3 := insW_ok (chk_addi (d := 4) (a := 0) (n := (Y : Int)) (by decide) (by decide) (by omega))
  have e4 := insW_ok (chk_addi (d := 6) (a := 6) (n := 1) (by decide) (by decide) (by decide))
  have e5 := insW_ok (chk_add (d := 7) (a := 7) (b := 1) (by decide) (by decide) (by decide))
  have e6 := insW_ok (chk_add (d := 8) (a := 8) (b := 3) (by decide) (by decide) (by decide))
  have e7 := insW_ok (chk_addi (d := 3) (a := 3) (n := 1) (by decide) (by decide) (by decide))
  have e8 := insW_ok (chk_blt (d := 3) (a := 4) (n := ((p + 4 : Nat) : Int)) (by decide) (by decide) (by omega))
  have e9 := insW_ok (chk_addi (d := 1) (a := 1) (n := 1) (by decide) (by decide) (by decide))
  have e10 := insW_ok (chk_blt (d := 1) (a := 2) (n := ((p + 2 : Nat) : Int)) (by decide) (by decide) (by omega))
  have e11 := insW_ok chk_halt
  rcases (show p = 1 ∨ p = 2 ∨ p = 0 by omega) with rfl | rfl | rfl
  · match l, hp with
    | [i], _ =>
      obtain ⟨o, d, a, b, n⟩ := i
      subst hw
      show [insW _, insW _, insW _, insW _, insW _, insW _, insW _, insW _, insW _, insW _, insW _, insW _, insW _] = _
      unfold lpTwo
      rw [← e0, ← e1, ← e2, ← e3, ← e4, ← e5, ← e6, ← e7, ← e8, ← e9, ← e10, ← e11]
      rfl
  · match l, hp with
    | [i, j], _ =>
      obtain ⟨o, d, a, b, n⟩ := i
      obtain ⟨o', d', a', b', n'⟩ := j
      subst hw
      unfold lpTwo
      rw [← e0, ← e1, ← e2, ← e3, ← e4, ← e5, ← e6, ← e7, ← e8, ← e9, ← e10, ← e11]
      rfl
  · match l, hp with
    | [], _ =>
      subst hw
      unfold lpTwo
      rw [← e0, ← e1, ← e2, ← e3, ← e4, ← e5, ← e6, ← e7, ← e8, ← e9, ← e10, ← e11]
      rfl
theorem setI_words (k : Int) : (setI 5 k).map insW = setL k := by
  unfold setI setL
  split
  · show [insW _] = _
    rw [insW_ok (chk_addi (by decide) (by decide) (by omega))]
  · show [insW _, insW _] = _
    rw [insW_ok (chk_lui (by decide) (by omega)), insW_ok (chk_ori (by decide) (by decide) (by omega))]
theorem setI_len (k : Int) : (setI 5 k).length = 1 ∨ (setI 5 k).length = 2 := by unfold setI; split <;> simp
theorem lp_res (p : Nat) (hp : p = 1 ∨ p = 2) : resE [(outerB, (p : Int) + 2), (innerB, (p : Int) + 4)] [(innerB, (p : Int) + 8), (outerB, (p : Int) + 10)] = 0 ∧ resN [(outerB, (p : Int) + 2), (innerB, (p : Int) + 4)] [(innerB, (p : Int) + 8), (outerB, (p : Int) + 10)] = ⟨#[]⟩ ∧
    resL [(outerB, (p : Int) + 2), (innerB, (p : Int) + 4)] [(innerB, (p : Int) + 8), (outerB, (p : Int) + 10)] = [((p : Int) + 8, (p : Int) + 4), ((p : Int) + 10, (p : Int) + 2)] := by
  rcases hp with rfl | rfl <;> decide +kernel
theorem lp_fin (k : Int) {X Y : Nat} (hX : 1 ≤ X ∧ X ≤ 30) (hY : 1 ≤ Y ∧ Y ≤ 30) : finE (lpS5 k X Y) = 0 ∧ finN (lpS5 k X Y) = ⟨#[]⟩ ∧ finW (lpS5 k X Y) = loopsL k X Y := by
  have hw := setI_words k
  have hl := setI_len k
  obtain ⟨p, hp⟩ : ∃ p, (setI 5 k).length = p := ⟨_, rfl⟩
  rw [lp_last (by omega) (by omega)]
  have hls : (setL k).length = p := by rw [← hw, List.length_map]; exact hp
  rw [hp] at hl ⊢
  obtain ⟨r1, r2, r3⟩ := lp_res p hl
  refine ⟨r1, r2, ?_⟩
  unfold finW loopsL
  rw [if_pos r1, r3, hls]
  have e : (setI 5 k ++ [((31 : Int), (1 : Int), (0 : Int), (0 : Int), (0 : Int)), (31, 2, 0, 0, (X : Int)), (31, 3, 0, 0, 0), (31, 4, 0, 0, (Y : Int)), (31, 6, 6, 0, 1), (1, 7, 7, 1, 0), (1, 8, 8, 3, 0), (31, 3, 3, 0, 1), (38, 3, 4, 0, 0), (31, 1, 1, 0, 1), (38, 1, 2, 0, 0), (43, 0, 0, 0, 0)]).length = p + 12 := by
    rw [List.length_append, hp]; rfl
  rw [e]
  exact lp_words (setI 5 k) (setL k) X Y p hX hY hp hw (by omega) _ rfl
theorem insW_bd (i : I5) : 0 ≤ insW i ∧ insW i < 4294967296 := by
  obtain ⟨o, d, a, b, n⟩ := i
  show 0 ≤ cEnc o d a b n ∧ cEnc o d a b n < 4294967296
  unfold cEnc
  split
  · rename_i h
    have := bits_sum (chk_op h) d a b n
    exact ⟨this.2.2.2.2.2.2.2.2.2.2.2.2.1, this.2.2.2.2.2.2.2.2.2.2.2.2.2⟩
  · decide
theorem finW_bd (s : Bst) : ∀ i, i < (finW s).length → 0 ≤ byAt (finW s) i ∧ byAt (finW s) i < 4294967296 := by
  intro i hi
  rw [← byAt_eq hi]
  have hm : (finW s)[i] ∈ finW s := List.getElem_mem _
  generalize (finW s)[i] = v at hm
  unfold finW at hm
  split at hm
  · unfold wordsK at hm
    obtain ⟨j, _, rfl⟩ := List.mem_map.1 hm
    exact insW_bd _
  · cases hm
end Go.Proofs.YtgmphfagflhglaaGreatDoor
