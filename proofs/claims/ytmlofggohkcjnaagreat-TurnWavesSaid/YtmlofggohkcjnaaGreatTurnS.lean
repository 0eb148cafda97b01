/- What the document's own plain answers for angles (package astrolaberef09) give: vectors and waves. Conditions: the numbers are of the kind int32. -/
import Derived.Test.YtmlofggohkcjnaaGreatTurnR
import Derived.Test.YtmlofggohkcjnaaGreatRefs
import Derived.Test.YtmlofggohkcjnaaGreatCircle
namespace Go.Proofs.YtmlofggohkcjnaaGreat
open Go.RowKit


set_option maxHeartbeats 2000000 in
theorem refAngle_is (y x : Int) (w : World) (y1 : -2147483648 ≤ y) (y2 : y ≤ 2147483647) (x1 : -2147483648 ≤ x) (x2 : x ≤ 2147483647) :
    Calls Tryz.prog 10 #[.int .i32 y, .int .i32 x] w fun e w' => e = .returned (.int .i32 (wAng y x)) ∧ Below w.heap.size w w' := by
  have hb := Below.refl w.heap.size w
  have hB := Nat.le_refl w.heap.size
  have ab : ∀ {z : Int}, -2147483648 ≤ z → z ≤ 2147483647 → 0 ≤ wAbs z ∧ wAbs z ≤ 2147483647 := by
    intro z h1 h2
    unfold wAbs wCut; omega
  have hx := ab x1 x2
  have hy := ab y1 y2
  have E : wAng y x = (if y < 0 then wrap32 (0 - (if x < 0 then wrap32 (1686629713 - (if wAbs x < wAbs y then wrap32 (843314857 - (vN (wNorm (wLs y x) (wGr y x)) (wNorm (wGr y x) (wGr y x)) 28).2.2) else (vN (wNorm (wLs y x) (wGr y x)) (wNorm (wGr y x) (wGr y x)) 28).2.2)) else (if wAbs x < wAbs y then wrap32 (843314857 - (vN (wNorm (wLs y x) (wGr y x)) (wNorm (wGr y x) (wGr y x)) 28).2.2) else (vN (wNorm (wLs y x) (wGr y x)) (wNorm (wGr y x) (wGr y x)) 28).2.2)))
    else (if x < 0 then wrap32 (1686629713 - (if wAbs x < wAbs y then wrap32 (843314857 - (vN (wNorm (wLs y x) (wGr y x)) (wNorm (wGr y x) (wGr y x)) 28).2.2) else (vN (wNorm (wLs y x) (wGr y x)) (wNorm (wGr y x) (wGr y x)) 28).2.2)) else (if wAbs x < wAbs y then wrap32 (843314857 - (vN (wNorm (wLs y x) (wGr y x)) (wNorm (wGr y x) (wGr y x)) 28).2.2) else (vN (wNorm (wLs y x) (wGr y x)) (wNorm (wGr y x) (wGr y x)) 28).2.2))) := rfl
  have EG : wMax (wAbs x) (wAbs y) = wGr y x := rfl
  have EL : wMin (wAbs x) (wAbs y) = wLs y x := rfl
  have gb : 0 ≤ wGr y x ∧ wGr y x ≤ 2147483647 := by rw [← EG]; unfold wMax; split <;> omega
  have lb : 0 ≤ wLs y x ∧ wLs y x ≤ 2147483647 := by rw [← EL]; unfold wMin; split <;> omega
  obtain ⟨ax, hax⟩ : ∃ ax, wAbs x = ax := ⟨_, rfl⟩
  obtain ⟨ay, hay⟩ : ∃ ay, wAbs y = ay := ⟨_, rfl⟩
  obtain ⟨g, hg⟩ : ∃ g, wGr y x = g := ⟨_, rfl⟩
  obtain ⟨l, hl⟩ : ∃ l, wLs y x = l := ⟨_, rfl⟩
  rw [hax, hay, hg, hl] at E
  rw [hax, hay, hg] at EG
  rw [hax, hay, hl] at EL
  rw [hax] at hx
  rw [hay] at hy
  rw [hg] at gb
  rw [hl] at lb
  have N1 : wShr (wShl l (wClz g - 1)) 2 = wNorm l g := rfl
  have N2 : wShr (wShl g (wClz g - 1)) 2 = wNorm g g := rfl
  have cb := wClz_bd g
  have b1 := wShl_bd l (wClz g - 1)
  have b2 := wShl_bd g (wClz g - 1)
  have nb1 : -2147483648 ≤ wNorm l g ∧ wNorm l g ≤ 2147483647 := by rw [← N1]; exact wShr_bd _ _
  have nb2 : -2147483648 ≤ wNorm g g ∧ wNorm g g ≤ 2147483647 := by rw [← N2]; exact wShr_bd _ _
  obtain ⟨vx, hvx⟩ : ∃ v, (vN (wNorm l g) (wNorm g g) 28).1 = v := ⟨_, rfl⟩
  obtain ⟨vy, hvy⟩ : ∃ v, (vN (wNorm l g) (wNorm g g) 28).2.1 = v := ⟨_, rfl⟩
  obtain ⟨a, hva⟩ : ∃ v, (vN (wNorm l g) (wNorm g g) 28).2.2 = v := ⟨_, rfl⟩
  have vb := (vN_bd (wNorm l g) (wNorm g g) nb1 nb2 28).2.2
  rw [hva] at E vb
  have HG := Lib.hid EG
  have HL := Lib.hid EL
  have HAX := Lib.hid hax
  have HAY := Lib.hid hay
  have H1 := Lib.hid N1
  have H2 := Lib.hid N2
  have HVX := Lib.hid hvx
  have HVY := Lib.hid hvy
  have HVA := Lib.hid hva
  clear EG EL hax hay N1 N2 hvx hvy hva hg hl ab
  generalize wNorm l g = n1 at *
  generalize wNorm g g = n2 at *
  by_cases q1 : ax < ay <;> by_cases q2 : x < 0 <;> by_cases q3 : y < 0
  all_goals
    simp only [q1, q2, q3, if_true, if_false] at E
    have HE := Lib.hid E
    clear E
    have wb1 := w32_bd (843314857 - a)
    have wb2 := w32_bd (1686629713 - a)
    have wb3 := w32_bd (1686629713 - wrap32 (843314857 - a))
    go_enter Tryz.func10, Tryz.ntmps10
    go_wp2_with (first
      | (go_at_call 22; with_reducible refine (refAbs_is x _ x1 x2).mono ?_; rw [HAX.out]; rintro e w1 ⟨rfl, rfl⟩)
      | (go_at_call 22; with_reducible refine (refAbs_is y _ y1 y2).mono ?_; rw [HAY.out]; rintro e w1 ⟨rfl, rfl⟩)
      | (go_at_call 23; refine (refMax_is _ _ _).mono ?_; rw [HG.out]; rintro e w1 ⟨rfl, rfl⟩)
      | (go_at_call 24; refine (refMin_is _ _ _).mono ?_; rw [HL.out]; rintro e w1 ⟨rfl, rfl⟩)
      | (go_at_call 25; refine (keep (refClz_is _ _ (by omega) (by omega)) hb hB).mono ?_; rintro e w1 ⟨rfl, hb, hB⟩)
      | (go_at_call 27; refine (keep (refShl_is _ _ _ (by omega) (by omega) (by omega) (by omega)) hb hB).mono ?_; rintro e w1 ⟨rfl, hb, hB⟩)
      | (go_at_call 26; refine (keep (refShr_is _ _ _ (by omega) (by omega) (by omega) (by omega)) hb hB).mono ?_; (first | rw [H1.out] | rw [H2.out]); rintro e w1 ⟨rfl, hb, hB⟩)
      | (go_at_call 6; refine (keep (refVector_v n1 n2 vx vy a _ nb1.1 nb1.2 nb2.1 nb2.2 HVX.out HVY.out HVA.out) hb hB).mono ?_; rintro e w1 ⟨rfl, hb, hB⟩)
      | (go_at_call 17; refine (refLow_is _ _ _ rfl).mono ?_; rintro e w1 ⟨rfl, rfl⟩))
    go_ret
    exact ⟨ret_int (by first | exact HE.out.symm | (rw [HE.out]; congr 1; omega)), hb⟩
end Go.Proofs.YtmlofggohkcjnaaGreat
