/- Angles of places by turning: what the mill's steps come to. Nothing of any program. -/
import Derived.Test.YtmlofggohkcjnaaAluV
import Derived.Test.YtmlofggohkcjnaaCircle
namespace Go.Proofs.Ytmlofggohkcjnaa
open Go.RowKit

theorem and_none (x : Int) : wAnd x 0 = 0 := by
  unfold wAnd; rw [wd_0, BitVec.and_zero]; rfl
theorem and_all {x : Int} (h1 : -2147483648 ≤ x) (h2 : x ≤ 2147483647) : wAnd x (-1) = x := by
  unfold wAnd; rw [wd_m1, BitVec.and_allOnes, sg_wd_in h1 h2]
/-- What is left of the whole where m is -1, else v. -/
def wLeft (whole v m : Int) : Int := wrap32 (wAnd whole m + wFlip v m)
theorem left_none {whole v : Int} (v1 : -2147483648 ≤ v) (v2 : v ≤ 2147483647) : wLeft whole v 0 = v := by
  unfold wLeft; rw [and_none, flip_keep v1 v2, IntWalk.wrap32_in _ (by omega)]; omega
theorem left_all {whole v : Int} (h1 : -2147483648 ≤ whole) (h2 : whole ≤ 2147483647) (v1 : -2147483648 ≤ v) (v2 : v ≤ 2147483647) : wLeft whole v (-1) = wrap32 (whole - v) := by
  unfold wLeft; rw [and_all h1 h2, flip_turn v1 v2]; unfold wrap32; omega
theorem left_if {whole v m : Int} {c : Prop} [Decidable c] (h1 : -2147483648 ≤ whole) (h2 : whole ≤ 2147483647) (v1 : -2147483648 ≤ v) (v2 : v ≤ 2147483647) (hm : m = if c then -1 else 0) :
    wLeft whole v m = if c then wrap32 (whole - v) else v := by
  subst hm; split
  · exact left_all h1 h2 v1 v2
  · exact left_none v1 v2
theorem mask_less (a b : Int) : wMask (wLess a b) = if a < b then -1 else 0 := by
  unfold wMask wLess; split <;> rfl
theorem wLeft_bd (x v m : Int) : -2147483648 ≤ wLeft x v m ∧ wLeft x v m ≤ 2147483647 := by unfold wLeft wrap32; omega

/-- The angle of the octant, turned by the mill's steps. -/
theorem ang_mill (y x : Int) :
    wFlip (wLeft 1686629713 (wLeft 843314857 (vN (wNorm (wLs y x) (wGr y x)) (wNorm (wGr y x) (wGr y x)) 28).2.2 (wMask (wLess (wAbs x) (wAbs y)))) (wSign x)) (wSign y) = wAng y x := by
  have vb := (vN_bd (wNorm (wLs y x) (wGr y x)) (wNorm (wGr y x) (wGr y x)) (wShr_bd _ _) (wShr_bd _ _) 28).2.2
  show _ = (let a := (vN (wNorm (wLs y x) (wGr y x)) (wNorm (wGr y x) (wGr y x)) 28).2.2
    let b := if wAbs x < wAbs y then wrap32 (843314857 - a) else a
    let c := if x < 0 then wrap32 (1686629713 - b) else b
    if y < 0 then wrap32 (0 - c) else c)
  generalize (vN (wNorm (wLs y x) (wGr y x)) (wNorm (wGr y x) (wGr y x)) 28).2.2 = a at *
  simp only
  rw [left_if (c := wAbs x < wAbs y) (whole := 843314857) (by decide) (by decide) vb.1 vb.2 (mask_less _ _)]
  generalize hb : (if wAbs x < wAbs y then wrap32 (843314857 - a) else a) = b
  have bb : -2147483648 ≤ b ∧ b ≤ 2147483647 := by
    rw [← hb]; split
    · unfold wrap32; omega
    · exact vb
  rw [left_if (c := x < 0) (m := wSign x) (whole := 1686629713) (by decide) (by decide) bb.1 bb.2 rfl]
  generalize hc : (if x < 0 then wrap32 (1686629713 - b) else b) = c
  have cb : -2147483648 ≤ c ∧ c ≤ 2147483647 := by
    rw [← hc]; split
    · unfold wrap32; omega
    · exact bb
  unfold wSign
  split
  · rw [flip_turn cb.1 cb.2]; congr 1; omega
  · exact flip_keep cb.1 cb.2
/-- What is turned by, and the cosine's sign. -/
theorem wvB_mill {a : Int} (h1 : -2147483648 ≤ a) (h2 : a ≤ 2147483647) : wLeft (wFlip 1686629713 (wSign a)) a (wMask (wLess 843314857 (wAbs a))) = wWvB a := by
  have fb := wFlip_bd 1686629713 (wSign a)
  rw [left_if (c := 843314857 < wAbs a) fb.1 fb.2 h1 h2 (mask_less _ _)]
  unfold wWvB wSign
  split
  · split
    · rw [flip_turn (by decide) (by decide), show wrap32 (-1686629713) = -1686629713 from IntWalk.wrap32_in _ (by decide)]; congr 1
    · rw [flip_keep (by decide) (by decide)]
  · rfl
theorem wvX_mill {a : Int} (h1 : -2147483648 ≤ a) (h2 : a ≤ 2147483647) : wFlip (uN (wWvB a) 28).1 (wMask (wLess 843314857 (wAbs a))) = wWvX a := by
  have bb : -2147483648 ≤ wWvB a ∧ wWvB a ≤ 2147483647 := by
    unfold wWvB; split
    · split <;> (unfold wrap32; omega)
    · exact ⟨h1, h2⟩
  have ub := (uN_bd (wWvB a) bb 28).1
  unfold wWvX
  rw [mask_less]
  split
  · rw [flip_turn ub.1 ub.2]; congr 1; omega
  · exact flip_keep ub.1 ub.2

/-- A step of the mill's: what is told of ahead is done to the first and to the third number, what is told of back to the second. -/
def tStep (L : Int × Int × Int → Int) (ahead back : Int) (i : Nat) (s : Int × Int × Int) : Int × Int × Int :=
  (wDo ahead s.1 (wFlip (wSar s.2.1 i) (wSign (L s))), wDo back s.2.1 (wFlip (wSar s.1 i) (wSign (L s))), wDo ahead s.2.2 (wFlip (tab i) (wSign (L s))))
def tN (L : Int × Int × Int → Int) (ahead back : Int) (s : Int × Int × Int) : Nat → Int × Int × Int
  | 0 => s
  | k + 1 => tStep L ahead back k (tN L ahead back s k)
theorem vN_mill (y x : Int) : ∀ k, tN (fun s => s.2.1) 1 2 (x, y, 0) k = vN y x k
  | 0 => rfl
  | k + 1 => by
    show tStep _ 1 2 k (tN (fun s => s.2.1) 1 2 (x, y, 0) k) = vStep k _ _ _
    rw [vN_mill y x k]
    unfold tStep vStep
    rw [do_two (by decide) (by decide), do_two (by decide) (by decide), do_two (by decide) (by decide)]
    rfl
theorem uN_mill (b : Int) : ∀ k, tN (fun s => s.2.2) 2 1 (652032874, 0, b) k = uN b k
  | 0 => rfl
  | k + 1 => by
    show tStep _ 2 1 k (tN (fun s => s.2.2) 2 1 (652032874, 0, b) k) = uStep k _ _ _
    rw [uN_mill b k]
    unfold tStep uStep
    rw [do_two (by decide) (by decide), do_two (by decide) (by decide), do_two (by decide) (by decide)]
    rfl
theorem tStep_bd {L : Int × Int × Int → Int} {ahead back : Int} (h : ahead = 1 ∧ back = 2 ∨ ahead = 2 ∧ back = 1) (i : Nat) (s : Int × Int × Int) :
    (-2147483648 ≤ (tStep L ahead back i s).1 ∧ (tStep L ahead back i s).1 ≤ 2147483647) ∧ (-2147483648 ≤ (tStep L ahead back i s).2.1 ∧ (tStep L ahead back i s).2.1 ≤ 2147483647) ∧ (-2147483648 ≤ (tStep L ahead back i s).2.2 ∧ (tStep L ahead back i s).2.2 ≤ 2147483647) := by
  have w1 : ∀ x y : Int, -2147483648 ≤ wDo 1 x y ∧ wDo 1 x y ≤ 2147483647 := fun x y => by
    rw [do_two (by decide) (by decide)]; show -2147483648 ≤ wrap32 (x + y) ∧ wrap32 (x + y) ≤ 2147483647; unfold wrap32; omega
  have w2 : ∀ x y : Int, -2147483648 ≤ wDo 2 x y ∧ wDo 2 x y ≤ 2147483647 := fun x y => by
    rw [do_two (by decide) (by decide)]; show -2147483648 ≤ wrap32 (x - y) ∧ wrap32 (x - y) ≤ 2147483647; unfold wrap32; omega
  rcases h with ⟨rfl, rfl⟩ | ⟨rfl, rfl⟩
  · exact ⟨w1 _ _, w2 _ _, w1 _ _⟩
  · exact ⟨w2 _ _, w1 _ _, w2 _ _⟩
theorem tN_bd {L : Int × Int × Int → Int} {ahead back : Int} (h : ahead = 1 ∧ back = 2 ∨ ahead = 2 ∧ back = 1) {s : Int × Int × Int}
    (hs : (-2147483648 ≤ s.1 ∧ s.1 ≤ 2147483647) ∧ (-2147483648 ≤ s.2.1 ∧ s.2.1 ≤ 2147483647) ∧ (-2147483648 ≤ s.2.2 ∧ s.2.2 ≤ 2147483647)) : ∀ k,
    (-2147483648 ≤ (tN L ahead back s k).1 ∧ (tN L ahead back s k).1 ≤ 2147483647) ∧ (-2147483648 ≤ (tN L ahead back s k).2.1 ∧ (tN L ahead back s k).2.1 ≤ 2147483647) ∧ (-2147483648 ≤ (tN L ahead back s k).2.2 ∧ (tN L ahead back s k).2.2 ≤ 2147483647)
  | 0 => hs
  | _ + 1 => tStep_bd h _ _
end Go.Proofs.Ytmlofggohkcjnaa
