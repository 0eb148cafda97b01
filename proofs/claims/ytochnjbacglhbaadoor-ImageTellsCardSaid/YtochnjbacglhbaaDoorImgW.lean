/- The document's own images (astrolaberef22): Get, whole. -/
import Derived.Test.YtochnjbacglhbaaDoorImgV
import Derived.Test.YtochnjbacglhbaaDoorImgH
namespace Go.Proofs.YtochnjbacglhbaaDoor
open Go.RowKit Go.IntWalk

theorem getI_open {l : List Int} (he : ¬ (openOf l).2 ≠ 0) : getI l = readI (openOf l).1 := by unfold getI; rw [if_neg he]
theorem refGet22_is {w : World} {a : Option Addr} {n c : Nat} {l : List Int} (hB : By w a n c l) (hn : n ≤ 140737488355000) : Calls Tryd.prog 11 #[.slice a n c] w (GetTo w (getI l).1 (getI l).2) := by
  by_cases he : (openOf l).2 ≠ 0
  · unfold getI
    rw [if_pos he]
    refine (refGet22_no hB hn he).mono ?_
    rintro e w' ⟨rfl, k⟩
    exact GetTo.none k
  · have hg := getI_open he
    have hnone := get_none (b := l)
    rw [hg] at hnone ⊢
    have he : openOf l = ((openOf l).1, 0) := by
      have : (openOf l).2 = 0 := by simpa using he
      rw [← this]
    have hob : Bd8 (openOf l).1 := openOf_bd hB.bd
    generalize (openOf l).1 = o at *
    obtain ⟨q1, q2⟩ := errS_is o
    refine (refGet22_ok hB hn he hob).mono ?_
    rintro e w' (⟨h0, rfl, k⟩ | ⟨h0, a0, n0, c0, a1, n1, c1, a2, n2, c2, a3, n3, c3, a4, n4, c4, rfl, im, k⟩)
    · rw [hnone (by rw [← q1]; exact h0), ← q1]
      exact GetTo.none k
    · rw [← q1, h0, ← q2 h0]
      exact ⟨_, _, _, _, _, _, _, _, _, _, _, _, _, _, _, rfl, im, k⟩
theorem refGet_val {w : World} {a : Option Addr} {n c : Nat} {l : List Int} {x : Int} {m : Img} (hB : By w a n c l) (hn : n ≤ 140737488355000) (hg : getI l = (x, m)) : Calls Tryd.prog 11 #[.slice a n c] w (GetTo w x m) := by
  have := refGet22_is hB hn
  rw [hg] at this
  exact this
end Go.Proofs.YtochnjbacglhbaaDoor
