/- What the document's own plain answers for angles (package astrolaberef09) give: vectors and waves. Conditions: the numbers are of the kind int32. -/
import Derived.Test.YtmlofggohkcjnaaGreatTabR
import Derived.Test.YtmlofggohkcjnaaGreatRefs
import Derived.Test.YtmlofggohkcjnaaGreatCircle
namespace Go.Proofs.YtmlofggohkcjnaaGreat
open Go.RowKit

theorem TabAt.cells {w1 : World} {g : Nat} (hc : ∀ i : Nat, i < 28 → w1.cell? ⟨g, i, none⟩ = some (.int .i32 (tab i))) (hg : g < w1.heap.size) {w' : World} (hb : Below w1.heap.size w1 w') {k : Nat} (hk : k < 28) :
    w'.cell? ⟨g, k, none⟩ = some (.int .i32 (tab k)) := (hb.cell hg).trans (hc k hk)

set_option maxHeartbeats 2000000 in
theorem refVector_is (y x : Int) (w : World) (y1 : -2147483648 ≤ y) (y2 : y ≤ 2147483647) (x1 : -2147483648 ≤ x) (x2 : x ≤ 2147483647) :
    Calls Tryz.prog 6 #[.int .i32 y, .int .i32 x] w fun e w' => e = .returned (.tuple #[.int .i32 (vN y x 28).1, .int .i32 (vN y x 28).2.1, .int .i32 (vN y x 28).2.2]) ∧ Below w.heap.size w w' := by
  go_enter Tryz.func6, Tryz.ntmps6
  go_wp2_with (go_at_call 8; refine (refTable_is _).mono ?_; rintro e w1 ⟨_, rfl, hb0, g, cap, rfl, hg, hcap, hc⟩)
  go_loopw [0, 1, 7, 9] (fun sy sx sa i wr => ∃ k : Nat, k ≤ 28 ∧ i = .int .i32 k ∧ sy = .int .i32 (vN y x k).2.1 ∧ sx = .int .i32 (vN y x k).1 ∧ sa = .int .i32 (vN y x k).2.2 ∧ Below w1.heap.size w1 wr ∧ w1.heap.size ≤ wr.heap.size) (fun _ _ _ i _ => 28 - (intOf i).toNat)
  case atStart => exact ⟨0, by omega, rfl, rfl, rfl, rfl, Below.refl _ _, Nat.le_refl _⟩
  case round =>
    obtain ⟨k, hk, rfl, rfl, rfl, rfl, hb, hB⟩ := hrel
    by_cases hlt : k < 28
    · have hlt' : (k : Int) < 28 := by omega
      obtain ⟨⟨p1, p2⟩, ⟨q1, q2⟩, ⟨r1, r2⟩⟩ := vN_bd y x ⟨y1, y2⟩ ⟨x1, x2⟩ k
      have S : vN y x (k + 1) = vStep k (vN y x k).1 (vN y x k).2.1 (vN y x k).2.2 := rfl
      generalize (vN y x k).1 = X at *
      generalize (vN y x k).2.1 = Y at *
      generalize (vN y x k).2.2 = A at *
      have HS := Lib.hid S
      clear S
      obtain ⟨t1, t2⟩ := tab_bd hlt
      have s0 := wSign_bd Y
      have a1 := wSar_bd Y k
      have a2 := wSar_bd X k
      have f1 := wFlip_bd (wSar Y k) (wSign Y)
      have f2 := wFlip_bd (wSar X k) (wSign Y)
      have f3 := wFlip_bd (tab k) (wSign Y)
      have hcr := TabAt.cells hc hg hb hlt
      have HC := Lib.hid hc
      clear hc
      go_wp2_with (first
        | (go_at_call 16; refine (refSign_is _ _).mono ?_; rintro e w2 ⟨rfl, rfl⟩)
        | (go_at_call 19; refine (refSar_is _ _ _ (by omega) (by omega) (by omega) (by omega)).mono ?_; rintro e w2 ⟨rfl, rfl⟩)
        | (go_at_call 18; refine (keep (refFlip_is _ _ _ (by omega) (by omega) (by omega) (by omega)) hb hB).mono ?_; rintro e w2 ⟨rfl, hb, hB⟩; have hcr := TabAt.cells HC.out hg hb hlt)
        | (go_at_call 17; refine (refLow_is _ _ _ rfl).mono ?_; rintro e w2 ⟨rfl, rfl⟩))
      go_roundw
      case rel => exact ⟨k + 1, by omega, by go_num, by rw [HS.out]; rfl, by rw [HS.out]; rfl, by rw [HS.out]; rfl, hb, hB⟩
      case measure => simp [intOf]; omega
    · obtain rfl : k = 28 := by omega
      go_wp2
      go_returns
      exact ⟨rfl, hb0.trans (hb.mono hb0.size)⟩

theorem refVector_v (y x u v a : Int) (w : World) (y1 : -2147483648 ≤ y) (y2 : y ≤ 2147483647) (x1 : -2147483648 ≤ x) (x2 : x ≤ 2147483647) (hu : (vN y x 28).1 = u) (hv : (vN y x 28).2.1 = v) (ha : (vN y x 28).2.2 = a) :
    Calls Tryz.prog 6 #[.int .i32 y, .int .i32 x] w fun e w' => e = .returned (.tuple #[.int .i32 u, .int .i32 v, .int .i32 a]) ∧ Below w.heap.size w w' := by
  subst hu hv ha; exact refVector_is y x w y1 y2 x1 x2

theorem wWvB_bd {a : Int} (h1 : -2147483648 ≤ a) (h2 : a ≤ 2147483647) : -2147483648 ≤ wWvB a ∧ wWvB a ≤ 2147483647 := by
  unfold wWvB wrap32; split
  · split <;> omega
  · omega

set_option maxHeartbeats 2000000 in
theorem refWave_is (a : Int) (w : World) (a1 : -2147483648 ≤ a) (a2 : a ≤ 2147483647) :
    Calls Tryz.prog 13 #[.int .i32 a] w fun e w' => e = .returned (.tuple #[.int .i32 (wWvY a), .int .i32 (wWvX a)]) ∧ Below w.heap.size w w' := by
  have hcase : (843314857 < wAbs a ∧ a < 0) ∨ (843314857 < wAbs a ∧ ¬ a < 0) ∨ (¬ 843314857 < wAbs a) := by omega
  have B := wWvB_bd a1 a2
  obtain ⟨b, hb'⟩ : ∃ b, wWvB a = b := ⟨_, rfl⟩
  rw [hb'] at B
  have EY : wWvY a = (uN b 28).2.1 := by unfold wWvY; rw [hb']
  have ab := wCut_bd (-a)
  rcases hcase with ⟨h1, h2⟩ | ⟨h1, h2⟩ | h1
  all_goals
    first
      | have EX : wWvX a = wrap32 (0 - (uN b 28).1) := by unfold wWvX; rw [if_pos h1, hb']
      | have EX : wWvX a = (uN b 28).1 := by unfold wWvX; rw [if_neg h1, hb']
    first
      | have EB : wrap32 (-1686629713 - a) = b := by rw [← hb']; unfold wWvB; rw [if_pos h1, if_pos h2]; rfl
      | have EB : wrap32 (1686629713 - a) = b := by rw [← hb']; unfold wWvB; rw [if_pos h1, if_neg h2]
      | have EB : a = b := by rw [← hb']; unfold wWvB; rw [if_neg h1]
    have HX := Lib.hid EX
    have HY := Lib.hid EY
    have HB := Lib.hid EB
    clear EX EY EB hb'
    generalize hA : wAbs a = A at *
    have HA := Lib.hid hA
    clear hA
    go_enter Tryz.func13, Tryz.ntmps13
    go_wp2_with (first
      | (go_at_call 22; refine (refAbs_is _ _ a1 a2).mono ?_; rw [HA.out]; rintro e w1 ⟨rfl, rfl⟩)
      | (go_at_call 17; refine (refLow_is _ _ _ rfl).mono ?_; rintro e w1 ⟨rfl, rfl⟩)
      | (go_at_call 8; refine (refTable_is _).mono ?_; rintro e w1 ⟨_, rfl, hb0, g, cap, rfl, hg, hcap, hc⟩))
    go_loopw [5, 6, 7, 9] (fun sb sx sy i wr => ∃ k : Nat, k ≤ 28 ∧ i = .int .i32 k ∧ sy = .int .i32 (uN b k).2.1 ∧ sx = .int .i32 (uN b k).1 ∧ sb = .int .i32 (uN b k).2.2 ∧ Below w1.heap.size w1 wr ∧ w1.heap.size ≤ wr.heap.size) (fun _ _ _ i _ => 28 - (intOf i).toNat)
    case atStart => exact ⟨0, by omega, rfl, rfl, rfl, by rw [HB.out]; rfl, Below.refl _ _, Nat.le_refl _⟩
    case round =>
      obtain ⟨k, hk, rfl, rfl, rfl, rfl, hb, hB⟩ := hrel
      by_cases hlt : k < 28
      · have hlt' : (k : Int) < 28 := by omega
        obtain ⟨⟨p1, p2⟩, ⟨q1, q2⟩, ⟨r1, r2⟩⟩ := uN_bd b B k
        have S : uN b (k + 1) = uStep k (uN b k).1 (uN b k).2.1 (uN b k).2.2 := rfl
        generalize (uN b k).1 = X at *
        generalize (uN b k).2.1 = Y at *
        generalize (uN b k).2.2 = R at *
        have HS := Lib.hid S
        clear S
        obtain ⟨t1, t2⟩ := tab_bd hlt
        have s0 := wSign_bd R
        have a1 := wSar_bd Y k
        have a2 := wSar_bd X k
        have f1 := wFlip_bd (wSar Y k) (wSign R)
        have f2 := wFlip_bd (wSar X k) (wSign R)
        have f3 := wFlip_bd (tab k) (wSign R)
        have hcr := TabAt.cells hc hg hb hlt
        have HC := Lib.hid hc
        clear hc
        go_wp2_with (first
          | (go_at_call 16; refine (refSign_is _ _).mono ?_; rintro e w2 ⟨rfl, rfl⟩)
          | (go_at_call 19; refine (refSar_is _ _ _ (by omega) (by omega) (by omega) (by omega)).mono ?_; rintro e w2 ⟨rfl, rfl⟩)
          | (go_at_call 18; refine (keep (refFlip_is _ _ _ (by omega) (by omega) (by omega) (by omega)) hb hB).mono ?_; rintro e w2 ⟨rfl, hb, hB⟩; have hcr := TabAt.cells HC.out hg hb hlt)
          | (go_at_call 17; refine (refLow_is _ _ _ rfl).mono ?_; rintro e w2 ⟨rfl, rfl⟩))
        go_roundw
        case rel => exact ⟨k + 1, by omega, by go_num, by rw [HS.out]; rfl, by rw [HS.out]; rfl, by rw [HS.out]; rfl, hb, hB⟩
        case measure => simp [intOf]; omega
      · obtain rfl : k = 28 := by omega
        obtain ⟨⟨p1, p2⟩, _, _⟩ := uN_bd b B 28
        generalize (uN b 28).1 = X at *
        generalize (uN b 28).2.1 = Y at *
        have EN := Lib.hid (show (0 : Int) - X = -X by omega)
        go_wp2_with (go_at_call 17; refine (refLow_is _ _ _ rfl).mono ?_; rintro e w2 ⟨rfl, rfl⟩)
        go_returns
        exact ⟨by rw [HX.out, HY.out]; first | rfl | (rw [EN.out]; rfl), hb0.trans (hb.mono hb0.size)⟩

theorem wvC_bd {a : Int} (h1 : -536870912 ≤ a) (h2 : a ≤ 536870912) : ∀ k : Nat, -(1073741824 * ((k : Int) + 1)) ≤ wvC a k ∧ wvC a k ≤ 1073741824 * ((k : Int) + 1) := by
  intro k
  induction k with
  | zero => exact ⟨(by decide : (-(1073741824 * ((0 : Int) + 1)) : Int) ≤ 1073741824), (by decide : (1073741824 : Int) ≤ 1073741824 * (0 + 1))⟩
  | succ k ih =>
    have := wvY_bd h1 h2 (k + 1)
    show -(1073741824 * (((k + 1 : Nat) : Int) + 1)) ≤ wvC a k + wvY a (k + 1) ∧ wvC a k + wvY a (k + 1) ≤ 1073741824 * (((k + 1 : Nat) : Int) + 1)
    omega
theorem wvS_bd {a : Int} (h1 : -536870912 ≤ a) (h2 : a ≤ 536870912) : ∀ k : Nat, -(1073741824 * ((k : Int) + 1)) ≤ wvS a k ∧ wvS a k ≤ 1073741824 * ((k : Int) + 1) := by
  intro k
  induction k with
  | zero => exact ⟨(by omega : (-(1073741824 * ((0 : Int) + 1)) : Int) ≤ 2 * a), (by omega : 2 * a ≤ 1073741824 * ((0 : Int) + 1))⟩
  | succ k ih =>
    have := wvX_bd h1 h2 (k + 1)
    show -(1073741824 * (((k + 1 : Nat) : Int) + 1)) ≤ wvS a k + wvX a (k + 1) ∧ wvS a k + wvX a (k + 1) ≤ 1073741824 * (((k + 1 : Nat) : Int) + 1)
    omega
theorem tdiv_le {x m B : Int} (_hm : 1 ≤ m) (h1 : -B ≤ x) (h2 : x ≤ B) : -B ≤ x.tdiv m ∧ x.tdiv m ≤ B := by
  have t : (x.tdiv m).natAbs ≤ x.natAbs := by
    rw [Int.natAbs_tdiv]; exact Nat.div_le_self _ _
  omega

theorem nextT_neg (y w m n : Int) : nextT y w m n = -(((y * w).tdiv 1073741824).tdiv m).tdiv n := by unfold nextT; omega

theorem w32_bd (x : Int) : -2147483648 ≤ wrap32 x ∧ wrap32 x ≤ 2147483647 := by unfold wrap32; omega
theorem wv_small {a : Int} (h1 : -536870912 ≤ a) (h2 : a ≤ 536870912) : (-3221225504 ≤ wvS a 5 ∧ wvS a 5 ≤ 3221225504) ∧ (-3221225504 ≤ wvC a 5 ∧ wvC a 5 ≤ 3221225504) := by
  have hfar : far = 935919873 := rfl
  have s := sin_near h1 h2
  have c := cos_near h1 h2
  have sb := sin_bd (a := a) (by omega) (by omega)
  have cb := cos_bd (a := a) (by omega) (by omega)
  have o := one_pos
  refine ⟨⟨?_, ?_⟩, ⟨?_, ?_⟩⟩
  all_goals
    refine cancel_mul o ?_
    omega
end Go.Proofs.YtmlofggohkcjnaaGreat
