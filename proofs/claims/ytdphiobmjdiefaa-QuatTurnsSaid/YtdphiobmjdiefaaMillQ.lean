/- Layer 10's steps upon package mill's mill of words: products that are handed on one by one, and taken into a sum. Conditions: the numbers are of the kinds of the parameters. -/
import Derived.Test.YtdphiobmjdiefaaMillB
import Derived.Test.YtdphiobmjdiefaaQuatU
namespace Go.Proofs.Ytdphiobmjdiefaa
open Go.RowKit

theorem plus_v (a b : Int) (w : World) :
    Calls Try.prog 21 #[.int .i32 a, .int .i32 b] w fun e w' => e = .returned (.agg #[.int .i64 3, .int .i32 a, .int .i32 b]) ∧ Below w.heap.size w w' := by
  go_enter Try.func21, Try.ntmps21
  go_wp2
  go_returns
  exact ⟨rfl, (Below.refl _ _).alloc (Nat.le_refl _) _⟩
theorem minus_v (a b : Int) (w : World) :
    Calls Try.prog 24 #[.int .i32 a, .int .i32 b] w fun e w' => e = .returned (.agg #[.int .i64 4, .int .i32 a, .int .i32 b]) ∧ Below w.heap.size w w' := by
  go_enter Try.func24, Try.ntmps24
  go_wp2
  go_returns
  exact ⟨rfl, (Below.refl _ _).alloc (Nat.le_refl _) _⟩

/-- A number, and the products behind it, from the left on. -/
def tot (f : Int) (o a b : Nat → Int) : Nat → Int
  | 0 => f
  | k + 1 => wDo (o k) (tot f o a b k) (wMulq (a k) (b k))
theorem tot_bd {f : Int} {o a b : Nat → Int} (f1 : -2147483648 ≤ f ∧ f ≤ 2147483647) (n : Nat) (ho : ∀ k, k < n → o k = 3 ∨ o k = 4) : ∀ k, k ≤ n → -2147483648 ≤ tot f o a b k ∧ tot f o a b k ≤ 2147483647
  | 0, _ => f1
  | k + 1, hk => by
    show -2147483648 ≤ wDo (o k) (tot f o a b k) (wMulq (a k) (b k)) ∧ wDo (o k) (tot f o a b k) (wMulq (a k) (b k)) ≤ 2147483647
    rcases ho k (by omega) with h | h
    · rw [h, show wDo 3 (tot f o a b k) (wMulq (a k) (b k)) = wCut (tot f o a b k + wMulq (a k) (b k)) from do_two (by decide) (by decide)]; exact wCut_bd _
    · rw [h, show wDo 4 (tot f o a b k) (wMulq (a k) (b k)) = wCut (tot f o a b k - wMulq (a k) (b k)) from do_two (by decide) (by decide)]; exact wCut_bd _

set_option maxHeartbeats 1000000 in
theorem total_v (n g c : Nat) (f r : Int) (o a b : Nat → Int) (w : World) (hn : n ≤ 3) (f1 : -2147483648 ≤ f ∧ f ≤ 2147483647)
    (ho : ∀ k, k < n → o k = 3 ∨ o k = 4) (ha : ∀ k, k < n → -2147483648 ≤ a k ∧ a k ≤ 2147483647) (hb : ∀ k, k < n → -2147483648 ≤ b k ∧ b k ≤ 2147483647)
    (hc : ∀ k, k < n → w.cell? ⟨g, k * 3, none⟩ = some (.int .i64 (o k)) ∧ w.cell? ⟨g, k * 3 + 1, none⟩ = some (.int .i32 (a k)) ∧ w.cell? ⟨g, k * 3 + 2, none⟩ = some (.int .i32 (b k))) (hg : g < w.heap.size) (hr : tot f o a b n = r) :
    Calls Try.prog 19 #[.iface 45 (.agg #[]), .int .i32 f, .slice (some ⟨g, 0, none⟩) n c] w fun e w' => e = .returned (.int .i32 r) ∧ Below w.heap.size w w' := by
  have hT := tot_bd (a := a) (b := b) f1 n ho
  have HT := Lib.hid hT
  have HO := Lib.hid ho
  have HA := Lib.hid ha
  have HB := Lib.hid hb
  have HC := Lib.hid hc
  have HR := Lib.hid hr
  have hbw := Below.refl w.heap.size w
  clear hT ho ha hb hc hr
  have hN := ahead_two
  go_enter Try.func19, Try.ntmps19
  go_wp2
  go_loopw [1, 11] (fun s i wr => ∃ k : Nat, k ≤ n ∧ i = .int .i64 k ∧ s = .int .i32 (tot f o a b k) ∧ Below w.heap.size w wr) (fun _ i _ => n - (intOf i).toNat)
  case atStart => exact ⟨0, by omega, rfl, rfl, hbw⟩
  case round =>
    obtain ⟨k, hk, rfl, rfl, hbk⟩ := hrel
    by_cases hlt : k < n
    · have hlt' : (k : Int) < n := by omega
      have hs := Lib.hid (show wDo (o k) (tot f o a b k) (wMulq (a k) (b k)) = tot f o a b (k + 1) from rfl)
      have tb := HT.out k hk
      have ob := HO.out k hlt
      have ab := HA.out k hlt
      have bb := HB.out k hlt
      have mb := Lib.hid (wMulq_bd (a k) (b k))
      have mv := Lib.hid (show wDo 20 (a k) (b k) = wMulq (a k) (b k) from do_two (by decide) (by decide))
      obtain ⟨c0, c1, c2⟩ := HC.out k hlt
      have d0 := (hbk.cell (p := ⟨g, k * 3, none⟩) hg).trans c0
      have d1 := (hbk.cell (p := ⟨g, k * 3 + 1, none⟩) hg).trans c1
      have d2 := (hbk.cell (p := ⟨g, k * 3 + 2, none⟩) hg).trans c2
      clear c0 c1 c2
      obtain ⟨t1, ht1⟩ : ∃ t1, t1 = tot f o a b (k + 1) := ⟨_, rfl⟩
      rw [← ht1] at hs
      have HE := Lib.hid ht1
      clear ht1
      generalize tot f o a b k = t0 at *
      generalize a k = x at *
      generalize b k = y at *
      have hoi : -9223372036854775808 ≤ o k ∧ o k ≤ 9223372036854775807 := by omega
      generalize o k = op at *
      generalize wMulq x y = m at *
      obtain ⟨W, hW⟩ : ∃ W, wr.alloc (.cells #[.int .i64 op, .int .i32 x, .int .i32 y] 49) = W := ⟨_, rfl⟩
      have hbW : Below wr.heap.size wr W := by rw [← hW]; exact (Below.refl _ _).alloc (Nat.le_refl _) _
      have zW : wr.heap.size < W.heap.size := by rw [← hW]; simp
      have e0 : W.cell? ⟨wr.heap.size, 0, none⟩ = some (.int .i64 op) := by subst hW; go_cell
      have e1 : W.cell? ⟨wr.heap.size, 1, none⟩ = some (.int .i32 x) := by subst hW; go_cell
      have e2 : W.cell? ⟨wr.heap.size, 2, none⟩ = some (.int .i32 y) := by subst hW; go_cell
      have HF := Lib.hid (show ∀ w', Below W.heap.size W w' → (w'.cell? ⟨wr.heap.size, 0, none⟩ = some (.int .i64 op) ∧ w'.cell? ⟨wr.heap.size, 1, none⟩ = some (.int .i32 x) ∧ w'.cell? ⟨wr.heap.size, 2, none⟩ = some (.int .i32 y)) from fun w' h => ⟨(h.cell (p := ⟨wr.heap.size, 0, none⟩) zW).trans e0, (h.cell (p := ⟨wr.heap.size, 1, none⟩) zW).trans e1, (h.cell (p := ⟨wr.heap.size, 2, none⟩) zW).trans e2⟩)
      have HW := Lib.hid hW
      clear hW e0 e1 e2
      go_wp2
      rw [HW.out]
      clear d0 d1 d2
      go_region_held3 (fun w' => (w'.cell? ⟨wr.heap.size, 0, none⟩ = some (.int .i64 op) ∧ w'.cell? ⟨wr.heap.size, 1, none⟩ = some (.int .i32 x) ∧ w'.cell? ⟨wr.heap.size, 2, none⟩ = some (.int .i32 y)) ∧ Below W.heap.size W w' ∧ W.heap.size ≤ w'.heap.size)
        (first | with_reducible assumption | with_reducible exact ⟨HF.out _ (Below.refl _ _).drew, (Below.refl _ _).drew, Nat.le_refl _⟩)
        (first
          | (go_at_call 46; with_reducible refine (keepF HF.out (words_two 20 x y m _ ab.1 ab.2 bb.1 bb.2 mv.out) (by assumption)).mono ?_; rintro e w1 ⟨rfl, hS⟩)
          | (go_at_call 46; with_reducible refine (keepF HF.out (words_two op t0 m t1 _ tb.1 tb.2 mb.out.1 mb.out.2 hs.out) (by assumption)).mono ?_; rintro e w1 ⟨rfl, hS⟩))
      all_goals go_wp2
      all_goals
        go_roundw
        case rel => exact ⟨k + 1, by omega, by go_num, by rw [HE.out], hbk.trans ((hbW.trans (hS.2.1.mono (Nat.le_of_lt zW))).mono hbk.size)⟩
        case measure => simp [intOf]; omega
    · obtain rfl : k = n := by omega
      go_wp2
      go_ret
      exact ⟨by rw [HR.out]; rfl, hbk⟩
end Go.Proofs.Ytdphiobmjdiefaa
