/- The document's own plans of memory: what is answered of one. Conditions: as few regions as 1000. -/
import Derived.Test.YtpgjdbnhbkggpaaLabU
import Derived.Test.YtpgjdbnhbkggpaaPlaN
namespace Go.Proofs.Ytpgjdbnhbkggpaa
open Go.RowKit Go.IntWalk

/-- The document's plan in memory: x's block, the regions' list; F: its blocks. -/
structure RefPn (B : Nat) (w : World) (x : Nat) (size : Int) (rs : Rgs) (F : Nat → Prop) : Prop where
  ex : ∃ v, BlkAt x 31 #[.int .i64 size, v] w ∧ OwnEl rgK w B 37 v rs ∧ ∀ j, v.ownBlock = some j → F j
  own : F x
  low : ∀ j, F j → B ≤ j ∧ j < w.heap.size
theorem RefPn.kept {B x : Nat} {w w' : World} {size : Int} {rs : Rgs} {F G : Nat → Prop} (h : RefPn B w x size rs F) (k : Keeps G w w') (hn : ∀ j, F j → ¬ G j) : RefPn B w' x size rs F := by
  obtain ⟨v, h1, h2, h3⟩ := h.ex
  exact ⟨⟨v, h1.kept k (hn _ h.own), h2.kept k fun j q => hn j (h3 j q), h3⟩, h.own, fun j q => ⟨(h.low j q).1, Nat.lt_of_lt_of_le (h.low j q).2 k.size⟩⟩
theorem RefPn.keep {B x : Nat} {w w' : World} {size : Int} {rs : Rgs} {F : Nat → Prop} (h : RefPn B w x size rs F) (k : Below w.heap.size w w') : RefPn B w' x size rs F := h.kept (Keeps.of_below (fun _ => False) k) fun _ _ q => q
theorem RefPn.new (w : World) (B : Nat) (size : Int) (hB : B ≤ w.heap.size) : RefPn B (w.alloc (.cells #[.int .i64 size, .slice none 0 0] 31)) w.heap.size size [] (fun j => j = w.heap.size) := by
  refine ⟨⟨_, BlkAt.new w _ _, OwnEl.nil _ _ _ _, ?_⟩, rfl, ?_⟩
  · intro j q; cases q
  · intro j q; subst q; simp; omega
theorem RefPn.at {B x : Nat} {w : World} {size : Int} {rs : Rgs} {F : Nat → Prop} (h : RefPn B w x size rs F) {n : Nat} (hn : rs.length = n) : ∃ a c, w.cell? ⟨x, 0, none⟩ = some (.int .i64 size) ∧ w.cell? ⟨x, 1, none⟩ = some (.slice a n c) ∧ ElAt rgK w a n c rs := by
  obtain ⟨v, h1, h2, -⟩ := h.ex
  obtain ⟨a, c, rfl, h3⟩ := h2.at
  subst hn
  exact ⟨a, c, h1.cell 0, h1.cell 1, h3⟩
section
variable {B x n : Nat} {size : Int} {rs : Rgs} {F : Nat → Prop}
set_option maxHeartbeats 2000000 in
theorem refUsed20_is (w : World) (h : RefPn B w x size rs F) (hs : Sides size rs) (hn : rs.length ≤ 2048) :
    Calls Try.prog 14 #[.pointer (some ⟨x, 0, none⟩)] w fun e w' => e = .returned (.int .i64 (usedR rs)) ∧ w = w' := by
  obtain ⟨n, hnl⟩ : ∃ n, rs.length = n := ⟨_, rfl⟩
  obtain ⟨a, c, c0, c1, h3⟩ := h.at hnl
  rw [hnl] at hn
  have HL := Lib.hid hnl
  have H3 := Lib.hid h3
  have HS := Lib.hid hs
  have hcap := h3.cap
  have hbig := h3.big
  unfold maxLen at hbig
  clear h h3 hnl hs c0
  go_enter Try.func14, Try.ntmps14
  go_wp2
  go_loop [3, 4] (fun s i => ∃ k : Nat, k ≤ n ∧ i = .int .i64 k ∧ s = .int .i64 (usedR (rs.take k))) (fun _ i => n - (intOf i).toNat)
  case atStart => exact ⟨0, by omega, rfl, rfl⟩
  case round =>
    obtain ⟨k, hk, rfl, rfl⟩ := hrel
    by_cases hlt : k < n
    · have hlt' : (k : Int) < n := by omega
      have hkl : k < rs.length := by rw [HL.out]; exact hlt
      obtain ⟨b, off, rfl, d0, d1, d2, d3⟩ := H3.out.rg hlt
      have hu := used_succ hkl
      have b1 := HS.out.upto (i := k) (by omega)
      have b2 := HS.out.upto (i := k + 1) (by omega)
      rw [hu] at b2
      have HU := Lib.hid hu
      clear hu hkl d0 d1 d3
      generalize (el rs k).2.2.1 = m at *
      generalize usedR (rs.take k) = u at *
      go_wp2
      go_round
      case rel => exact ⟨k + 1, by omega, by go_num, by rw [HU.out]⟩
      case measure => simp [intOf]; omega
    · obtain rfl : k = n := by omega
      go_wp2
      go_ret
      have := HL.out
      refine ⟨retI ?_, rfl⟩
      rw [← this, List.take_length]
set_option maxHeartbeats 2000000 in
theorem refFind20_is (w : World) (s : ByteArray) (h : RefPn B w x size rs F) (hn : rs.length ≤ 2048) :
    Calls Try.prog 10 #[.pointer (some ⟨x, 0, none⟩), .string s] w fun e w' => e = .returned (.tuple #[rgV (fV rs s), .bool (fB rs s)]) ∧ Below w.heap.size w w' := by
  obtain ⟨n, hnl⟩ : ∃ n, rs.length = n := ⟨_, rfl⟩
  obtain ⟨b0, hb0⟩ : ∃ b0, w.heap.size = b0 := ⟨_, rfl⟩
  have hW0 := BlkAt.new w 37 #[.string ⟨#[]⟩, .int .i64 0, .int .i64 0, .bool false]
  have hbel := (Below.refl w.heap.size w).alloc (Nat.le_refl _) (.cells #[.string ⟨#[]⟩, .int .i64 0, .int .i64 0, .bool false] 37)
  have h1 := h.keep hbel
  obtain ⟨W, hW⟩ : ∃ W, w.alloc (.cells #[.string ⟨#[]⟩, .int .i64 0, .int .i64 0, .bool false] 37) = W := ⟨_, rfl⟩
  rw [hW] at hW0 hbel h1
  rw [hb0] at hW0 hbel
  obtain ⟨a, c, c0, c1, h3⟩ := h1.at hnl
  rw [hnl] at hn
  have HL := Lib.hid hnl
  have H3 := Lib.hid h3
  have HW0 := Lib.hid hW0
  have HBE := Lib.hid hbel
  have hcap := h3.cap
  have hbig := h3.big
  unfold maxLen at hbig
  have f0 := hW0.free 0
  have f1 := hW0.free 1
  have f2 := hW0.free 2
  have f3 := hW0.free 3
  have g0 : W.cell? ⟨b0, 0, none⟩ = some (.string ⟨#[]⟩) := hW0.cell 0
  have g1 : W.cell? ⟨b0, 1, none⟩ = some (.int .i64 0) := hW0.cell 1
  have g2 : W.cell? ⟨b0, 2, none⟩ = some (.int .i64 0) := hW0.cell 2
  have g3 : W.cell? ⟨b0, 3, none⟩ = some (.bool false) := hW0.cell 3
  clear h h1 h3 hnl c0 hW0 hbel
  go_enter Try.func10, Try.ntmps10
  go_wp2
  have HB0 := Lib.hid hb0
  clear hW hb0
  go_loopw [6] (fun i wr => wr = W ∧ ∃ k : Nat, k ≤ n ∧ i = .int .i64 k ∧ ∀ j, j < k → (el rs j).1 ≠ s) (fun i _ => n - (intOf i).toNat)
  case atStart => exact ⟨rfl, 0, by omega, rfl, fun j hj => by omega⟩
  case round =>
    obtain ⟨rfl, k, hk, rfl, hno⟩ := hrel
    have HNO := Lib.hid hno
    clear hno
    by_cases hlt : k < n
    · have hlt' : (k : Int) < n := by omega
      have hkl : k < rs.length := by rw [HL.out]; exact hlt
      obtain ⟨b, off, rfl, d0, d1, d2, d3⟩ := H3.out.rg hlt
      by_cases he : (el rs k).1 = s
      · obtain ⟨p1, p2⟩ := f_hit hkl HNO.out he
        have P1 := Lib.hid p1
        have P2 := Lib.hid p2
        have ht := str_same he
        clear p1 p2 he
        generalize el rs k = r at *
        obtain ⟨r0, r1, r2, r3⟩ := r
        simp only at d0 d1 d2 d3 ht
        go_wp2
        have hB := rg_put HW0.out HBE.out (Nat.le_refl _) (.string r0) (.int .i64 r1) (.int .i64 r2) (.bool r3)
        generalize (((wr.setCell ⟨b0, 0, none⟩ (.string r0)).setCell ⟨b0, 1, none⟩ (.int .i64 r1)).setCell ⟨b0, 2, none⟩ (.int .i64 r2)).setCell ⟨b0, 3, none⟩ (.bool r3) = W5 at hB ⊢
        obtain ⟨⟨p0, p1, p2, p3⟩, pb⟩ := hB
        exact bodyPost_ret (v := .tuple #[rgV (r0, r1, r2, r3), .bool true]) (by simp [results, Try.results10, go_sem, p0, p1, p2, p3, rgV]) rfl ⟨by rw [P1.out, P2.out], by rw [HB0.out]; exact pb⟩
      · have HE := Lib.hid he
        have ht := str_apart he
        clear he
        go_wp2
        go_roundw
        case rel => exact ⟨trivial, k + 1, by omega, by go_num, fun j hj => by
          rcases Nat.lt_succ_iff_lt_or_eq.1 hj with q | q
          · exact HNO.out j q
          · subst q; exact HE.out⟩
        case measure => simp [intOf]; omega
    · obtain ⟨p1, p2⟩ := f_none (rs := rs) (n := s) (fun i hi => HNO.out i (by have := HL.out; omega))
      have P1 := Lib.hid p1
      have P2 := Lib.hid p2
      clear p1 p2
      obtain rfl : k = n := by omega
      go_wp2
      have hB := rg_put HW0.out HBE.out (Nat.le_refl _) (.string ⟨#[]⟩) (.int .i64 0) (.int .i64 0) (.bool false)
      generalize (((wr.setCell ⟨b0, 0, none⟩ (.string ⟨#[]⟩)).setCell ⟨b0, 1, none⟩ (.int .i64 0)).setCell ⟨b0, 2, none⟩ (.int .i64 0)).setCell ⟨b0, 3, none⟩ (.bool false) = W5 at hB ⊢
      obtain ⟨⟨p0, p1, p2, p3⟩, pb⟩ := hB
      exact bodyPost_ret (v := .tuple #[rgV rg0, .bool false]) (by simp [results, Try.results10, go_sem, p0, p1, p2, p3, rgV, rg0]) rfl ⟨by rw [P1.out, P2.out], by rw [HB0.out]; exact pb⟩
set_option maxHeartbeats 4000000 in
theorem refAt20_is (w : World) (x0 : Int) (h : RefPn B w x size rs F) (hs : Sides size rs) (hn : rs.length ≤ 2048) :
    Calls Try.prog 12 #[.pointer (some ⟨x, 0, none⟩), .int .i64 x0] w fun e w' => e = .returned (.tuple #[rgV (aV rs x0), .int .i64 (aO rs x0), .bool (aB rs x0)]) ∧ Below w.heap.size w w' := by
  obtain ⟨n, hnl⟩ : ∃ n, rs.length = n := ⟨_, rfl⟩
  obtain ⟨b0, hb0⟩ : ∃ b0, w.heap.size = b0 := ⟨_, rfl⟩
  have hW0 := BlkAt.new w 37 #[.string ⟨#[]⟩, .int .i64 0, .int .i64 0, .bool false]
  have hbel := (Below.refl w.heap.size w).alloc (Nat.le_refl _) (.cells #[.string ⟨#[]⟩, .int .i64 0, .int .i64 0, .bool false] 37)
  have h1 := h.keep hbel
  obtain ⟨W, hW⟩ : ∃ W, w.alloc (.cells #[.string ⟨#[]⟩, .int .i64 0, .int .i64 0, .bool false] 37) = W := ⟨_, rfl⟩
  rw [hW] at hW0 hbel h1
  rw [hb0] at hW0 hbel
  rw [hnl] at hn
  have HR := Lib.hid h1
  have HL := Lib.hid hnl
  have HW0 := Lib.hid hW0
  have HBE := Lib.hid hbel
  have HS := Lib.hid hs
  have HB0 := Lib.hid hb0
  have HW := Lib.hid hW
  clear h h1 hnl hW0 hbel hs
  go_enter Try.func12, Try.ntmps12
  go_wp2
  clear hW hb0 HW
  go_loopw [7] (fun i wr => Below W.heap.size W wr ∧ ∃ k : Nat, k ≤ n ∧ i = .int .i64 k ∧ ∀ j, j < k → hasP x0 (el rs j) = false) (fun i _ => n - (intOf i).toNat)
  case atStart => exact ⟨Below.refl _ _, 0, by omega, rfl, fun j hj => by omega⟩
  case round =>
    obtain ⟨hbw, k, hk, rfl, hno⟩ := hrel
    have HNO := Lib.hid hno
    have HBW := Lib.hid hbw
    obtain ⟨a, c, c0, c1, h3⟩ := (HR.out.keep hbw).at HL.out
    have hW0 := HW0.out.keep hbw
    have hbw2 := HBE.out.trans (hbw.mono (Nat.le_of_lt HW0.out.lt))
    have hcap := h3.cap
    have hbig := h3.big
    unfold maxLen at hbig
    have f0 := hW0.free 0
    have f1 := hW0.free 1
    have f2 := hW0.free 2
    have f3 := hW0.free 3
    have g0 : wr.cell? ⟨b0, 0, none⟩ = some (.string ⟨#[]⟩) := hW0.cell 0
    have g1 : wr.cell? ⟨b0, 1, none⟩ = some (.int .i64 0) := hW0.cell 1
    have g2 : wr.cell? ⟨b0, 2, none⟩ = some (.int .i64 0) := hW0.cell 2
    have g3 : wr.cell? ⟨b0, 3, none⟩ = some (.bool false) := hW0.cell 3
    have HWR := Lib.hid hW0
    have HBR := Lib.hid hbw2
    clear hno hbw hW0 hbw2 c0
    by_cases hlt : k < n
    · have hlt' : (k : Int) < n := by omega
      have hkl : k < rs.length := by rw [HL.out]; exact hlt
      obtain ⟨b, off, rfl, d0, d1, d2, d3⟩ := h3.rg hlt
      have H3 := Lib.hid h3
      obtain ⟨e0, e1, e2, e3⟩ := HS.out.one hkl
      obtain ⟨r, hr⟩ : ∃ r, el rs k = r := ⟨_, rfl⟩
      have HR9 := Lib.hid hr
      rw [hr] at d0 d1 d2 d3 e0 e1 e2
      obtain ⟨r0, r1, r2, r3⟩ := r
      simp only at d0 d1 d2 d3 e0 e1 e2
      have e4 : r1 + r2 ≤ 2048 := by omega
      clear e2 e3 h3 hr
      have HN := Lib.hid (BlkAt.new wr 37 #[.string r0, .int .i64 r1, .int .i64 r2, .bool r3])
      have HNB := Lib.hid ((Below.refl wr.heap.size wr).alloc (Nat.le_refl _) (.cells #[.string r0, .int .i64 r1, .int .i64 r2, .bool r3] 37))
      go_wp2
      clear f0 f1 f2 f3 g0 g1 g2 g3 c1 d0 d1 d2 d3
      obtain ⟨nb, hnb⟩ : ∃ nb, wr.heap.size = nb := ⟨_, rfl⟩
      obtain ⟨W2, hW2⟩ : ∃ W2, wr.alloc (.cells #[.string r0, .int .i64 r1, .int .i64 r2, .bool r3] 37) = W2 := ⟨_, rfl⟩
      rw [hW2] at HN HNB ⊢
      have HNB2 := Lib.hid (HBW.out.trans (HNB.out.mono HBW.out.size))
      have HB2 := Lib.hid (HBR.out.trans (HNB.out.mono (by have := HBR.out.size; have := HWR.out.lt; omega)))
      have HW2 := Lib.hid (HWR.out.keep HNB.out)
      rw [hnb] at HN
      simp only [hnb]
      have m0 : W2.cell? ⟨nb, 0, none⟩ = some (.string r0) := HN.out.cell 0
      have m1 : W2.cell? ⟨nb, 1, none⟩ = some (.int .i64 r1) := HN.out.cell 1
      have m2 : W2.cell? ⟨nb, 2, none⟩ = some (.int .i64 r2) := HN.out.cell 2
      have m3 : W2.cell? ⟨nb, 3, none⟩ = some (.bool r3) := HN.out.cell 3
      have f0 := HW2.out.free 0
      have f1 := HW2.out.free 1
      have f2 := HW2.out.free 2
      have f3 := HW2.out.free 3
      have g0 : W2.cell? ⟨b0, 0, none⟩ = some (.string ⟨#[]⟩) := HW2.out.cell 0
      have g1 : W2.cell? ⟨b0, 1, none⟩ = some (.int .i64 0) := HW2.out.cell 1
      have g2 : W2.cell? ⟨b0, 2, none⟩ = some (.int .i64 0) := HW2.out.cell 2
      have g3 : W2.cell? ⟨b0, 3, none⟩ = some (.bool false) := HW2.out.cell 3
      clear hW2 hnb
      go_loopw [9] (fun i ws => ws = W2 ∧ ∃ m : Nat, (m : Int) ≤ r2 ∧ i = .int .i64 m ∧ (x0 < r1 ∨ r1 + m ≤ x0)) (fun i _ => r2.toNat - (intOf i).toNat)
      case atStart => exact ⟨rfl, 0, by omega, rfl, by omega⟩
      case round =>
        obtain ⟨rfl, m, hm, rfl, hd⟩ := hrel
        by_cases hl2 : (m : Int) < r2
        · by_cases he : r1 + m = x0
          · obtain ⟨p1, p2, p3⟩ := a_hit (x := x0) hkl HNO.out (by rw [HR9.out]; exact has_yes (by simp only; omega) (by simp only; omega))
            rw [HR9.out] at p2 p3
            have P1 := Lib.hid p1
            have P2 := Lib.hid p2
            have P3 := Lib.hid (show aO rs x0 = m by rw [p3]; simp only; omega)
            clear p1 p2 p3
            go_wp2
            have hB := rg_put HW2.out HB2.out (Nat.le_refl _) (.string r0) (.int .i64 r1) (.int .i64 r2) (.bool r3)
            generalize (((wr.setCell ⟨b0, 0, none⟩ (.string r0)).setCell ⟨b0, 1, none⟩ (.int .i64 r1)).setCell ⟨b0, 2, none⟩ (.int .i64 r2)).setCell ⟨b0, 3, none⟩ (.bool r3) = W5 at hB ⊢
            obtain ⟨⟨p0, p1, p2, p3⟩, pb⟩ := hB
            exact bodyPost_ret (v := .tuple #[rgV (r0, r1, r2, r3), .int .i64 m, .bool true]) (by simp [results, Try.results12, go_sem, p0, p1, p2, p3, rgV]) rfl ⟨by rw [P1.out, P2.out, P3.out], by rw [HB0.out]; exact pb⟩
          · go_wp2
            go_roundw
            case rel => exact ⟨trivial, m + 1, by omega, by go_num, by omega⟩
            case measure => simp [intOf]; omega
        · go_wp2
          go_roundw
          case rel => exact ⟨HNB2.out, k + 1, by omega, by go_num, fun j hj => by
            rcases Nat.lt_succ_iff_lt_or_eq.1 hj with q | q
            · exact HNO.out j q
            · subst q
              rw [HR9.out]
              rcases hd with q | q
              · exact has_no2 q
              · exact has_no1 (by simp only; omega)⟩
          case measure => simp [intOf]; omega
    · obtain ⟨p1, p2, p3⟩ := a_none (rs := rs) (x := x0) (fun i hi => HNO.out i (by have := HL.out; omega))
      have P1 := Lib.hid p1
      have P2 := Lib.hid p2
      have P3 := Lib.hid p3
      clear p1 p2 p3
      obtain rfl : k = n := by omega
      go_wp2
      have hB := rg_put HWR.out HBR.out (Nat.le_refl _) (.string ⟨#[]⟩) (.int .i64 0) (.int .i64 0) (.bool false)
      generalize (((wr.setCell ⟨b0, 0, none⟩ (.string ⟨#[]⟩)).setCell ⟨b0, 1, none⟩ (.int .i64 0)).setCell ⟨b0, 2, none⟩ (.int .i64 0)).setCell ⟨b0, 3, none⟩ (.bool false) = W5 at hB ⊢
      obtain ⟨⟨p0, p1, p2, p3⟩, pb⟩ := hB
      exact bodyPost_ret (v := .tuple #[rgV rg0, .int .i64 0, .bool false]) (by simp [results, Try.results12, go_sem, p0, p1, p2, p3, rgV, rg0]) rfl ⟨by rw [P1.out, P2.out, P3.out], by rw [HB0.out]; exact pb⟩
end
end Go.Proofs.Ytpgjdbnhbkggpaa
