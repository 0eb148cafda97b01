/- Package image: long, within, twice, Check. Conditions: as few of In as 255 where two are sought. -/
import Derived.Test.YtekhgidbnpfmnaaGreatDoorImgC
namespace Go.Proofs.YtekhgidbnpfmnaaGreatDoor
open Go.RowKit Go.IntWalk

theorem Ws.pre {κ : IntKind} {w : World} {a : Option Addr} {n c : Nat} {l : List Int} (h : Ws κ w a n c l) {k : Nat} (hk : k ≤ n) : Ws κ w a k c (l.take k) := by
  refine ⟨by rw [List.length_take, h.len]; omega, by have := h.cap; omega, h.big, fun e => ?_, fun hn => ?_⟩
  · have := h.nil e; omega
  · obtain ⟨b, off, e, hc⟩ := h.lie (by omega)
    exact ⟨b, off, e, fun i hi => by rw [hc i (by omega), byAt_take (by omega)]⟩
set_option maxRecDepth 100000 in
set_option maxHeartbeats 1000000 in
theorem slIndexI_is {a : Option Addr} {n c : Nat} {l : List Int} {x : Int} {w : World} (h : Ws .i64 w a n c l) : Calls Tryz.prog 117 #[.slice a n c, .int .i64 x] w fun e w' => (∃ r : Int, e = .returned (.int .i64 r) ∧ ((0 ≤ r) ↔ x ∈ l)) ∧ w = w' := by
  have hcap := h.cap
  have hbig := h.big
  unfold maxLen at hbig
  have HB := Lib.hid h
  have HL := Lib.hid h.len
  clear h
  go_enter Tryz.func117, Tryz.ntmps117
  go_wp2
  go_loop [8] (fun i => ∃ j : Nat, j ≤ n ∧ i = .int .i64 j ∧ ∀ q, q < j → x ≠ byAt l q) (fun i => n - (intOf i).toNat)
  case atStart => exact ⟨0, by omega, rfl, fun q hq => by omega⟩
  case round =>
    obtain ⟨j, hj, rfl, hq⟩ := hrel
    have HQ := Lib.hid hq
    clear hq
    by_cases hlt : j < n
    · obtain ⟨b, off, rfl, dd⟩ := HB.out.lie (by omega)
      have d := dd j hlt
      clear dd
      have hlt' : (j : Int) < n := by omega
      by_cases hr : x = byAt l j
      · have HR := Lib.hid hr
        have hm := Lib.hid (show x ∈ l by
          have : j < l.length := by have := HL.out; omega
          rw [hr, ← byAt_eq this]; exact List.getElem_mem _)
        have hb : (x == byAt l j) = true := by simpa using hr
        clear hr
        generalize byAt l j = y at *
        go_wp2
        go_ret
        exact ⟨⟨j, rfl, ⟨fun _ => hm.out, fun _ => by omega⟩⟩, rfl⟩
      · have HR := Lib.hid hr
        have hb : (x == byAt l j) = false := by simpa using hr
        clear hr
        generalize hy : byAt l j = y at *
        go_wp2
        go_round
        case rel => exact ⟨j + 1, by omega, by go_num, fun q hq => by
                      rcases (show q < j ∨ q = j by omega) with h | rfl
                      · exact HQ.out q h
                      · rw [hy]; exact HR.out⟩
        case measure => simp [intOf]; omega
    · obtain rfl : j = n := by omega
      have hm := Lib.hid (show ¬ x ∈ l from fun hx => by
        obtain ⟨i, hi, e⟩ := List.mem_iff_getElem.1 hx
        refine HQ.out i (by have := HL.out; omega) ?_
        rw [← byAt_eq hi, e])
      go_wp2
      go_ret
      exact ⟨⟨-1, rfl, ⟨fun h => by omega, fun h => absurd h hm.out⟩⟩, rfl⟩
set_option maxRecDepth 100000 in
set_option maxHeartbeats 1000000 in
theorem slContainsI_is {a : Option Addr} {n c : Nat} {l : List Int} {x : Int} {w : World} (h : Ws .i64 w a n c l) : Calls Tryz.prog 82 #[.slice a n c, .int .i64 x] w fun e w' => e = .returned (.bool (decide (x ∈ l))) ∧ w = w' := by
  have HB := Lib.hid h
  clear h
  go_enter Tryz.func82, Tryz.ntmps82
  go_wp2_with (go_at_call 117; ((with_reducible refine (slIndexI_is HB.out).mono ?_); rintro e w1 ⟨⟨r, rfl, hr⟩, rfl⟩); have HR := Lib.hid hr; clear hr)
  go_ret
  exact ⟨by simp [HR.out], rfl⟩
set_option maxRecDepth 100000 in
set_option maxHeartbeats 1000000 in
theorem imgWithin_is {a b : Option Addr} {n c k d : Nat} {l : List Int} {w : World} (h : Ws .i64 w a n c l) : Calls Tryz.prog 51 #[.slice a n c, .slice b k d] w fun e w' => e = .returned (.bool (addrs l k)) ∧ w = w' := by
  have hcap := h.cap
  have hbig := h.big
  unfold maxLen at hbig
  have HB := Lib.hid h
  have HL := Lib.hid h.len
  clear h
  go_enter Tryz.func51, Tryz.ntmps51
  go_wp2
  go_loop [9] (fun i => ∃ j : Nat, j ≤ n ∧ i = .int .i64 j ∧ ∀ q, q < j → 0 ≤ byAt l q ∧ byAt l q < k) (fun i => n - (intOf i).toNat)
  case atStart => exact ⟨0, by omega, rfl, fun q hq => by omega⟩
  case round =>
    obtain ⟨j, hj, rfl, hq⟩ := hrel
    have HQ := Lib.hid hq
    clear hq
    by_cases hlt : j < n
    · obtain ⟨b, off, rfl, dd⟩ := HB.out.lie (by omega)
      have d := dd j hlt
      clear dd
      have hlt' : (j : Int) < n := by omega
      by_cases hr : 0 ≤ byAt l j ∧ byAt l j < k
      · have HR := Lib.hid hr
        obtain ⟨r1, r2⟩ := hr
        generalize hy : byAt l j = y at *
        go_wp2
        go_round
        case rel => exact ⟨j + 1, by omega, by go_num, fun q hq => by
                      rcases (show q < j ∨ q = j by omega) with h | rfl
                      · exact HQ.out q h
                      · rw [hy]; exact HR.out⟩
        case measure => simp [intOf]; omega
      · have HE := Lib.hid (addrs_no (l := l) (n := k) (k := j) (by have := HL.out; omega) (by omega))
        rcases (show byAt l j < 0 ∨ (0 ≤ byAt l j ∧ (k : Int) ≤ byAt l j) by omega) with r | ⟨r, r'⟩
        all_goals
          clear hr
          go_wp2
          go_ret
          exact ⟨by rw [HE.out]; rfl, rfl⟩
    · obtain rfl : j = n := by omega
      have HE := Lib.hid (addrs_yes (l := l) (n := k) fun q hq => HQ.out q (by have := HL.out; omega))
      go_wp2
      go_ret
      exact ⟨by rw [HE.out]; rfl, rfl⟩
theorem mem_take {l : List Int} {j : Nat} {x : Int} (hj : j ≤ l.length) : x ∈ l.take j ↔ ∃ k, k < j ∧ byAt l k = x := by
  rw [List.mem_iff_getElem]
  constructor
  · rintro ⟨i, hi, e⟩
    rw [List.length_take] at hi
    refine ⟨i, by omega, ?_⟩
    rw [List.getElem_take] at e
    rw [← byAt_eq (by omega), e]
  · rintro ⟨k, hk, e⟩
    refine ⟨k, by rw [List.length_take]; omega, ?_⟩
    rw [List.getElem_take, byAt_eq (by omega), e]
set_option maxRecDepth 100000 in
set_option maxHeartbeats 1000000 in
theorem imgTwice_is {a : Option Addr} {n c : Nat} {l : List Int} {w : World} (h : Ws .i64 w a n c l) : Calls Tryz.prog 52 #[.slice a n c] w fun e w' => e = .returned (.bool (!noTwo l)) ∧ w = w' := by
  have hcap := h.cap
  have hbig := h.big
  unfold maxLen at hbig
  have HB := Lib.hid h
  have HL := Lib.hid h.len
  clear h
  go_enter Tryz.func52, Tryz.ntmps52
  go_wp2
  go_loop [7] (fun i => ∃ j : Nat, j ≤ n ∧ i = .int .i64 j ∧ ∀ u v, u < j → v < u → byAt l u ≠ byAt l v) (fun i => n - (intOf i).toNat)
  case atStart => exact ⟨0, by omega, rfl, fun u v hu => by omega⟩
  case round =>
    obtain ⟨j, hj, rfl, hq⟩ := hrel
    have HQ := Lib.hid hq
    clear hq
    by_cases hlt : j < n
    · have HP := Lib.hid (HB.out.pre (k := j) (by omega))
      obtain ⟨b, off, rfl, dd⟩ := HB.out.lie (by omega)
      have d := dd j hlt
      clear dd
      have hlt' : (j : Int) < n := by omega
      obtain ⟨z, hz⟩ : ∃ z, decide (byAt l j ∈ l.take j) = z := ⟨_, rfl⟩
      have K := Lib.hid (slContainsI_is (x := byAt l j) HP.out)
      rw [hz] at K
      generalize hy : byAt l j = y at *
      have HZ := Lib.hid hz
      clear hz
      cases z
      · go_wp2_with (go_at_call 82; ((with_reducible refine (K.out).mono ?_); rintro e w1 ⟨rfl, rfl⟩))
        go_round
        case rel => exact ⟨j + 1, by omega, by go_num, fun u v hu hv => by
                      rcases (show u < j ∨ u = j by omega) with h | rfl
                      · exact HQ.out u v h hv
                      · rw [hy]
                        intro e
                        have := of_decide_eq_false HZ.out
                        exact this ((mem_take (by have := HL.out; omega)).2 ⟨v, hv, e.symm⟩)⟩
        case measure => simp [intOf]; omega
      · have HE := Lib.hid (show noTwo l = false by
          obtain ⟨k, hk, e⟩ := (mem_take (by have := HL.out; omega)).1 (of_decide_eq_true HZ.out)
          exact two_no (i := j) (by have := HL.out; omega) hk (by rw [hy, e]))
        go_wp2_with (go_at_call 82; ((with_reducible refine (K.out).mono ?_); rintro e w1 ⟨rfl, rfl⟩))
        go_ret
        exact ⟨by rw [HE.out]; rfl, rfl⟩
    · obtain rfl : j = n := by omega
      have HE := Lib.hid (two_yes (l := l) fun u v hu hv => HQ.out u v (by have := HL.out; omega) hv)
      go_wp2
      go_ret
      exact ⟨by rw [HE.out]; rfl, rfl⟩
section
variable {w : World} {a0 a1 a2 a3 a4 : Option Addr} {n0 n1 n2 n3 n4 c0 c1 c2 c3 c4 : Nat} {m : Img}
def lngB (n0 n1 n3 n4 : Nat) : Bool := decide (16384 < n0 ∨ 2048 < n1 ∨ 255 < n3 ∨ 255 < n4)
set_option maxRecDepth 100000 in
set_option maxHeartbeats 2000000 in
theorem imgLong_is : Calls Tryz.prog 50 #[.agg #[.slice a0 n0 c0, .slice a1 n1 c1, .slice a2 n2 c2, .slice a3 n3 c3, .slice a4 n4 c4]] w fun e w' => e = .returned (.bool (lngB n0 n1 n3 n4)) ∧ Below w.heap.size w w' := by
  have al := (Below.refl w.heap.size w).alloc (Nat.le_refl _) (.cells #[.slice a0 n0 c0, .slice a1 n1 c1, .slice a2 n2 c2, .slice a3 n3 c3, .slice a4 n4 c4] 27)
  have AL := Lib.hid al
  obtain ⟨z, hz⟩ : ∃ z, lngB n0 n1 n3 n4 = z := ⟨_, rfl⟩
  have hs : ((16384 : Int) < n0 ∧ z = true) ∨ ((n0 : Int) ≤ 16384 ∧ (2048 : Int) < n1 ∧ z = true) ∨ ((n0 : Int) ≤ 16384 ∧ (n1 : Int) ≤ 2048 ∧ (255 : Int) < n3 ∧ z = true) ∨
      ((n0 : Int) ≤ 16384 ∧ (n1 : Int) ≤ 2048 ∧ (n3 : Int) ≤ 255 ∧ (255 : Int) < n4 ∧ z = true) ∨ ((n0 : Int) ≤ 16384 ∧ (n1 : Int) ≤ 2048 ∧ (n3 : Int) ≤ 255 ∧ (n4 : Int) ≤ 255 ∧ z = false) := by
    unfold lngB at hz
    by_cases h : 16384 < n0 ∨ 2048 < n1 ∨ 255 < n3 ∨ 255 < n4
    · rw [decide_eq_true h] at hz
      subst hz
      simp only [and_true]
      omega
    · rw [decide_eq_false h] at hz
      subst hz
      exact .inr (.inr (.inr (.inr ⟨by omega, by omega, by omega, by omega, rfl⟩)))
  rw [hz]
  clear al hz
  rcases hs with ⟨q0, rfl⟩ | ⟨q0, q1, rfl⟩ | ⟨q0, q1, q2, rfl⟩ | ⟨q0, q1, q2, q3, rfl⟩ | ⟨q0, q1, q2, q3, rfl⟩
  all_goals
    try have d0 := decide_eq_true (show ((16384 : Int) < n0) by omega)
    try have d0 := decide_eq_false (show ¬ ((16384 : Int) < n0) by omega)
    try have d1 := decide_eq_true (show ((2048 : Int) < n1) by omega)
    try have d1 := decide_eq_false (show ¬ ((2048 : Int) < n1) by omega)
    try have d2 := decide_eq_true (show ((255 : Int) < n3) by omega)
    try have d2 := decide_eq_false (show ¬ ((255 : Int) < n3) by omega)
    try have d3 := decide_eq_true (show ((255 : Int) < n4) by omega)
    try have d3 := decide_eq_false (show ¬ ((255 : Int) < n4) by omega)
    go_enter Tryz.func50, Tryz.ntmps50
    go_wp2
    go_ret
    exact ⟨rfl, AL.out⟩
set_option maxRecDepth 100000 in
set_option maxHeartbeats 4000000 in
theorem imgCheck_is (h : ImgAt w a0 n0 c0 a1 n1 c1 a2 n2 c2 a3 n3 c3 a4 n4 c4 m) : Calls Tryz.prog 21 #[.agg #[.slice a0 n0 c0, .slice a1 n1 c1, .slice a2 n2 c2, .slice a3 n3 c3, .slice a4 n4 c4]] w fun e w' => e = .returned (.int .i64 (chkI m)) ∧ Below w.heap.size w w' := by
  have al := (Below.refl w.heap.size w).alloc (Nat.le_refl _) (.cells #[.slice a0 n0 c0, .slice a1 n1 c1, .slice a2 n2 c2, .slice a3 n3 c3, .slice a4 n4 c4] 27)
  have AL := Lib.hid al
  have l0 := h.code.len
  have l1 := h.data.len
  have l2 := h.sec.len
  have l3 := h.inn.len
  have l4 := h.out.len
  obtain ⟨z, hz⟩ : ∃ z, chkI m = z := ⟨_, rfl⟩
  rw [hz]
  obtain ⟨g, hg⟩ : ∃ g, lngB n0 n1 n3 n4 = g := ⟨_, rfl⟩
  have KL := Lib.hid (fun W => imgLong_is (w := W) (a0 := a0) (n0 := n0) (c0 := c0) (a1 := a1) (n1 := n1) (c1 := c1) (a2 := a2) (n2 := n2) (c2 := c2) (a3 := a3) (n3 := n3) (c3 := c3) (a4 := a4) (n4 := n4) (c4 := c4))
  rw [hg] at KL
  have KI := Lib.hid (fun W (k : Below w.heap.size w W) (b : Option Addr) (d : Nat) => imgWithin_is (b := b) (k := n1) (d := d) (h.inn.keep k))
  have KO := Lib.hid (fun W (k : Below w.heap.size w W) (b : Option Addr) (d : Nat) => imgWithin_is (b := b) (k := n1) (d := d) (h.out.keep k))
  have KT := Lib.hid (fun W (k : Below w.heap.size w W) => imgTwice_is (h.inn.keep k))
  obtain ⟨z1, hz1⟩ : ∃ z1, addrs m.inn n1 = z1 := ⟨_, rfl⟩
  obtain ⟨z2, hz2⟩ : ∃ z2, addrs m.out n1 = z2 := ⟨_, rfl⟩
  obtain ⟨z3, hz3⟩ : ∃ z3, noTwo m.inn = z3 := ⟨_, rfl⟩
  rw [hz1] at KI
  rw [hz2] at KO
  rw [hz3] at KT
  have hs : (g = true ∧ z = 5) ∨ (g = false ∧ (n2 : Int) ≠ n1 ∧ z = 2) ∨ (g = false ∧ (n2 : Int) = n1 ∧ z1 = false ∧ z = 2) ∨ (g = false ∧ (n2 : Int) = n1 ∧ z1 = true ∧ z2 = false ∧ z = 2) ∨
      (g = false ∧ (n2 : Int) = n1 ∧ z1 = true ∧ z2 = true ∧ z3 = false ∧ z = 9) ∨ (g = false ∧ (n2 : Int) = n1 ∧ z1 = true ∧ z2 = true ∧ z3 = true ∧ z = 0) := by
    have hge : g = true ↔ (16384 < n0 ∨ 2048 < n1 ∨ 255 < n3 ∨ 255 < n4) := by
      rw [← hg]; unfold lngB; exact decide_eq_true_iff
    unfold chkI at hz
    rw [l0, l1, l2, l3, l4, hz1, hz2, hz3] at hz
    split at hz
    · rename_i q
      exact .inl ⟨hge.2 q, hz.symm⟩
    · rename_i q
      have hgf : g = false := by
        cases g
        · rfl
        · exact absurd (hge.1 rfl) q
      split at hz
      · rename_i q2
        by_cases e : n2 = n1
        · cases z1
          · exact .inr (.inr (.inl ⟨hgf, by omega, rfl, hz.symm⟩))
          · cases z2
            · exact .inr (.inr (.inr (.inl ⟨hgf, by omega, rfl, rfl, hz.symm⟩)))
            · rcases q2 with q2 | q2 | q2
              · exact absurd e q2
              · cases q2
              · cases q2
        · exact .inr (.inl ⟨hgf, by omega, hz.symm⟩)
      · rename_i q2
        have e : n2 = n1 := by
          by_cases e : n2 = n1
          · exact e
          · exact absurd (.inl e) q2
        cases z1
        · exact absurd (.inr (.inl rfl)) q2
        · cases z2
          · exact absurd (.inr (.inr rfl)) q2
          · cases z3
            · exact .inr (.inr (.inr (.inr (.inl ⟨hgf, by omega, rfl, rfl, rfl, hz.symm⟩))))
            · exact .inr (.inr (.inr (.inr (.inr ⟨hgf, by omega, rfl, rfl, rfl, hz.symm⟩))))
  have bz := BlkAt.new w 27 #[.slice a0 n0 c0, .slice a1 n1 c1, .slice a2 n2 c2, .slice a3 n3 c3, .slice a4 n4 c4]
  have BZ := Lib.hid bz
  clear h al l0 l1 l2 l3 l4 hz hg hz1 hz2 hz3 bz
  rcases hs with ⟨rfl, rfl⟩ | ⟨rfl, q0, rfl⟩ | ⟨rfl, q0, rfl, rfl⟩ | ⟨rfl, q0, rfl, rfl, rfl⟩ | ⟨rfl, q0, rfl, rfl, rfl, rfl⟩ | ⟨rfl, q0, rfl, rfl, rfl, rfl⟩
  all_goals
    try have d0 := decide_eq_true (show (n2 : Int) = n1 from q0)
    try have d0 := decide_eq_false (show ¬ ((n2 : Int) = n1) from q0)
    go_enter Tryz.func21, Tryz.ntmps21
    go_wp2_with (first
      | (go_at_call 50; (with_reducible refine (KL.out _).mono ?_); rintro e w1 ⟨rfl, hb⟩; have b2 := AL.out.trans (hb.mono AL.out.size); have B2 := Lib.hid b2; have bq := BZ.out.keep hb; have p1 := bq.cell 1; have p2 := bq.cell 2; have p3 := bq.cell 3; have p4 := bq.cell 4; clear hb b2 bq)
      | (go_at_call 51; (with_reducible refine (KI.out _ B2.out _ _).mono ?_); rintro e w2 ⟨rfl, rfl⟩)
      | (go_at_call 51; (with_reducible refine (KO.out _ B2.out _ _).mono ?_); rintro e w2 ⟨rfl, rfl⟩)
      | (go_at_call 52; (with_reducible refine (KT.out _ B2.out).mono ?_); rintro e w2 ⟨rfl, rfl⟩))
    go_ret
    exact ⟨rfl, B2.out⟩
end
end Go.Proofs.YtekhgidbnpfmnaaGreatDoor
