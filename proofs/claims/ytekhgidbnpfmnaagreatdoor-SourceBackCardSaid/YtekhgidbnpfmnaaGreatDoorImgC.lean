/- The document's own images (astrolaberef22): Few, addrs, Check. Conditions: as few of In as 255 where two are sought. -/
import Derived.Test.YtekhgidbnpfmnaaGreatDoorImgS
namespace Go.Proofs.YtekhgidbnpfmnaaGreatDoor
open Go.RowKit Go.IntWalk

/-- Is an image small enough to be worked on? -/
def fewB (n0 n1 n2 n3 n4 : Nat) : Bool := decide (n0 ≤ 200 ∧ n1 ≤ 2100 ∧ n2 ≤ 2100 ∧ n3 ≤ 300 ∧ n4 ≤ 300)
section
variable {w : World} {a0 a1 a2 a3 a4 : Option Addr} {n0 n1 n2 n3 n4 c0 c1 c2 c3 c4 : Nat} {m : Img}
set_option maxRecDepth 100000 in
set_option maxHeartbeats 2000000 in
theorem refFew_is : Calls Tryz.prog 6 #[.agg #[.slice a0 n0 c0, .slice a1 n1 c1, .slice a2 n2 c2, .slice a3 n3 c3, .slice a4 n4 c4]] w fun e w' => e = .returned (.bool (fewB n0 n1 n2 n3 n4)) ∧ Below w.heap.size w w' := by
  have al := (Below.refl w.heap.size w).alloc (Nat.le_refl _) (.cells #[.slice a0 n0 c0, .slice a1 n1 c1, .slice a2 n2 c2, .slice a3 n3 c3, .slice a4 n4 c4] 27)
  have AL := Lib.hid al
  obtain ⟨z, hz⟩ : ∃ z, fewB n0 n1 n2 n3 n4 = z := ⟨_, rfl⟩
  have HZ := Lib.hid hz
  have hs : ((200 : Int) < n0 ∧ z = false) ∨ ((n0 : Int) ≤ 200 ∧ (2100 : Int) < n1 ∧ z = false) ∨ ((n0 : Int) ≤ 200 ∧ (n1 : Int) ≤ 2100 ∧ (2100 : Int) < n2 ∧ z = false) ∨ ((n0 : Int) ≤ 200 ∧ (n1 : Int) ≤ 2100 ∧ (n2 : Int) ≤ 2100 ∧ (300 : Int) < n3 ∧ z = false) ∨
      ((n0 : Int) ≤ 200 ∧ (n1 : Int) ≤ 2100 ∧ (n2 : Int) ≤ 2100 ∧ (n3 : Int) ≤ 300 ∧ (300 : Int) < n4 ∧ z = false) ∨ ((n0 : Int) ≤ 200 ∧ (n1 : Int) ≤ 2100 ∧ (n2 : Int) ≤ 2100 ∧ (n3 : Int) ≤ 300 ∧ (n4 : Int) ≤ 300 ∧ z = true) := by
    unfold fewB at hz
    by_cases h : n0 ≤ 200 ∧ n1 ≤ 2100 ∧ n2 ≤ 2100 ∧ n3 ≤ 300 ∧ n4 ≤ 300
    · rw [decide_eq_true h] at hz
      subst hz
      exact .inr (.inr (.inr (.inr (.inr ⟨by omega, by omega, by omega, by omega, by omega, rfl⟩))))
    · rw [decide_eq_false h] at hz
      subst hz
      simp only [and_true]
      omega
  rw [hz]
  clear al hz
  rcases hs with ⟨q0, rfl⟩ | ⟨q0, q1, rfl⟩ | ⟨q0, q1, q2, rfl⟩ | ⟨q0, q1, q2, q3, rfl⟩ | ⟨q0, q1, q2, q3, q4, rfl⟩ | ⟨q0, q1, q2, q3, q4, rfl⟩
  all_goals
    try have d0 := decide_eq_true (show ((n0 : Int) ≤ 200) by omega)
    try have d0 := decide_eq_false (show ¬ ((n0 : Int) ≤ 200) by omega)
    try have d1 := decide_eq_true (show ((n1 : Int) ≤ 2100) by omega)
    try have d1 := decide_eq_false (show ¬ ((n1 : Int) ≤ 2100) by omega)
    try have d2 := decide_eq_true (show ((n2 : Int) ≤ 2100) by omega)
    try have d2 := decide_eq_false (show ¬ ((n2 : Int) ≤ 2100) by omega)
    try have d3 := decide_eq_true (show ((n3 : Int) ≤ 300) by omega)
    try have d3 := decide_eq_false (show ¬ ((n3 : Int) ≤ 300) by omega)
    try have d4 := decide_eq_true (show ((n4 : Int) ≤ 300) by omega)
    try have d4 := decide_eq_false (show ¬ ((n4 : Int) ≤ 300) by omega)
    go_enter Tryz.func6, Tryz.ntmps6
    go_wp2
    go_ret
    exact ⟨rfl, AL.out⟩
theorem addrs_no {l : List Int} {n k : Nat} (hk : k < l.length) (h : byAt l k < 0 ∨ (n : Int) ≤ byAt l k) : addrs l n = false := by
  cases e : addrs l n
  · rfl
  · have := addrs_iff.1 e (byAt l k) (by rw [← byAt_eq hk]; exact List.getElem_mem _)
    omega
theorem addrs_yes {l : List Int} {n : Nat} (h : ∀ k, k < l.length → 0 ≤ byAt l k ∧ byAt l k < n) : addrs l n = true := by
  rw [addrs_iff]
  intro x hx
  obtain ⟨i, hi, rfl⟩ := List.mem_iff_getElem.1 hx
  rw [byAt_eq hi]
  exact h i hi
set_option maxRecDepth 100000 in
set_option maxHeartbeats 2000000 in
theorem refAddrs_is {a : Option Addr} {n c k : Nat} {l : List Int} (h : Ws .i64 w a n c l) : Calls Tryz.prog 58 #[.slice a n c, .int .i64 k] w fun e w' => e = .returned (.bool (addrs l k)) ∧ w = w' := by
  have hcap := h.cap
  have hbig := h.big
  unfold maxLen at hbig
  have HB := Lib.hid h
  have HL := Lib.hid h.len
  clear h
  go_enter Tryz.func58, Tryz.ntmps58
  go_wp2
  go_loop [5] (fun i => ∃ j : Nat, j ≤ n ∧ i = .int .i64 j ∧ ∀ q, q < j → 0 ≤ byAt l q ∧ byAt l q < k) (fun i => n - (intOf i).toNat)
  case atStart => exact ⟨0, by omega, rfl, fun q hq => by omega⟩
  case round =>
    obtain ⟨j, hj, rfl, hq⟩ := hrel
    have HQ := Lib.hid hq
    clear hq
    by_cases hlt : j < n
    · obtain ⟨b, off, rfl, d⟩ := HB.out.lie (by omega)
      have d := d j hlt
      have hlt' : (j : Int) < n := by omega
      by_cases hr : 0 ≤ byAt l j ∧ byAt l j < k
      · obtain ⟨r1, r2⟩ := hr
        have R1 := Lib.hid r1
        have R2 := Lib.hid r2
        go_wp2
        go_round
        case rel => exact ⟨j + 1, by omega, by go_num, fun q hq => by
                      rcases (show q < j ∨ q = j by omega) with h | rfl
                      · exact HQ.out q h
                      · exact ⟨R1.out, R2.out⟩⟩
        case measure => simp [intOf]; omega
      · have HE := Lib.hid (addrs_no (l := l) (n := k) (k := j) (by have := HL.out; omega) (by omega))
        rcases (show byAt l j < 0 ∨ (0 ≤ byAt l j ∧ (k : Int) ≤ byAt l j) by omega) with r | ⟨r, r'⟩
        all_goals
          clear hr
          go_wp2
          go_ret
          exact ⟨by rw [HE.out]; rfl, rfl⟩
    · obtain rfl : j = n := by omega
      have HE := Lib.hid (addrs_yes (l := l) (n := k) fun q hq => HQ.out q (by have := HL.out; omega))
      go_wp2
      go_ret
      exact ⟨by rw [HE.out]; rfl, rfl⟩
theorem two_no {l : List Int} {i k : Nat} (hi : i < l.length) (hk : k < i) (e : byAt l i = byAt l k) : noTwo l = false := by
  unfold noTwo
  apply decide_eq_false
  intro hd
  rw [← byAt_eq hi, ← byAt_eq (show k < l.length by omega)] at e
  rw [List.nodup_iff_pairwise_ne, List.pairwise_iff_getElem] at hd
  exact hd k i (by omega) hi hk e.symm
theorem two_yes {l : List Int} (h : ∀ i k, i < l.length → k < i → byAt l i ≠ byAt l k) : noTwo l = true := by
  unfold noTwo
  apply decide_eq_true
  rw [List.nodup_iff_pairwise_ne, List.pairwise_iff_getElem]
  intro i j hi hj hij e
  refine h j i hj hij ?_
  rw [← byAt_eq hi, ← byAt_eq hj, e]
theorem chk_long (h : m.code.length > 16384 ∨ m.data.length > 2048 ∨ m.inn.length > 255 ∨ m.out.length > 255) : chkI m = 5 := by unfold chkI; rw [if_pos h]
theorem chk_arg (h : ¬ (m.code.length > 16384 ∨ m.data.length > 2048 ∨ m.inn.length > 255 ∨ m.out.length > 255)) (k : m.sec.length ≠ m.data.length ∨ addrs m.inn m.data.length = false ∨ addrs m.out m.data.length = false) : chkI m = 2 := by unfold chkI; rw [if_neg h, if_pos k]
theorem chk_two (h : ¬ (m.code.length > 16384 ∨ m.data.length > 2048 ∨ m.inn.length > 255 ∨ m.out.length > 255)) (k : ¬ (m.sec.length ≠ m.data.length ∨ addrs m.inn m.data.length = false ∨ addrs m.out m.data.length = false)) : chkI m = if noTwo m.inn = false then 9 else 0 := by unfold chkI; rw [if_neg h, if_neg k]
set_option maxRecDepth 100000 in
set_option maxHeartbeats 4000000 in
theorem refCheck22_is (h : ImgAt w a0 n0 c0 a1 n1 c1 a2 n2 c2 a3 n3 c3 a4 n4 c4 m) : Calls Tryz.prog 26 #[.agg #[.slice a0 n0 c0, .slice a1 n1 c1, .slice a2 n2 c2, .slice a3 n3 c3, .slice a4 n4 c4]] w fun e w' => e = .returned (.int .i64 (chkI m)) ∧ Below w.heap.size w w' := by
  have al := (Below.refl w.heap.size w).alloc (Nat.le_refl _) (.cells #[.slice a0 n0 c0, .slice a1 n1 c1, .slice a2 n2 c2, .slice a3 n3 c3, .slice a4 n4 c4] 27)
  have AL := Lib.hid al
  have l0 := h.code.len
  have l1 := h.data.len
  have l2 := h.sec.len
  have l3 := h.inn.len
  have l4 := h.out.len
  obtain ⟨z, hz⟩ : ∃ z, chkI m = z := ⟨_, rfl⟩
  rw [hz]
  by_cases hg : m.code.length > 16384 ∨ m.data.length > 2048 ∨ m.inn.length > 255 ∨ m.out.length > 255
  · have e := chk_long hg
    rw [hz] at e
    subst e
    have hs : (16384 : Int) < n0 ∨ ((n0 : Int) ≤ 16384 ∧ (2048 : Int) < n1) ∨ ((n0 : Int) ≤ 16384 ∧ (n1 : Int) ≤ 2048 ∧ (255 : Int) < n3) ∨ ((n0 : Int) ≤ 16384 ∧ (n1 : Int) ≤ 2048 ∧ (n3 : Int) ≤ 255 ∧ (255 : Int) < n4) := by omega
    clear h al l0 l1 l2 l3 l4 hz hg
    rcases hs with q0 | ⟨q0, q1⟩ | ⟨q0, q1, q2⟩ | ⟨q0, q1, q2, q3⟩
    all_goals
      try have d0 := decide_eq_true (show ((16384 : Int) < n0) by omega)
      try have d1 := decide_eq_true (show ((2048 : Int) < n1) by omega)
      try have d2 := decide_eq_true (show ((255 : Int) < n3) by omega)
      try have d3 := decide_eq_true (show ((255 : Int) < n4) by omega)
      go_enter Tryz.func26, Tryz.ntmps26
      go_wp2
      go_ret
      exact ⟨rfl, AL.out⟩
  · have g0 : (n0 : Int) ≤ 16384 := by omega
    have g1 : (n1 : Int) ≤ 2048 := by omega
    have g3 : (n3 : Int) ≤ 255 := by omega
    have g4 : (n4 : Int) ≤ 255 := by omega
    have dg4 := decide_eq_false (show ¬ ((255 : Int) < n4) by omega)
    have hg' := hg
    clear hg
    have HI := Lib.hid h.inn
    have bz := BlkAt.new w 27 #[.slice a0 n0 c0, .slice a1 n1 c1, .slice a2 n2 c2, .slice a3 n3 c3, .slice a4 n4 c4]
    obtain ⟨z1, hz1⟩ : ∃ z1, addrs m.inn n1 = z1 := ⟨_, rfl⟩
    obtain ⟨z2, hz2⟩ : ∃ z2, addrs m.out n1 = z2 := ⟨_, rfl⟩
    have KI := Lib.hid (fun W (k : Below w.heap.size w W) => refAddrs_is (k := n1) (h.inn.keep k))
    have KO := Lib.hid (fun W (k : Below w.heap.size w W) => refAddrs_is (k := n1) (h.out.keep k))
    rw [hz1] at KI
    rw [hz2] at KO
    have hcap3 := h.inn.cap
    clear h al
    by_cases hk : m.sec.length ≠ n1 ∨ z1 = false ∨ z2 = false
    · have e := chk_arg (m := m) hg' (by rw [l1, hz1, hz2]; exact hk)
      rw [hz] at e
      subst e
      clear hz hz1 hz2 bz
      have hs : (n2 : Int) ≠ n1 ∨ ((n2 : Int) = n1 ∧ z1 = false) ∨ ((n2 : Int) = n1 ∧ z1 = true ∧ z2 = false) := by
        rcases hk with q | q | q
        · exact .inl (by omega)
        · by_cases e : n2 = n1
          · exact .inr (.inl ⟨by omega, q⟩)
          · exact .inl (by omega)
        · by_cases e : n2 = n1
          · cases z1
            · exact .inr (.inl ⟨by omega, rfl⟩)
            · exact .inr (.inr ⟨by omega, rfl, q⟩)
          · exact .inl (by omega)
      clear hk
      rcases hs with q0 | ⟨q0, rfl⟩ | ⟨q0, rfl, rfl⟩
      all_goals
        try have d0 := decide_eq_true (show (n2 : Int) = n1 from q0)
        try have d0 := decide_eq_false (show ¬ ((n2 : Int) = n1) from q0)
        go_enter Tryz.func26, Tryz.ntmps26
        go_wp2_with (first
          | (go_at_call 58; (with_reducible refine (KI.out _ AL.out).mono ?_); rintro e w1 ⟨rfl, rfl⟩)
          | (go_at_call 58; (with_reducible refine (KO.out _ AL.out).mono ?_); rintro e w1 ⟨rfl, rfl⟩))
        go_ret
        exact ⟨rfl, AL.out⟩
    · obtain ⟨q0, rfl, rfl⟩ : m.sec.length = n1 ∧ z1 = true ∧ z2 = true := by
        refine ⟨?_, ?_, ?_⟩
        · by_cases e : m.sec.length = n1
          · exact e
          · exact absurd (.inl e) hk
        · cases z1
          · exact absurd (.inr (.inl rfl)) hk
          · rfl
        · cases z2
          · exact absurd (.inr (.inr rfl)) hk
          · rfl
      have e := chk_two (m := m) hg' (by rw [l1, hz1, hz2]; simpa using q0)
      rw [hz] at e
      subst e
      clear hz hz1 hz2 hk
      obtain ⟨z, hz⟩ : ∃ z, (if noTwo m.inn = false then (9 : Int) else 0) = z := ⟨_, rfl⟩
      have Z9 := Lib.hid (show noTwo m.inn = false → z = 9 from fun h => by rw [← hz, if_pos h])
      have Z0 := Lib.hid (show noTwo m.inn = true → z = 0 from fun h => by rw [← hz, h]; rfl)
      rw [hz]
      clear hz
      have d0 := decide_eq_true (show (n2 : Int) = n1 by omega)
      go_enter Tryz.func26, Tryz.ntmps26
      go_wp2_with (first
          | (go_at_call 58; (with_reducible refine (KI.out _ AL.out).mono ?_); rintro e w1 ⟨rfl, rfl⟩)
          | (go_at_call 58; (with_reducible refine (KO.out _ AL.out).mono ?_); rintro e w1 ⟨rfl, rfl⟩))
      obtain ⟨W0, hW0⟩ : ∃ V, w.alloc (.cells #[.slice a0 n0 c0, .slice a1 n1 c1, .slice a2 n2 c2, .slice a3 n3 c3, .slice a4 n4 c4] 27) = V := ⟨_, rfl⟩
      obtain ⟨q, hq⟩ : ∃ v, w.heap.size = v := ⟨_, rfl⟩
      have AL' := Lib.hid (show Below w.heap.size w W0 from hW0 ▸ AL.out)
      have HI' := Lib.hid (HI.out.keep AL'.out)
      have HL := Lib.hid l3
      rw [hq, hW0] at bz
      simp only [hW0, hq]
      have p3 := bz.cell 3
      clear bz KI KO HI AL hW0 hq l0 l2 l3 q0 d0
      have hb0 := Below.refl W0.heap.size W0
      have P3 := Lib.hid p3
      go_loopw [3] (fun i wr => ∃ j : Nat, j ≤ n3 ∧ i = .int .i64 j ∧ Below W0.heap.size W0 wr ∧ ∀ u v, u < j → v < u → byAt m.inn u ≠ byAt m.inn v) (fun i _ => n3 - (intOf i).toNat)
      case atStart => exact ⟨0, by omega, rfl, hb0, fun u v hu => by omega⟩
      case round =>
        clear hb0
        obtain ⟨j, hj, rfl, hb, hq⟩ := hrel
        have HQ := Lib.hid hq
        clear hq
        clear p3
        have p3 := (hb.cell (p := ⟨q, 3, none⟩) (cell_lt P3.out)).trans P3.out
        by_cases hlt : j < n3
        · obtain ⟨b, off, rfl, d⟩ := HI'.out.lie (by omega)
          have D := Lib.hid d
          clear d
          have hlt' : (j : Int) < n3 := by omega
          have HB := Lib.hid hb
          clear hb
          go_wp2
          clear p3
          have hb1 := HB.out
          go_loopw [4] (fun i wr => ∃ k : Nat, k ≤ j ∧ i = .int .i64 k ∧ Below W0.heap.size W0 wr ∧ ∀ v, v < k → byAt m.inn j ≠ byAt m.inn v) (fun i _ => j - (intOf i).toNat)
          case atStart => exact ⟨0, by omega, rfl, hb1, fun v hv => by omega⟩
          case round =>
            clear hb1
            obtain ⟨k, hk, rfl, hb, hr⟩ := hrel
            have HR := Lib.hid hr
            clear hr
            have q3 := (hb.cell (p := ⟨q, 3, none⟩) (cell_lt P3.out)).trans P3.out
            have Hb := Lib.hid hb
            by_cases hkt : k < j
            · have dj := (hb.cell (p := ⟨b, off + j, none⟩) (cell_lt (D.out j (by omega)))).trans (D.out j (by omega))
              have dk := (hb.cell (p := ⟨b, off + k, none⟩) (cell_lt (D.out k (by omega)))).trans (D.out k (by omega))
              have hkt' : (k : Int) < j := by omega
              clear hb
              by_cases he : byAt m.inn j = byAt m.inn k
              · obtain rfl := Z9.out (two_no (l := m.inn) (i := j) (k := k) (by have := HL.out; omega) hkt he)
                generalize byAt m.inn j = x at *
                generalize byAt m.inn k = y at *
                go_wp2
                go_quiet (fail)
                go_wp2
                go_ret
                have X := AL'.out.trans (Hb.out.mono AL'.out.size)
                exact ⟨rfl, ⟨X.os, X.tape, X.output, X.size, X.block⟩⟩
              · have HE := Lib.hid he
                generalize hx : byAt m.inn j = x at *
                generalize hy : byAt m.inn k = y at *
                go_wp2
                go_quiet (fail)
                go_wp2
                go_roundw
                case rel => exact ⟨k + 1, by omega, by go_num, ⟨Hb.out.os, Hb.out.tape, Hb.out.output, Hb.out.size, Hb.out.block⟩, fun v hv => by
                              rcases (show v < k ∨ v = k by omega) with h | rfl
                              · exact HR.out v h
                              · rw [hy]; exact HE.out⟩
                case measure => simp [intOf]; omega
            · obtain rfl : k = j := by omega
              clear hb
              go_wp2
              go_roundw
              case rel => exact ⟨k + 1, by omega, by go_num, Hb.out, fun u v hu hv => by
                            rcases (show u < k ∨ u = k by omega) with h | rfl
                            · exact HQ.out u v h hv
                            · exact HR.out v hv⟩
              case measure => simp [intOf]; omega
        · obtain rfl : j = n3 := by omega
          have HB := Lib.hid hb
          clear hb
          obtain rfl := Z0.out (two_yes (l := m.inn) fun u v hu hv => HQ.out u v (by have := HL.out; omega) hv)
          go_wp2
          go_ret
          exact ⟨rfl, AL'.out.trans (HB.out.mono AL'.out.size)⟩
end
end Go.Proofs.YtekhgidbnpfmnaaGreatDoor
