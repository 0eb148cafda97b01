/- The document's graph: lists, put, Next, from, Reached, Ahead, Cyclic, Backs. Conditions: words are words; no more than 60 of them. -/
import Derived.Test.YtggiaopdgijgnaaDoorGrbB
import Derived.Test.YtggiaopdgijgnaaDoorCodR
namespace Go.Proofs.YtggiaopdgijgnaaDoor
open Go.RowKit

open Go.RowKit Go.IntWalk

set_option maxHeartbeats 1000000 in
theorem refSameW_is {a a' : Option Addr} {n c c' : Nat} {l : List Int} {w : World} (hB : Ws .i64 w a n c l) (hB' : Ws .i64 w a' n c' l) :
    Calls Tryd.prog 21 #[.slice a n c, .slice a' n c'] w fun e w' => e = .returned (.bool true) ∧ Below w.heap.size w w' := by
  have hcap := hB.cap
  have hbig := hB.big
  have hcap' := hB'.cap
  have hbig' := hB'.big
  unfold maxLen at hbig hbig'
  have HB := Lib.hid hB
  have HB' := Lib.hid hB'
  clear hB hB'
  go_enter Tryd.func21, Tryd.ntmps21
  go_wp2
  go_loopw [5] (fun i wr => ∃ k : Nat, k ≤ n ∧ i = .int .i64 k ∧ Below w.heap.size w wr) (fun i _ => n - (intOf i).toNat)
  case atStart => exact ⟨0, by omega, rfl, Below.refl _ _⟩
  case round =>
    obtain ⟨k, hk, rfl, hb⟩ := hrel
    have Hb := Lib.hid hb
    by_cases hlt : k < n
    · obtain ⟨b, off, rfl, h1⟩ := (HB.out.keep hb).lie (by omega)
      obtain ⟨b', off', rfl, h2⟩ := (HB'.out.keep hb).lie (by omega)
      have h1 := h1 k hlt
      have h2 := h2 k hlt
      have hlt' : (k : Int) < n := by omega
      generalize byAt l k = y at *
      have hy : (y != y) = false := by simp
      clear hb
      go_wp2
      go_quiet (fail)
      go_wp2
      go_roundw
      case rel => exact ⟨k + 1, by omega, by go_num, below_drewN Hb.out _⟩
      case measure => simp [intOf]; omega
    · obtain rfl : k = n := by omega
      clear hb
      go_wp2
      go_ret
      exact ⟨rfl, Hb.out⟩
theorem refGSame_is {a a' : Option Addr} {n c c' : Nat} {l : List Int} {w : World} (hB : Ws .i64 w a n c l) (hB' : Ws .i64 w a' n c' l) :
    Calls Tryd.prog 6 #[.slice a n c, .slice a' n c'] w fun e w' => e = .returned (.bool true) ∧ Below w.heap.size w w' := by
  have HC := Lib.hid (refSameW_is hB hB')
  clear hB hB'
  go_enter Tryd.func6, Tryd.ntmps6
  go_wp2_with (go_at_call 21; ((with_reducible refine (HC.out).mono ?_); rintro e w1 ⟨rfl, hb⟩))
  go_ret
  exact ⟨rfl, hb⟩

theorem refInW_is {a : Option Addr} {n c : Nat} {l : List Int} {w : World} (x : Int) (h : Ws .i64 w a n c l) :
    Calls Tryd.prog 43 #[.int .i64 x, .slice a n c] w fun e w' => e = .returned (.bool (decide (x ∈ l))) ∧ w = w' := by
  have hl := h.len
  have hcap := h.cap
  have hbig := h.big
  unfold maxLen at hbig
  have HB := Lib.hid h
  have HL := Lib.hid hl
  clear h hl
  go_enter Tryd.func43, Tryd.ntmps43
  go_wp2
  go_loop [5] (fun i => ∃ k : Nat, k ≤ n ∧ i = .int .i64 k ∧ ∀ j, j < k → byAt l j ≠ x) (fun i => n - (intOf i).toNat)
  case atStart => exact ⟨0, by omega, rfl, fun j hj => by omega⟩
  case round =>
    obtain ⟨k, hk, rfl, hn⟩ := hrel
    have HN := Lib.hid hn
    clear hn
    by_cases hlt : k < n
    · obtain ⟨b, off, rfl, h1⟩ := HB.out.lie (by omega)
      have h1 := h1 k hlt
      have hlt' : (k : Int) < n := by omega
      by_cases e : byAt l k = x
      · have E := Lib.hid (show decide (x ∈ l) = true from decide_eq_true (by rw [← e]; have := HL.out; exact byAt_eq (l := l) (i := k) (by omega) ▸ List.getElem_mem _))
        have E1 : (byAt l k == x) = true := by simpa using e
        have H1 := Lib.hid e
        clear e
        go_wp2
        go_ret
        exact ⟨by rw [E.out]; rfl, rfl⟩
      · have E1 : (byAt l k == x) = false := by simpa using e
        have H1 := Lib.hid e
        clear e
        go_wp2
        go_round
        case rel => exact ⟨k + 1, by omega, by go_num, fun j hj => by
                      rcases (show j < k ∨ j = k by omega) with h | rfl
                      · exact HN.out j h
                      · exact H1.out⟩
        case measure => simp [intOf]; omega
    · obtain rfl : k = n := by omega
      go_wp2
      go_ret
      refine ⟨?_, rfl⟩
      have : decide (x ∈ l) = false := decide_eq_false fun hm => by
        obtain ⟨i, hi, e⟩ := List.mem_iff_getElem.1 hm
        exact HN.out i (by have := HL.out; omega) (by rw [← byAt_eq hi]; exact e)
      rw [this]; rfl

/-! ### put -/
def putL (l : List Int) (x : Int) (n : Nat) : List Int := if 0 ≤ x ∧ x < n ∧ x ∉ l then l.takeWhile (fun y => decide (y < x)) ++ x :: l.dropWhile (fun y => decide (y < x)) else l
theorem tw_at (p : Int → Bool) : ∀ (l : List Int) (j : Nat), j < (l.takeWhile p).length → p (byAt l j) = true
  | [], j, h => by simp at h
  | x :: l, j, h => by
    rw [List.takeWhile_cons] at h
    split at h
    · next hx =>
      rcases j with _ | j
      · exact hx
      · exact tw_at p l j (by simpa using h)
    · simp at h
theorem tw_end (p : Int → Bool) : ∀ (l : List Int), (l.takeWhile p).length < l.length → p (byAt l (l.takeWhile p).length) = false
  | [], h => by simp at h
  | x :: l, h => by
    rw [List.takeWhile_cons] at h ⊢
    split
    · next hx =>
      rw [if_pos hx] at h
      exact tw_end p l (by simpa using h)
    · next hx => simpa [byAt] using hx
theorem tw_take (p : Int → Bool) : ∀ (l : List Int), l.take (l.takeWhile p).length = l.takeWhile p ∧ l.drop (l.takeWhile p).length = l.dropWhile p
  | [] => by simp
  | x :: l => by
    have := tw_take p l
    rw [List.takeWhile_cons, List.dropWhile_cons]
    split
    · exact ⟨by simp [this.1], by simpa using this.2⟩
    · simp
theorem tw_len (p : Int → Bool) (l : List Int) : (l.takeWhile p).length ≤ l.length := (List.takeWhile_sublist p).length_le

set_option maxRecDepth 100000 in
set_option maxHeartbeats 1000000 in
theorem refPut_is {v : Value} {l : List Int} {base : Nat} {w : World} (x : Int) (n : Nat) (hv : OwnW .i64 w base 3 v l) (hl : l.length ≤ 100) (hn : n ≤ 60) (hbs : base ≤ w.heap.size) :
    Calls Tryd.prog 24 #[v, .int .i64 x, .int .i64 n] w fun e w' => ∃ v', e = .returned v' ∧ OwnW .i64 w' base 3 v' (putL l x n) ∧ Below w.heap.size w w' := by
  obtain ⟨i0, hi, hz0, hz1, hz2⟩ := info_parts infoI64
  obtain ⟨a, c, rfl, hW⟩ := hv.ws
  have hIn := refInW_is x hW
  obtain ⟨m, hm⟩ : ∃ m, l.length = m := ⟨_, rfl⟩
  rw [hm] at hIn hW hl hv ⊢
  have HV := Lib.hid hv
  have HIn := Lib.hid hIn
  have HW := Lib.hid hW
  have HM := Lib.hid hm
  have hn' : (n : Int) ≤ 60 := by omega
  have hm' : (m : Int) ≤ 100 := by omega
  clear hIn hW hm hv
  by_cases h0 : x < 0
  · have E : putL l x n = l := if_neg (by omega)
    rw [E]
    clear E
    go_enter Tryd.func24, Tryd.ntmps24
    go_wp2_with (go_at_call 43; ((with_reducible refine (HIn.out).mono ?_); rintro e w1 ⟨rfl, rfl⟩))
    go_ret
    exact ⟨_, rfl, HV.out, Below.refl _ _⟩
  by_cases h1 : (n : Int) ≤ x
  · have E : putL l x n = l := if_neg (by omega)
    rw [E]
    clear E
    go_enter Tryd.func24, Tryd.ntmps24
    go_wp2_with (go_at_call 43; ((with_reducible refine (HIn.out).mono ?_); rintro e w1 ⟨rfl, rfl⟩))
    go_ret
    exact ⟨_, rfl, HV.out, Below.refl _ _⟩
  by_cases h2 : x ∈ l
  · have E : putL l x n = l := if_neg (fun h => h.2.2 h2)
    have h2' : decide (x ∈ l) = true := decide_eq_true h2
    rw [E]
    rw [h2'] at HIn
    clear E h2 h2'
    go_enter Tryd.func24, Tryd.ntmps24
    go_wp2_with (go_at_call 43; ((with_reducible refine (HIn.out).mono ?_); rintro e w1 ⟨rfl, rfl⟩))
    go_ret
    exact ⟨_, rfl, HV.out, Below.refl _ _⟩
  have h2' : decide (x ∈ l) = false := decide_eq_false h2
  have E : putL l x n = l.takeWhile (fun y => decide (y < x)) ++ x :: l.dropWhile (fun y => decide (y < x)) := if_pos ⟨by omega, by omega, h2⟩
  rw [h2'] at HIn
  obtain ⟨K, hK⟩ : ∃ K, (l.takeWhile (fun y => decide (y < x))).length = K := ⟨_, rfl⟩
  have e1 := (tw_take (fun y => decide (y < x)) l).1
  have e2 := (tw_take (fun y => decide (y < x)) l).2
  have e3 := tw_at (fun y => decide (y < x)) l
  have e4 := tw_end (fun y => decide (y < x)) l
  have e5 := tw_len (fun y => decide (y < x)) l
  rw [E, ← e1, ← e2]
  rw [hK] at e3 e4 e5 ⊢
  have hKm : K ≤ m := HM.out ▸ e5
  have E3 := Lib.hid (show ∀ j, j < K → byAt l j < x from fun j hj => of_decide_eq_true (e3 j hj))
  have E4 := Lib.hid (show K < m → ¬ byAt l K < x from fun h => of_decide_eq_false (e4 (by have := HM.out; omega)))
  clear h2' h2 E hK e1 e2 e3 e4 e5
  go_enter Tryd.func24, Tryd.ntmps24
  go_wp2_with (go_at_call 43; ((with_reducible refine (HIn.out).mono ?_); rintro e w1 ⟨rfl, rfl⟩))
  go_loopw [7, 8] (fun u i wr => ∃ j : Nat, j ≤ K ∧ i = .int .i64 j ∧ OwnW .i64 wr w.heap.size 3 u (l.take j) ∧ Below w.heap.size w wr) (fun _ i _ => m - (intOf i).toNat)
  case atStart => exact ⟨0, by omega, rfl, by rw [List.take_zero]; exact OwnW.nil _ _ _, Below.refl _ _⟩
  case round =>
    obtain ⟨j, hj, rfl, ho, hk⟩ := hrel
    have HO := Lib.hid ho
    have HB := Lib.hid hk
    have hsz := hk.size
    by_cases hlt : j < K
    · have hlt' : (j : Int) < m := by omega
      obtain ⟨g, off, rfl, hc⟩ := (HW.out.keep hk).lie (by omega)
      have c0 := hc j (by omega)
      have hy := E3.out j hlt
      obtain ⟨y, hyy⟩ : ∃ y, byAt l j = y := ⟨_, rfl⟩
      rw [hyy] at c0 hy
      have HT := Lib.hid (show l.take (j + 1) = l.take j ++ [y] by
        rw [List.take_succ_eq_append_getElem (by rw [HM.out]; omega), byAt_eq, hyy])
      have hln : (l.take j).length ≤ 100 := by rw [List.length_take]; omega
      clear ho hk hyy hc
      go_wp2_with (at_builtin; refine wpList_append_1 rfl _ _ 25 rfl w.heap.size 3 i0 (.int .i64 0) Tryd.underlying25 hi hz0 hz1 (by omega) rfl rfl (HO.out.keep ((Below.refl _ _).alloc (Nat.le_refl _) _)) rfl ((BlkAt.new _ _ _).cell 0) (by omega) (by simp; omega) ?_; intro v' w' hown hgr hnx)
      have hob := HO.out.lt
      go_roundw
      case rel => exact ⟨j + 1, by omega, by go_num, by rw [HT.out]; exact hown, (HB.out.alloc hsz _).grown hgr (by simp; omega) fun q hq => (hob q hq).1⟩
      case measure => simp [intOf]; omega
    · obtain rfl : j = K := by omega
      have hln : (l.take j).length ≤ 100 := by rw [List.length_take]; omega
      have HLN := Lib.hid hln
      by_cases hlt2 : j < m
      · have hlt' : (j : Int) < m := by omega
        obtain ⟨g, off, rfl, hc⟩ := (HW.out.keep hk).lie (by omega)
        have c0 := hc j (by omega)
        have hy := E4.out hlt2
        generalize byAt l j = y at c0 hy
        clear ho hk hc
        go_wp2_with (at_builtin; refine wpList_append_1 rfl _ _ 25 rfl w.heap.size 3 i0 (.int .i64 0) Tryd.underlying25 hi hz0 hz1 (by omega) rfl rfl (HO.out.keep ((Below.refl _ _).alloc (Nat.le_refl _) _)) rfl ((BlkAt.new _ _ _).cell 0) (by omega) (by simp; omega) ?_; intro v' w' hown hgr hnx)
        have hob := HO.out.lt
        have HB3 := Lib.hid ((HB.out.alloc hsz _).grown hgr (by simp; omega) fun q hq => (hob q hq).1)
        have HO3 := Lib.hid hown
        clear hown hgr hnx hob
        go_loopw [9, 7] (fun i u wr => ∃ s : Nat, j ≤ s ∧ s ≤ m ∧ i = .int .i64 s ∧ OwnW .i64 wr w.heap.size 3 u (l.take j ++ [x] ++ (l.drop j).take (s - j)) ∧ Below w.heap.size w wr) (fun i _ _ => m - (intOf i).toNat)
        case atStart => exact ⟨j, Nat.le_refl _, by omega, rfl, by rw [Nat.sub_self, List.take_zero, List.append_nil]; exact HO3.out, HB3.out⟩
        case round =>
          obtain ⟨s, hs1, hs2, rfl, ho, hk⟩ := hrel
          have HO := Lib.hid ho
          have HB := Lib.hid hk
          have hsz := hk.size
          by_cases hlt : s < m
          · have hlt' : (s : Int) < m := by omega
            obtain ⟨g2, off2, ea, hc⟩ := (HW.out.keep hk).lie (by omega)
            obtain ⟨rfl, rfl⟩ : g = g2 ∧ off = off2 := by simpa using ea
            have c0 := hc s hlt
            obtain ⟨y, hyy⟩ : ∃ y, byAt l s = y := ⟨_, rfl⟩
            rw [hyy] at c0
            have HT := Lib.hid (show (l.drop j).take (s + 1 - j) = (l.drop j).take (s - j) ++ [y] by
              have hM := HM.out
              rw [show s + 1 - j = (s - j) + 1 by omega, List.take_succ_eq_append_getElem (by rw [List.length_drop]; omega), byAt_eq, byAt_drop, show j + (s - j) = s by omega, hyy])
            have HLL := Lib.hid (show (l.take j ++ [x] ++ (l.drop j).take (s - j)).length ≤ 300 by
              have hM := HM.out
              simp only [List.length_append, List.length_take, List.length_drop, List.length_cons, List.length_nil]; omega)
            clear ho hk hyy hc hlt
            go_wp2_with (at_builtin; refine wpList_append_1 rfl _ _ 25 rfl w.heap.size 3 i0 (.int .i64 0) Tryd.underlying25 hi hz0 hz1 (by omega) rfl rfl (HO.out.keep ((Below.refl _ _).alloc (Nat.le_refl _) _)) rfl ((BlkAt.new _ _ _).cell 0) (by have := HLL.out; omega) (by simp; omega) ?_; intro v' w' hown hgr hnx)
            have hob := HO.out.lt
            go_roundw
            case rel => exact ⟨s + 1, by omega, by omega, by go_num, by rw [HT.out, ← List.append_assoc]; exact hown, (HB.out.alloc hsz _).grown hgr (by simp; omega) fun q hq => (hob q hq).1⟩
            case measure => simp [intOf]; omega
          · obtain rfl : s = m := by omega
            clear ho hk
            go_wp2
            go_ret
            refine ⟨_, rfl, ?_, HB.out⟩
            have e := HO.out
            rw [show (l.drop j).take (s - j) = l.drop j from List.take_of_length_le (by have hM := HM.out; rw [List.length_drop]; omega), List.append_assoc] at e
            exact e.mono hbs
      · obtain rfl : j = m := by omega
        clear ho hk hlt hlt2
        go_wp2_with (at_builtin; refine wpList_append_1 rfl _ _ 25 rfl w.heap.size 3 i0 (.int .i64 0) Tryd.underlying25 hi hz0 hz1 (by omega) rfl rfl (HO.out.keep ((Below.refl _ _).alloc (Nat.le_refl _) _)) rfl ((BlkAt.new _ _ _).cell 0) (by omega) (by simp; omega) ?_; intro v' w' hown hgr hnx)
        have hob := HO.out.lt
        have HB3 := Lib.hid ((HB.out.alloc hsz _).grown hgr (by simp; omega) fun q hq => (hob q hq).1)
        have HO3 := Lib.hid hown
        clear hown hgr hnx hob
        go_loopw [9, 7] (fun i u wr => ∃ s : Nat, j ≤ s ∧ s ≤ j ∧ i = .int .i64 s ∧ OwnW .i64 wr w.heap.size 3 u (l.take j ++ [x] ++ (l.drop j).take (s - j)) ∧ Below w.heap.size w wr) (fun i _ _ => j - (intOf i).toNat)
        case atStart => exact ⟨j, Nat.le_refl _, by omega, rfl, by rw [Nat.sub_self, List.take_zero, List.append_nil]; exact HO3.out, HB3.out⟩
        case round =>
          obtain ⟨s, hs1, hs2, rfl, ho, hk⟩ := hrel
          have HO := Lib.hid ho
          have HB := Lib.hid hk
          have hsz := hk.size
          by_cases hlt : s < j
          · omega
          · obtain rfl : s = j := by omega
            clear ho hk
            go_wp2
            go_ret
            refine ⟨_, rfl, ?_, HB.out⟩
            have e := HO.out
            rw [show (l.drop s).take (s - s) = l.drop s from List.take_of_length_le (by have hM := HM.out; rw [List.length_drop]; omega), List.append_assoc] at e
            exact e.mono hbs

/-! ### Next -/
theorem putL_len (l : List Int) (x : Int) (n : Nat) : (putL l x n).length ≤ l.length + 1 := by
  unfold putL
  split
  · have := congrArg List.length (List.takeWhile_append_dropWhile (p := fun y => decide (y < x)) (l := l))
    simp only [List.length_append, List.length_cons] at this ⊢
    omega
  · omega
theorem putL_nil (x : Int) (n : Nat) : putL [] x n = [x].filter (gIn n) := by
  unfold putL gIn
  by_cases h : 0 ≤ x ∧ x < n <;> simp [h]
theorem putL_two {x y : Int} {n : Nat} : putL (putL [] x n) y n = (gTwo y x).filter (gIn n) := by
  rw [putL_nil]
  unfold putL gTwo gIn
  by_cases h : 0 ≤ x ∧ x < n
  · by_cases h2 : 0 ≤ y ∧ y < n
    · by_cases e : y = x
      · simp [h, e]
      · by_cases e2 : x < y
        · simp [h, h2, e, e2, show min y x = x by omega, show max y x = y by omega]
        · simp [h, h2, e, e2, show min y x = y by omega, show max y x = x by omega]
    · rw [if_neg (fun q => h2 ⟨q.1, q.2.1⟩)]
      by_cases e : y = x
      · exact absurd (e ▸ h) h2
      · rw [if_neg e]
        by_cases e2 : x < y
        · rw [show min y x = x by omega, show max y x = y by omega]
          simp [h, h2]
        · rw [show min y x = y by omega, show max y x = x by omega]
          simp [h, h2]
  · by_cases h2 : 0 ≤ y ∧ y < n
    · by_cases e : y = x
      · exact absurd (e ▸ h2) h
      · rw [if_neg e]
        by_cases e2 : x < y
        · rw [show min y x = x by omega, show max y x = y by omega]
          simp [h, h2]
        · rw [show min y x = y by omega, show max y x = x by omega]
          simp [h, h2]
    · by_cases e : y = x
      · simp [h, e]
      · by_cases e2 : x < y
        · simp [h, h2, e, show min y x = x by omega, show max y x = y by omega]
        · simp [h, h2, e, show min y x = y by omega, show max y x = x by omega]
theorem gTwo_no (x : Int) {n : Nat} : (gTwo (-1) x).filter (gIn n) = putL [] x n ∧ (gTwo x (-1)).filter (gIn n) = putL [] x n := by
  have h : putL [] (-1) n = [] := by rw [putL_nil]; simp [gIn]
  refine ⟨?_, ?_⟩
  · rw [← putL_two]
    unfold putL
    rw [if_neg (c := (0 : Int) ≤ -1 ∧ _) (by omega)]
  · rw [← putL_two, h]
theorem far_near {o : Int} (h : o = 41 ∨ o = 43 ∨ o = 0) (n : Nat) (N pc : Int) : gNxt n o N pc = [] := by
  unfold gNxt
  rw [show gNear o pc = -1 by unfold gNear; rw [if_pos (by omega)], show gFar o N = -1 by unfold gFar; rw [if_neg (by omega)]]
  simp [gTwo, gIn]
theorem dec_err {v : Int} (h : cErr v ≠ 0) : cO v = 0 := by
  unfold cO
  rw [if_neg h]
theorem dec_op {v : Int} (h : cErr v = 0) : isOp (cO v) := by
  unfold cO
  rw [if_pos h]
  unfold cErr at h
  by_cases ho : isOp (v / 67108864)
  · exact ho
  · rw [if_pos ho] at h; omega
set_option maxRecDepth 100000 in
set_option maxHeartbeats 1000000 in
theorem refGNext_is {l : List Int} {a : Option Addr} {n c : Nat} {w : World} (p : Int) (h : Ws .u32 w a n c l) (hn : n ≤ 60) (hb : ∀ i, i < l.length → 0 ≤ byAt l i ∧ byAt l i < 4294967296) :
    Calls Tryd.prog 8 #[.slice a n c, .int .i64 p] w fun e w' => ∃ v, e = .returned v ∧ OwnW .i64 w' w.heap.size 3 v (nextL l p) ∧ Below w.heap.size w w' := by
  have hl := h.len
  by_cases h0 : 0 ≤ p ∧ p < n
  case neg =>
    have e : nextL l p = [] := by unfold nextL; rw [if_neg (by rw [hl]; exact h0)]
    rw [e]
    clear e h hb hl
    by_cases h1 : 0 ≤ p
    · have h2 : (n : Int) ≤ p := by omega
      clear h0
      go_enter Tryd.func8, Tryd.ntmps8
      go_wp2
      go_ret
      exact ⟨_, rfl, OwnW.nil _ _ _, Below.refl _ _⟩
    · go_enter Tryd.func8, Tryd.ntmps8
      go_wp2
      go_ret
      exact ⟨_, rfl, OwnW.nil _ _ _, Below.refl _ _⟩
  obtain ⟨h1, h2⟩ := h0
  obtain ⟨k, rfl⟩ : ∃ k : Nat, p = k := ⟨p.toNat, by omega⟩
  rw [nextL_nat (by omega)]
  obtain ⟨g, off, rfl, hc⟩ := h.lie (by omega)
  have c0 := hc k (by omega)
  obtain ⟨v0, v1⟩ := hb k (by omega)
  obtain ⟨x, hx⟩ : ∃ x, byAt l k = x := ⟨_, rfl⟩
  rw [hx] at c0 v0 v1
  have hE : nxl l k = gNxt n (cO x) (cG x 3) k := by unfold nxl; rw [hx, hl]
  have hop := dec_op (v := x)
  have her := dec_err (v := x)
  have HD := Lib.hid (fun w2 => refDecode_is x w2 v0 v1)
  unfold decV at HD
  rw [hE]
  obtain ⟨o, ho⟩ : ∃ o, cO x = o := ⟨_, rfl⟩
  obtain ⟨N, hN⟩ : ∃ N, cG x 3 = N := ⟨_, rfl⟩
  obtain ⟨er, hr⟩ : ∃ er, cErr x = er := ⟨_, rfl⟩
  rw [ho, hN, hr] at HD
  rw [ho, hr] at hop her
  rw [ho, hN]
  have HOP := Lib.hid hop
  have HER := Lib.hid her
  have hlt' : (k : Int) < n := by omega
  have hn' : (n : Int) ≤ 60 := by omega
  clear hc hb hx ho hN hr hl h v0 v1 hop her hE
  go_enter Tryd.func8, Tryd.ntmps8
  go_upto_region 5 with (go_at_call 23; ((with_reducible refine (HD.out _).mono ?_); rintro e w2 ⟨rfl, hq⟩); have HQ := Lib.hid hq; clear hq)
  obtain ⟨W1, hW1⟩ : ∃ W1, w2.alloc (.cells #[.int .i64 o, .int .i64 (cG x 0), .int .i64 (cG x 1), .int .i64 (cG x 2), .int .i64 N] 41) = W1 := ⟨_, rfl⟩
  have HB1 := Lib.hid (show Below w.heap.size w W1 from hW1 ▸ HQ.out.alloc HQ.out.size _)
  have hc0 : W1.cell? ⟨w2.heap.size, 0, none⟩ = some (.int .i64 o) := by
    rw [← hW1, (BlkAt.new w2 _ _).cell]; rfl
  have hc4 : W1.cell? ⟨w2.heap.size, 4, none⟩ = some (.int .i64 N) := by
    rw [← hW1, (BlkAt.new w2 _ _).cell]; rfl
  have hBlk : BlkAt w2.heap.size 41 #[.int .i64 o, .int .i64 (cG x 0), .int .i64 (cG x 1), .int .i64 (cG x 2), .int .i64 N] W1 := hW1 ▸ BlkAt.new w2 _ _
  have HBL := Lib.hid hBlk
  have HSZ := Lib.hid HB1.out.size
  have HNN := Lib.hid hn
  have HLB := Lib.hid (hBlk.lt)
  rw [hW1]
  clear hW1 hBlk HD
  generalize w2.heap.size = B1 at *
  by_cases e0 : er = 0
  case neg =>
    have E := Lib.hid (far_near (Or.inr (Or.inr (HER.out e0))) n N k)
    have e1 : (er != 0) = true := by simpa using e0
    clear e0 HER HOP
    go_wp2
    go_ret
    exact ⟨_, rfl, by rw [E.out]; exact OwnW.nil _ _ _, HB1.out⟩
  have hop := HOP.out e0
  unfold isOp at hop
  clear HOP HER
  subst e0
  by_cases e : o = 41
  · have E := Lib.hid (far_near (Or.inl e) n N k)
    subst e
    go_wp2
    go_ret
    exact ⟨_, rfl, by rw [E.out]; exact OwnW.nil _ _ _, HB1.out⟩
  have f41 : (o == 41) = false := by simpa using e
  have g41 := e
  clear e
  by_cases e : o = 43
  · have E := Lib.hid (far_near (Or.inr (Or.inl e)) n N k)
    subst e
    go_wp2
    go_ret
    exact ⟨_, rfl, by rw [E.out]; exact OwnW.nil _ _ _, HB1.out⟩
  have f43 : (o == 43) = false := by simpa using e
  have g43 := e
  clear e
  have G4 := Lib.hid (And.intro g41 g43)
  clear g41 g43
  by_cases e : o = 36
  · have E := Lib.hid (show gNxt n o N k = putL (putL [] N n) (k + 1) n by unfold gNxt; rw [show gNear o k = k + 1 by unfold gNear; rw [if_neg (by omega)], show gFar o N = N by unfold gFar; rw [if_pos (by omega)], putL_two])
    subst e
    go_wp2_with (first
      | (go_at_call 24; ((with_reducible refine (refPut_is (base := w.heap.size) (N) n (OwnW.nil _ _ _) (Nat.zero_le _) HNN.out HSZ.out).mono ?_); rintro e w3 ⟨v3, rfl, ho3, hb3⟩); have HO3 := Lib.hid ho3; have HB3 := Lib.hid hb3; have hx0 := (HBL.out.keep hb3).cell 0; clear ho3 hb3)
      | (go_at_call 24; ((with_reducible refine (refPut_is ((k : Int) + 1) n HO3.out (Nat.le_trans (putL_len _ _ _) (by decide)) HNN.out (Nat.le_trans HSZ.out HB3.out.size)).mono ?_); rintro e w4 ⟨v4, rfl, ho4, hb4⟩); have HO4 := Lib.hid ho4; have HB4 := Lib.hid hb4; clear ho4 hb4))
    go_ret
    exact ⟨_, rfl, by rw [E.out]; exact HO4.out, (HB1.out.trans (HB3.out.mono HSZ.out)).trans (HB4.out.mono (Nat.le_trans HSZ.out HB3.out.size))⟩
  have f36 : (o == 36) = false := by simpa using e
  have g36 := Lib.hid e
  clear e
  by_cases e : o = 37
  · have E := Lib.hid (show gNxt n o N k = putL (putL [] N n) (k + 1) n by unfold gNxt; rw [show gNear o k = k + 1 by unfold gNear; rw [if_neg (by omega)], show gFar o N = N by unfold gFar; rw [if_pos (by omega)], putL_two])
    subst e
    go_wp2_with (first
      | (go_at_call 24; ((with_reducible refine (refPut_is (base := w.heap.size) (N) n (OwnW.nil _ _ _) (Nat.zero_le _) HNN.out HSZ.out).mono ?_); rintro e w3 ⟨v3, rfl, ho3, hb3⟩); have HO3 := Lib.hid ho3; have HB3 := Lib.hid hb3; have hx0 := (HBL.out.keep hb3).cell 0; clear ho3 hb3)
      | (go_at_call 24; ((with_reducible refine (refPut_is ((k : Int) + 1) n HO3.out (Nat.le_trans (putL_len _ _ _) (by decide)) HNN.out (Nat.le_trans HSZ.out HB3.out.size)).mono ?_); rintro e w4 ⟨v4, rfl, ho4, hb4⟩); have HO4 := Lib.hid ho4; have HB4 := Lib.hid hb4; clear ho4 hb4))
    go_ret
    exact ⟨_, rfl, by rw [E.out]; exact HO4.out, (HB1.out.trans (HB3.out.mono HSZ.out)).trans (HB4.out.mono (Nat.le_trans HSZ.out HB3.out.size))⟩
  have f37 : (o == 37) = false := by simpa using e
  have g37 := Lib.hid e
  clear e
  by_cases e : o = 38
  · have E := Lib.hid (show gNxt n o N k = putL (putL [] N n) (k + 1) n by unfold gNxt; rw [show gNear o k = k + 1 by unfold gNear; rw [if_neg (by omega)], show gFar o N = N by unfold gFar; rw [if_pos (by omega)], putL_two])
    subst e
    go_wp2_with (first
      | (go_at_call 24; ((with_reducible refine (refPut_is (base := w.heap.size) (N) n (OwnW.nil _ _ _) (Nat.zero_le _) HNN.out HSZ.out).mono ?_); rintro e w3 ⟨v3, rfl, ho3, hb3⟩); have HO3 := Lib.hid ho3; have HB3 := Lib.hid hb3; have hx0 := (HBL.out.keep hb3).cell 0; clear ho3 hb3)
      | (go_at_call 24; ((with_reducible refine (refPut_is ((k : Int) + 1) n HO3.out (Nat.le_trans (putL_len _ _ _) (by decide)) HNN.out (Nat.le_trans HSZ.out HB3.out.size)).mono ?_); rintro e w4 ⟨v4, rfl, ho4, hb4⟩); have HO4 := Lib.hid ho4; have HB4 := Lib.hid hb4; clear ho4 hb4))
    go_ret
    exact ⟨_, rfl, by rw [E.out]; exact HO4.out, (HB1.out.trans (HB3.out.mono HSZ.out)).trans (HB4.out.mono (Nat.le_trans HSZ.out HB3.out.size))⟩
  have f38 : (o == 38) = false := by simpa using e
  have g38 := Lib.hid e
  clear e
  by_cases e : o = 39
  · have E := Lib.hid (show gNxt n o N k = putL [] N n by unfold gNxt; rw [show gNear o k = -1 by unfold gNear; rw [if_pos (by omega)], show gFar o N = N by unfold gFar; rw [if_pos (by omega)], (gTwo_no _).1])
    subst e
    go_wp2_with ((go_at_call 24; ((with_reducible refine (refPut_is (base := w.heap.size) (N) n (OwnW.nil _ _ _) (Nat.zero_le _) HNN.out HSZ.out).mono ?_); rintro e w3 ⟨v3, rfl, ho3, hb3⟩); have HO3 := Lib.hid ho3; have HB3 := Lib.hid hb3; have hx0 := (HBL.out.keep hb3).cell 0; clear ho3 hb3))
    go_ret
    exact ⟨_, rfl, by rw [E.out]; exact HO3.out, HB1.out.trans (HB3.out.mono HSZ.out)⟩
  have f39 : (o == 39) = false := by simpa using e
  have k39 : (o != 39) = true := by simpa using e
  have g39 := Lib.hid e
  clear e
  by_cases e : o = 40
  · have E := Lib.hid (show gNxt n o N k = putL [] N n by unfold gNxt; rw [show gNear o k = -1 by unfold gNear; rw [if_pos (by omega)], show gFar o N = N by unfold gFar; rw [if_pos (by omega)], (gTwo_no _).1])
    subst e
    go_wp2_with ((go_at_call 24; ((with_reducible refine (refPut_is (base := w.heap.size) (N) n (OwnW.nil _ _ _) (Nat.zero_le _) HNN.out HSZ.out).mono ?_); rintro e w3 ⟨v3, rfl, ho3, hb3⟩); have HO3 := Lib.hid ho3; have HB3 := Lib.hid hb3; have hx0 := (HBL.out.keep hb3).cell 0; clear ho3 hb3))
    go_ret
    exact ⟨_, rfl, by rw [E.out]; exact HO3.out, HB1.out.trans (HB3.out.mono HSZ.out)⟩
  have f40 : (o == 40) = false := by simpa using e
  have k40 : (o != 40) = true := by simpa using e
  have g40 := Lib.hid e
  clear e
  have E := Lib.hid (show gNxt n o N k = putL [] (k + 1) n by
    have h1 := G4.out.1
    have h2 := G4.out.2
    have h3 := g36.out
    have h4 := g37.out
    have h5 := g38.out
    have h6 := g39.out
    have h7 := g40.out
    unfold gNxt; rw [show gNear o k = k + 1 by unfold gNear; rw [if_neg (by omega)], show gFar o N = -1 by unfold gFar; rw [if_neg (by omega)], (gTwo_no _).2])
  go_wp2_with ((go_at_call 24; ((with_reducible refine (refPut_is (base := w.heap.size) ((k : Int) + 1) n (OwnW.nil _ _ _) (Nat.zero_le _) HNN.out HSZ.out).mono ?_); rintro e w3 ⟨v3, rfl, ho3, hb3⟩); have HO3 := Lib.hid ho3; have HB3 := Lib.hid hb3; have hx0 := (HBL.out.keep hb3).cell 0; clear ho3 hb3))
  go_ret
  exact ⟨_, rfl, by rw [E.out]; exact HO3.out, HB1.out.trans (HB3.out.mono HSZ.out)⟩

open Go.RowKit Go.IntWalk

/-! ### How many are true -/
def cntB (f : Nat → Bool) : Nat → Nat
  | 0 => 0
  | n + 1 => cntB f n + if f n = true then 1 else 0
theorem cntB_le_n (f : Nat → Bool) : ∀ n, cntB f n ≤ n
  | 0 => Nat.le_refl _
  | n + 1 => by
    have := cntB_le_n f n
    unfold cntB
    split <;> omega
theorem cntB_le {f g : Nat → Bool} (h : ∀ i, f i = true → g i = true) : ∀ n, cntB f n ≤ cntB g n
  | 0 => Nat.le_refl _
  | n + 1 => by
    have := cntB_le h n
    unfold cntB
    by_cases e : f n = true
    · rw [if_pos e, if_pos (h n e)]; omega
    · rw [if_neg e]; split <;> omega
theorem cntB_lt {f g : Nat → Bool} (h : ∀ i, f i = true → g i = true) {q : Nat} (h0 : f q = false) (h1 : g q = true) : ∀ n, q < n → cntB f n < cntB g n
  | 0, hq => by omega
  | n + 1, hq => by
    unfold cntB
    by_cases e : q = n
    · subst e
      have := cntB_le h q
      rw [h0, if_neg (by simp), if_pos h1]; omega
    · have := cntB_lt h h0 h1 n (by omega)
      by_cases e2 : f n = true
      · rw [if_pos e2, if_pos (h n e2)]; omega
      · rw [if_neg e2]; split <;> omega
theorem cntB_ext {f g : Nat → Bool} : ∀ n, (∀ i, i < n → f i = g i) → cntB f n = cntB g n
  | 0, _ => rfl
  | n + 1, h => by
    unfold cntB
    rw [cntB_ext n fun i hi => h i (by omega), h n (by omega)]
/-- How many truths of a block are true, in a world. -/
noncomputable def cntW (b n : Nat) (w : World) : Nat := cntB (fun i => @decide (w.cell? ⟨b, i, none⟩ = some (.bool true)) (Classical.propDecidable _)) n
theorem cntW_is {T : TypeId} {b n : Nat} {f : Nat → Bool} {w : World} (h : Brs T b n f w) : cntW b n w = cntB f n := by
  refine cntB_ext n fun i hi => ?_
  have hc := BlkAt.cell h i
  rw [fnArr_get _ hi] at hc
  rw [hc]
  cases f i <;> simp

/-! ### What a place comes to -/
def startN (n : Nat) (p : Int) : List Nat := if 0 ≤ p ∧ p < n then [p.toNat] else []
def mvW (z : Int) : Nat → Bool := fun p => decide ((p : Int) ≠ z)
theorem came_none {N : Nat → List Nat} {mv : Nat → Bool} {l0 : List Nat} (h : ∀ x, x ∈ l0 → mv x = false) {x : Nat} : ¬ Gra.Came N mv l0 x := fun hc => by
  induction hc with
  | start h1 h2 => rw [h _ h1] at h2; exact absurd h2 (by simp)
  | next _ _ _ ih => exact ih
theorem came_closed {N : Nat → List Nat} {mv : Nat → Bool} {k : Nat} {f : Nat → Bool} (h0 : f k = true) (h : ∀ p, f p = true → ∀ q, q ∈ N p → mv q = true → f q = true) {x : Nat} (hc : Gra.Came N mv [k] x) : f x = true := by
  induction hc with
  | start h1 _ => rw [List.mem_singleton.1 h1]; exact h0
  | next _ h1 h2 ih => exact h _ ih _ h1 h2
/-- What has been found so far from k on: k, and nothing that can't be come to. -/
structure FoundI (N : Nat → List Nat) (mv : Nat → Bool) (k : Nat) (f : Nat → Bool) : Prop where
  first : f k = true
  sound : ∀ i, f i = true → Gra.Came N mv [k] i
theorem FoundI.up {N : Nat → List Nat} {mv : Nat → Bool} {k : Nat} {f : Nat → Bool} (h : FoundI N mv k f) {p q : Nat} (hp : f p = true) (hq : q ∈ N p) (hm : mv q = true) : FoundI N mv k (Gra.upB f q) where
  first := Gra.upB_true h.first
  sound i hi := by
    rcases Gra.upB_or hi with rfl | e
    · exact .next (h.sound p hp) hq hm
    · exact h.sound i e
theorem FoundI.fin {N : Nat → List Nat} {mv : Nat → Bool} {k : Nat} {f : Nat → Bool} (h : FoundI N mv k f) (hc : ∀ p, f p = true → ∀ q, q ∈ N p → mv q = true → f q = true) : f = cameB N mv [k] := by
  funext x
  rw [Bool.eq_iff_iff, cameB_iff]
  exact ⟨h.sound x, came_closed h.first hc⟩
theorem brs_set {T : TypeId} {b n : Nat} {f : Nat → Bool} {w : World} (h : Brs T b n f w) (q : Nat) : Brs T b n (Gra.upB f q) (w.setCell ⟨b, q, none⟩ (.bool true)) := by
  refine (BlkAt.set h q _).eq ?_
  rw [fnArr_set]
  refine fnArr_ext fun i _ => ?_
  show (if i = q then Value.bool true else .bool (f i)) = .bool (if i = q then true else f i)
  split <;> rfl

def bOf : Value → Nat
  | .bool true => 1
  | _ => 0
/-- A turn of the search: what stood at its start, what stands now, whether there is more, which ways have been looked at. -/
structure RoundI (N : Nat → List Nat) (mv : Nat → Bool) (k n : Nat) (f0 f : Nat → Bool) (ch : Bool) (D : Nat → Nat → Prop) : Prop where
  found : FoundI N mv k f
  up : ∀ i, f0 i = true → f i = true
  yes : ch = true → ∃ q, q < n ∧ f0 q = false ∧ f q = true
  no : ch = false → f = f0 ∧ ∀ p q, D p q → f0 p = true → mv q = true → f0 q = true
theorem RoundI.start {N : Nat → List Nat} {mv : Nat → Bool} {k n : Nat} {f0 : Nat → Bool} {D : Nat → Nat → Prop} (h : FoundI N mv k f0) (hD : ∀ p q, ¬ D p q) : RoundI N mv k n f0 f0 false D where
  found := h
  up _ e := e
  yes e := absurd e (by simp)
  no _ := ⟨rfl, fun p q d => absurd d (hD p q)⟩
theorem RoundI.mono {N : Nat → List Nat} {mv : Nat → Bool} {k n : Nat} {f0 f : Nat → Bool} {ch : Bool} {D D' : Nat → Nat → Prop} (h : RoundI N mv k n f0 f ch D) (hD : ∀ p q, D' p q → D p q ∨ f p = false ∨ mv q = false ∨ f q = true) : RoundI N mv k n f0 f ch D' where
  found := h.found
  up := h.up
  yes := h.yes
  no e := by
    obtain ⟨e1, e2⟩ := h.no e
    refine ⟨e1, fun p q d hp hm => ?_⟩
    subst e1
    rcases hD p q d with d | d | d | d
    · exact e2 p q d hp hm
    · rw [d] at hp; exact absurd hp (by simp)
    · rw [d] at hm; exact absurd hm (by simp)
    · exact d
theorem RoundI.add {N : Nat → List Nat} {mv : Nat → Bool} {k n : Nat} {f0 f : Nat → Bool} {ch : Bool} {D D' : Nat → Nat → Prop} (h : RoundI N mv k n f0 f ch D) {p q : Nat} (hp : f p = true) (hq : q ∈ N p) (hm : mv q = true) (h0 : f q = false) (hn : q < n) :
    RoundI N mv k n f0 (Gra.upB f q) true D' where
  found := h.found.up hp hq hm
  up i e := Gra.upB_true (h.up i e)
  yes _ := ⟨q, hn, by
    cases e : f0 q
    · rfl
    · rw [h.up q e] at h0; exact absurd h0 (by simp), Gra.upB_same _ _⟩
  no e := absurd e (by simp)

set_option maxRecDepth 100000 in
set_option maxHeartbeats 1000000 in
theorem refFrom_is {l : List Int} {a : Option Addr} {n c : Nat} {w : World} (pc z : Int) (h : Ws .u32 w a n c l) (hn : n ≤ 60) (hb : ∀ i, i < l.length → 0 ≤ byAt l i ∧ byAt l i < 4294967296) :
    Calls Tryd.prog 28 #[.slice a n c, .int .i64 pc, .int .i64 z] w fun e w' => ∃ b, e = .returned (.slice (some ⟨b, 0, none⟩) n n) ∧ Brs 4 b n (cameB (nxN l) (mvW z) (startN n pc)) w' ∧ w.heap.size ≤ b ∧ Below w.heap.size w w' := by
  obtain ⟨i0, hi, hz0, hz1, hz2⟩ := info_parts infoBool
  have hmk := run_falses (P := Tryd.prog) 28 4 i0 Tryd.underlying28 hi hz0 hz1 n (by rw [hz2]; omega) (by unfold maxLen; omega)
  have hl := h.len
  have hcap := h.cap
  have hn' : (n : Int) ≤ 60 := by omega
  have hnone : ∀ F : Nat → Bool, (∀ i, i < n → F i = false) → ∃ b, Brs 4 b n F (w.alloc (.cells (fnArr n fun _ => .bool false) 4)) ∧ w.heap.size ≤ b ∧ b = w.heap.size ∧ Below w.heap.size w (w.alloc (.cells (fnArr n fun _ => .bool false) 4)) := fun F hF =>
    ⟨_, (BlkAt.new w _ _).eq (fnArr_ext fun i hi => by rw [hF i hi]), Nat.le_refl _, rfl, (Below.refl _ _).alloc (Nat.le_refl _) _⟩
  have HNone := Lib.hid hnone
  clear hnone
  by_cases h0 : 0 ≤ pc ∧ pc < n ∧ pc ≠ z
  case neg =>
    have hF : ∀ i, cameB (nxN l) (mvW z) (startN n pc) i = false := fun i => by
      rw [Bool.eq_false_iff]
      intro hc
      refine came_none (fun x hx => ?_) (cameB_iff.1 hc)
      unfold startN at hx
      split at hx
      · have := List.mem_singleton.1 hx
        unfold mvW
        rw [decide_eq_false_iff_not]
        omega
      · simp at hx
    obtain ⟨b, q1, q2, rfl, q3⟩ := HNone.out _ fun i _ => hF i
    have HQ := Lib.hid (And.intro q1 (And.intro q2 q3))
    clear hF h hb q1 q2 q3 hl
    by_cases h1 : pc < 0
    · clear h0
      go_enter Tryd.func28, Tryd.ntmps28
      go_wp2
      go_ret
      exact ⟨_, rfl, HQ.out⟩
    by_cases h2 : (n : Int) ≤ pc
    · clear h0
      go_enter Tryd.func28, Tryd.ntmps28
      go_wp2
      go_ret
      exact ⟨_, rfl, HQ.out⟩
    have h3 : (pc == z) = true := by simp; omega
    clear h0
    go_enter Tryd.func28, Tryd.ntmps28
    go_wp2
    go_ret
    exact ⟨_, rfl, HQ.out⟩
  obtain ⟨h1, h2, h3⟩ := h0
  obtain ⟨k, rfl⟩ : ∃ k : Nat, pc = k := ⟨pc.toNat, by omega⟩
  have e3 : ((k : Int) == z) = false := by simpa using h3
  have es : startN n k = [k] := by unfold startN; rw [if_pos ⟨h1, h2⟩, Int.toNat_natCast]
  rw [es]
  have d1 : decide ((n : Int) ≤ (k : Int)) = false := by simp; omega
  have d2 : decide (n ≤ k) = false := by simp; omega
  have d3 : decide ((k : Int) < 0) = false := by simp
  have H3 := Lib.hid (show mvW z k = true from decide_eq_true h3)
  have HW := Lib.hid h
  have HB := Lib.hid hb
  have HL := Lib.hid hl
  clear h hb hl es h3
  go_enter Tryd.func28, Tryd.ntmps28
  go_upto_region 4 with (fail)
  obtain ⟨W0, hW0⟩ : ∃ W0, w.alloc (.cells (fnArr n fun _ => .bool false) 4) = W0 := ⟨_, rfl⟩
  have hA0 : Brs 4 w.heap.size n (fun _ => false) W0 := hW0 ▸ BlkAt.new w _ _
  have HB0 := Lib.hid (show Below w.heap.size w W0 from hW0 ▸ (Below.refl _ _).alloc (Nat.le_refl _) _)
  have HA0 := Lib.hid hA0
  have fr := hA0.free k
  have ck := hA0.cell k
  rw [fnArr_get _ (by omega)] at ck
  have HZ := Lib.hid (show w.heap.size < W0.heap.size by rw [← hW0]; simp)
  rw [hW0]
  clear hW0 hmk HNone hA0
  obtain ⟨B, hB⟩ : ∃ B, w.heap.size = B := ⟨_, rfl⟩
  rw [hB] at HA0 HB0 fr ck HZ ⊢
  have HBB := Lib.hid hB
  clear hB
  go_upto_region 5 with (fail)
  have hA1 := brs_set HA0.out k
  have HA1 := Lib.hid hA1
  have HK1 := Lib.hid (Keeps.set1 W0 B k (.bool true))
  have HI1 := Lib.hid (show FoundI (nxN l) (mvW z) k (Gra.upB (fun _ => false) k) from ⟨Gra.upB_same _ _, fun i hi => by
    rcases Gra.upB_or hi with rfl | e
    · exact .start (List.mem_singleton.2 rfl) H3.out
    · exact absurd e (by simp)⟩)
  clear fr ck hA1
  have HWr := Lib.hid (show ∀ wr, Below B w wr → Ws .u32 wr a n c l from fun wr k => HW.out.keep (HBB.out ▸ k))
  have HBW := Lib.hid (show Below B w (W0.setCell ⟨B, k, none⟩ (.bool true)) from HK1.out.below HB0.out (Nat.le_of_lt HZ.out) fun j e => by omega)
  have HZ1 := Lib.hid (show B < (W0.setCell ⟨B, k, none⟩ (.bool true)).heap.size from Nat.lt_of_lt_of_le HZ.out HK1.out.size)
  go_wp2
  go_loopw [8] (fun s8 wr => ∃ f ch, s8 = .bool ch ∧ Brs 4 B n f wr ∧ FoundI (nxN l) (mvW z) k f ∧ (ch = false → ∀ p, f p = true → ∀ q, q ∈ nxN l p → mvW z q = true → f q = true) ∧ Below B w wr ∧ B < wr.heap.size) (fun s8 wr => bOf s8 * (n - cntW B n wr + 1))
  case atStart => exact ⟨_, true, rfl, HA1.out, HI1.out, fun e => absurd e (by simp), HBW.out, HZ1.out⟩
  case round =>
    obtain ⟨f0, ch, rfl, hA, hI, hcl, hbw, hz⟩ := hrel
    have HA := Lib.hid hA
    have HI := Lib.hid hI
    have HBWr := Lib.hid hbw
    have HZr := Lib.hid hz
    have HCL := Lib.hid hcl
    clear hA hI hcl hbw hz HA1 HI1 HK1 HA0
    cases ch
    case false =>
      go_wp2
      go_ret
      refine ⟨B, rfl, ?_, by rw [HBB.out]; exact Nat.le_refl _, HBB.out ▸ HBWr.out⟩
      rw [← HI.out.fin (HCL.out trivial)]
      exact HA.out
    case true =>
      go_wp2
      go_loopw [9, 8] (fun s9 s8 w2 => ∃ p f ch, p ≤ n ∧ s9 = .int .i64 (p : Nat) ∧ s8 = .bool ch ∧ Brs 4 B n f w2 ∧ RoundI (nxN l) (mvW z) k n f0 f ch (fun p' q => p' < p ∧ q ∈ nxN l p') ∧ Below B w w2 ∧ B < w2.heap.size) (fun s9 _ _ => n - (intOf s9).toNat)
      case atStart => exact ⟨0, f0, false, by omega, rfl, rfl, HA.out, RoundI.start HI.out (fun _ _ d => by omega), HBWr.out, HZr.out⟩
      case round =>
        obtain ⟨p, f, ch, hp, rfl, rfl, hA2, hR2, hb2, hz2⟩ := hrel
        have HA2 := Lib.hid hA2
        have HR2 := Lib.hid hR2
        have HB2 := Lib.hid hb2
        have HZ2 := Lib.hid hz2
        by_cases hlt : p < n
        case neg =>
          obtain rfl : p = n := by omega
          clear hA2 hR2 hb2 hz2 hlt
          go_wp2
          go_roundw
          case rel =>
            refine ⟨f, ch, rfl, HA2.out, HR2.out.found, fun e p' hp' q hq hm => ?_, HB2.out, HZ2.out⟩
            obtain ⟨e1, e2⟩ := HR2.out.no e
            subst e1
            by_cases hlt : p' < p
            · exact e2 p' q ⟨hlt, hq⟩ hp' hm
            · unfold nxN at hq
              rw [if_neg (by rw [HL.out]; exact hlt)] at hq
              simp at hq
          case measure =>
            rw [cntW_is HA2.out, cntW_is HA.out]
            cases ch
            · simp [bOf]
            · obtain ⟨q, q1, q2, q3⟩ := HR2.out.yes rfl
              have := cntB_lt HR2.out.up q2 q3 p q1
              have := cntB_le_n f p
              simp only [bOf]; omega
        case pos =>
          have cp := hA2.cell p
          rw [fnArr_get _ hlt] at cp
          have hlt' : (p : Int) < n := by omega
          cases hfp : f p
          · rw [hfp] at cp
            clear hA2 hR2 hb2 hz2 hlt
            go_wp2
            go_roundw
            case rel =>
              refine ⟨p + 1, f, ch, by omega, by go_num, rfl, HA2.out, HR2.out.mono fun p' q d => ?_, HB2.out, HZ2.out⟩
              rcases (show p' < p ∨ p' = p by omega) with e | rfl
              · exact .inl ⟨e, d.2⟩
              · exact .inr (.inl hfp)
            case measure => simp [intOf]; omega
          · rw [hfp] at cp
            obtain ⟨M, hM⟩ : ∃ M, nxN l p = M := ⟨_, rfl⟩
            obtain ⟨m, hm⟩ : ∃ m, M.length = m := ⟨_, rfl⟩
            have HX := Lib.hid (refGNext_is (p : Int) (HWr.out _ hb2) hn HB.out)
            rw [nextL_nat (by have := HL.out; omega), ← nxN_back (l := l) (p := p) (by have := HL.out; omega), hM] at HX
            have HFP := Lib.hid hfp
            have hmb : m ≤ 2 := by rw [← hm, ← hM]; unfold nxN; split <;> simp [nxl_len]
            have HMl := Lib.hid (show (M.map Int.ofNat).length = m by rw [List.length_map, hm])
            have HMM := Lib.hid hm
            have HMe := Lib.hid hM
            have HIn := Lib.hid (show ∀ q, q ∈ M → q < n from fun q (hq : q ∈ M) => HL.out ▸ nxN_in (hM ▸ hq))
            have hm' : (m : Int) ≤ 2 := by omega
            clear hA2 hR2 hb2 hz2 hlt hfp hM hm
            go_wp2_with (go_at_call 8; ((with_reducible refine (HX.out).mono ?_); rintro e w3 ⟨v3, rfl, ho3, hb3⟩); obtain ⟨a3, c3, rfl, -⟩ := ho3.ws; rw [HMl.out] at ho3 ⊢; have HO3 := Lib.hid ho3; have HB3 := Lib.hid hb3; clear ho3 hb3)
            have HK3 := Lib.hid (Keeps.of_below (fun j => j = B) HB3.out)
            have HS3 := Lib.hid HB3.out.size
            go_loopw [11, 8] (fun s11 s8 w4 => ∃ j f ch, j ≤ m ∧ s11 = .int .i64 (j : Nat) ∧ s8 = .bool ch ∧ Brs 4 B n f w4 ∧ f p = true ∧ RoundI (nxN l) (mvW z) k n f0 f ch (fun p' q => (p' < p ∧ q ∈ nxN l p') ∨ (p' = p ∧ q ∈ M.take j)) ∧ Keeps (fun j => j = B) w3 w4) (fun s11 _ _ => m - (intOf s11).toNat)
            case atStart => exact ⟨0, f, ch, by omega, rfl, rfl, HA2.out.keep (HB3.out), HFP.out, HR2.out.mono fun p' q d => .inl (by simpa using d), Keeps.refl _ _⟩
            case round =>
              obtain ⟨j, f, ch, hj, rfl, rfl, hA4, hfp, hR4, hK4⟩ := hrel
              have HA4 := Lib.hid hA4
              have HR4 := Lib.hid hR4
              have HK4 := Lib.hid hK4
              have HFP4 := Lib.hid hfp
              by_cases hlt : j < m
              case neg =>
                obtain rfl : j = m := by omega
                clear hA4 hfp hR4 hK4 hlt
                go_wp2
                go_roundw
                case rel =>
                  have hk := HB3.out
                  have hs := HZ2.out
                  have hs3 := HS3.out
                  have hbw : Below B w w3 := HB2.out.trans (hk.mono (Nat.le_of_lt hs))
                  refine ⟨p + 1, f, ch, by omega, by go_num, rfl, HA4.out, HR4.out.mono fun p' q d => .inl ?_, HK4.out.below hbw (by omega) fun j e => by omega, Nat.lt_of_lt_of_le (Nat.lt_of_lt_of_le hs hs3) HK4.out.size⟩
                  rcases (show p' < p ∨ p' = p by omega) with e | e
                  · exact .inl ⟨e, d.2⟩
                  · refine .inr ⟨e, ?_⟩
                    subst e
                    rw [List.take_of_length_le (by rw [HMM.out]; exact Nat.le_refl _), ← HMe.out]
                    exact d.2
                case measure => simp [intOf]; omega
              case pos =>
                obtain ⟨g, cap, e, hg1, hg2, -⟩ := HO3.out.form HMl.out (by omega)
                simp only [Value.slice.injEq, true_and] at e
                obtain ⟨rfl, rfl⟩ := e
                have hgB : g ≠ B := by have := HZ2.out; omega
                have HGB := Lib.hid hgB
                have c4 := (HO3.out.kept hK4 fun i (e : (Value.slice (some ⟨g, 0, none⟩) m c3).ownBlock = some i) (e2 : i = B) => hgB (by
                  have e' : some g = some i := e
                  rw [Option.some.inj e', e2])).cell HMl.out hlt
                have hjM : j < M.length := by rw [HMM.out]; exact hlt
                obtain ⟨q, hq⟩ : ∃ q, M[j] = q := ⟨_, rfl⟩
                have hqm : q ∈ M := hq ▸ List.getElem_mem _
                have hqn := HIn.out q hqm
                rw [show byAt (M.map Int.ofNat) j = (q : Int) by rw [← byAt_eq (by rw [HMl.out]; exact hlt), List.getElem_map, hq]; rfl] at c4
                have HT := Lib.hid (show M.take (j + 1) = M.take j ++ [q] by rw [List.take_succ_eq_append_getElem hjM, hq])
                have HQM := Lib.hid hqm
                have hqn' : (q : Int) < n := by omega
                have hlt' : (j : Int) < m := by omega
                have cq := hA4.cell q
                rw [fnArr_get _ hqn] at cq
                have fq := hA4.free q
                clear hA4 hfp hR4 hK4 hlt hq hqm hjM hgB
                have HD := Lib.hid (show (mvW z q = false ∨ f q = true) → RoundI (nxN l) (mvW z) k n f0 f ch (fun p' q => (p' < p ∧ q ∈ nxN l p') ∨ (p' = p ∧ q ∈ M.take (j + 1))) from fun hq => HR4.out.mono fun p' q' d => by
                  rcases d with d | ⟨d1, d2⟩
                  · exact .inl (.inl d)
                  · rw [HT.out, List.mem_append, List.mem_singleton] at d2
                    rcases d2 with d2 | rfl
                    · exact .inl (.inr ⟨d1, d2⟩)
                    · exact hq.elim (fun e => .inr (.inr (.inl e))) fun e => .inr (.inr (.inr e)))
                by_cases hqz : (q : Int) = z
                · have e1 : ((q : Int) != z) = false := by simpa using hqz
                  have HQZ := Lib.hid hqz
                  clear hqz
                  go_wp2
                  go_roundw
                  case rel => exact ⟨j + 1, f, ch, by omega, by go_num, rfl, HA4.out, HFP4.out, HD.out (.inl (by unfold mvW; simp [HQZ.out])), HK4.out⟩
                  case measure => simp [intOf]; omega
                · have e1 : ((q : Int) != z) = true := by simpa using hqz
                  have HQZ := Lib.hid hqz
                  clear hqz
                  cases hfq : f q
                  · rw [hfq] at cq
                    have HFQ := Lib.hid hfq
                    clear hfq
                    go_wp2
                    go_roundw
                    case rel =>
                      have hp : q ∈ nxN l p := by rw [HMe.out]; exact HQM.out
                      exact ⟨j + 1, Gra.upB f q, true, by omega, by go_num, rfl, brs_set HA4.out q, Gra.upB_true HFP4.out, HR4.out.add HFP4.out hp (by unfold mvW; simp [HQZ.out]) HFQ.out hqn, HK4.out.trans (Keeps.set1 _ _ _ _)⟩
                    case measure => simp [intOf]; omega
                  · rw [hfq] at cq
                    have HFQ := Lib.hid hfq
                    clear hfq
                    go_wp2
                    go_roundw
                    case rel => exact ⟨j + 1, f, ch, by omega, by go_num, rfl, HA4.out, HFP4.out, HD.out (.inr HFQ.out), HK4.out⟩
                    case measure => simp [intOf]; omega

open Go.RowKit Go.IntWalk

theorem start_first (n : Nat) : startN n 0 = beginN n := by
  unfold startN beginN
  by_cases h : 0 < n
  · rw [if_pos (by omega), Nat.min_eq_right (by omega)]; rfl
  · rw [if_neg (by omega), Nat.min_eq_left (by omega)]
    obtain rfl : n = 0 := by omega
    rfl
theorem mv_none : mvW (-1) = fun _ => true := by
  funext p
  unfold mvW
  exact decide_eq_true (by omega)
theorem came_mv {N : Nat → List Nat} {mv : Nat → Bool} {l0 : List Nat} {x : Nat} (h : Gra.Came N mv l0 x) : mv x = true := by
  cases h with
  | start _ h => exact h
  | next _ _ h => exact h
theorem came_avoid {N : Nat → List Nat} {l0 : List Nat} {x : Int} (hx : ∀ k : Nat, (k : Int) = x → ¬ Gra.Came N (fun _ => true) l0 k) {y : Nat} (h : Gra.Came N (fun _ => true) l0 y) : Gra.Came N (mvW x) l0 y := by
  have hm : ∀ y, Gra.Came N (fun _ => true) l0 y → mvW x y = true := fun y hy => decide_eq_true fun e => hx y e hy
  induction h with
  | start h1 h2 => exact .start h1 (hm _ (.start h1 h2))
  | next h1 h2 h3 ih => exact .next ih h2 (hm _ (.next h1 h2 h3))
/-- What is reached. -/
noncomputable abbrev rchB (l : List Int) : Nat → Bool := cameB (nxN l) (fun _ => true) (beginN l.length)
theorem ahead_no_y {l : List Int} {x y : Int} (h : hasB l.length (rchB l) y = false) : aheadB l x y = false := by
  unfold aheadB
  rw [h, Bool.false_and]
theorem ahead_no_x {l : List Int} {x y : Int} (h : hasB l.length (rchB l) x = false) : aheadB l x y = false := by
  cases hy : hasB l.length (rchB l) y
  · exact ahead_no_y hy
  unfold aheadB
  rw [hy, Bool.true_and, Bool.not_eq_false']
  obtain ⟨k, rfl, hk, hc⟩ := hasB_some hy
  rw [hasB_nat _ hk]
  refine cameB_iff.2 (came_avoid (fun j e hj => ?_) (cameB_iff.1 hc))
  have hjn := came_lt hj
  rw [← e, hasB_nat _ hjn] at h
  rw [show rchB l j = true from cameB_iff.2 hj] at h
  exact absurd h (by simp)
theorem ahead_same {l : List Int} {k : Nat} (hk : k < l.length) (h : rchB l k = true) : aheadB l k k = true := by
  unfold aheadB
  unfold rchB at h
  rw [hasB_nat _ hk, h, hasB_nat _ hk, Bool.true_and, Bool.not_eq_true']
  rw [Bool.eq_false_iff]
  intro hc
  have := came_mv (cameB_iff.1 hc)
  simp at this
theorem ahead_far {l : List Int} {x : Int} {k : Nat} (hk : k < l.length) (h : rchB l k = true) : aheadB l x k = !cameB (nxN l) (mvW x) (beginN l.length) k := by
  unfold aheadB
  unfold rchB at h
  rw [hasB_nat _ hk, h, hasB_nat _ hk, Bool.true_and]
  rfl

set_option maxRecDepth 100000 in
theorem refGReached_is {l : List Int} {a : Option Addr} {n c : Nat} {w : World} (h : Ws .u32 w a n c l) (hn : n ≤ 60) (hb : ∀ i, i < l.length → 0 ≤ byAt l i ∧ byAt l i < 4294967296) :
    Calls Tryd.prog 11 #[.slice a n c] w fun e w' => ∃ b, e = .returned (.slice (some ⟨b, 0, none⟩) n n) ∧ Brs 4 b n (rchB l) w' ∧ w.heap.size ≤ b ∧ Below w.heap.size w w' := by
  have hF := refFrom_is 0 (-1) h hn hb
  rw [start_first, mv_none, ← h.len] at hF
  rw [← h.len]
  have HF := Lib.hid hF
  clear hF h hb
  go_enter Tryd.func11, Tryd.ntmps11
  go_wp2_with (go_at_call 28; ((with_reducible refine HF.out.mono ?_); rintro e w1 ⟨b, rfl, hq⟩))
  go_ret
  exact ⟨b, rfl, hq⟩

set_option maxRecDepth 100000 in
set_option maxHeartbeats 1000000 in
theorem refGAhead_is {l : List Int} {a : Option Addr} {n c : Nat} {w : World} (x y : Int) (h : Ws .u32 w a n c l) (hn : n ≤ 60) (hb : ∀ i, i < l.length → 0 ≤ byAt l i ∧ byAt l i < 4294967296) :
    Calls Tryd.prog 13 #[.slice a n c, .int .i64 x, .int .i64 y] w fun e w' => e = .returned (.bool (aheadB l x y)) ∧ Below w.heap.size w w' := by
  have hR := refGReached_is h hn hb
  have hl := h.len
  have hn' : (n : Int) ≤ 60 := by omega
  have hF := fun w2 (k : Below w.heap.size w w2) => refFrom_is 0 x (h.keep k) hn hb
  rw [start_first] at hF
  have HF := Lib.hid hF
  have HR := Lib.hid hR
  have HL := Lib.hid hl
  clear hF hR h hb hl
  by_cases h1 : x < 0
  · have E := Lib.hid (ahead_no_x (l := l) (x := x) (y := y) (by unfold hasB; simp; omega))
    go_enter Tryd.func13, Tryd.ntmps13
    go_wp2_with (go_at_call 11; ((with_reducible refine HR.out.mono ?_); rintro e w1 ⟨b, rfl, -, -, hq⟩))
    go_ret
    exact ⟨by rw [E.out]; rfl, hq⟩
  by_cases h2 : y < 0
  · have E := Lib.hid (ahead_no_y (l := l) (x := x) (y := y) (by unfold hasB; simp; omega))
    go_enter Tryd.func13, Tryd.ntmps13
    go_wp2_with (go_at_call 11; ((with_reducible refine HR.out.mono ?_); rintro e w1 ⟨b, rfl, -, -, hq⟩))
    go_ret
    exact ⟨by rw [E.out]; rfl, hq⟩
  by_cases h3 : (n : Int) ≤ x
  · have E := Lib.hid (ahead_no_x (l := l) (x := x) (y := y) (by unfold hasB; rw [HL.out]; simp; omega))
    go_enter Tryd.func13, Tryd.ntmps13
    go_wp2_with (go_at_call 11; ((with_reducible refine HR.out.mono ?_); rintro e w1 ⟨b, rfl, -, -, hq⟩))
    go_ret
    exact ⟨by rw [E.out]; rfl, hq⟩
  by_cases h4 : (n : Int) ≤ y
  · have E := Lib.hid (ahead_no_y (l := l) (x := x) (y := y) (by unfold hasB; rw [HL.out]; simp; omega))
    go_enter Tryd.func13, Tryd.ntmps13
    go_wp2_with (go_at_call 11; ((with_reducible refine HR.out.mono ?_); rintro e w1 ⟨b, rfl, -, -, hq⟩))
    go_ret
    exact ⟨by rw [E.out]; rfl, hq⟩
  obtain ⟨i, rfl⟩ : ∃ i : Nat, x = i := ⟨x.toNat, by omega⟩
  obtain ⟨j, rfl⟩ : ∃ j : Nat, y = j := ⟨y.toNat, by omega⟩
  have hi : i < n := by omega
  have hj : j < n := by omega
  have hil : i < l.length := by rw [HL.out]; exact hi
  have hjl : j < l.length := by rw [HL.out]; exact hj
  have d1 : decide ((i : Int) < 0) = false := by simp
  have d2 : decide ((j : Int) < 0) = false := by simp
  have d3 : decide (n ≤ i) = false := by simp; omega
  have d4 : decide (n ≤ j) = false := by simp; omega
  have HHI := Lib.hid hi
  have HHJ := Lib.hid hj
  cases hri : rchB l i
  · have E := Lib.hid (ahead_no_x (l := l) (x := i) (y := j) (by rw [hasB_nat _ hil]; exact hri))
    have HI := Lib.hid hri
    clear hri hil hjl
    go_enter Tryd.func13, Tryd.ntmps13
    go_wp2_with (go_at_call 11; ((with_reducible refine HR.out.mono ?_); rintro e w1 ⟨b, rfl, hB, -, hq⟩); have ci := BlkAt.cell hB i; rw [fnArr_get _ HHI.out, HI.out] at ci; have HQ := Lib.hid hq; clear hB hq)
    go_ret
    exact ⟨by rw [E.out]; rfl, HQ.out⟩
  cases hrj : rchB l j
  · have E := Lib.hid (ahead_no_y (l := l) (x := i) (y := j) (by rw [hasB_nat _ hjl]; exact hrj))
    have HI := Lib.hid hri
    have HJ := Lib.hid hrj
    clear hri hil hjl hrj
    go_enter Tryd.func13, Tryd.ntmps13
    go_wp2_with (go_at_call 11; ((with_reducible refine HR.out.mono ?_); rintro e w1 ⟨b, rfl, hB, -, hq⟩); have ci := BlkAt.cell hB i; have cj := BlkAt.cell hB j; rw [fnArr_get _ HHI.out, HI.out] at ci; rw [fnArr_get _ HHJ.out, HJ.out] at cj; have HQ := Lib.hid hq; clear hB hq)
    go_ret
    exact ⟨by rw [E.out]; rfl, HQ.out⟩
  by_cases hij : i = j
  · subst hij
    have E := Lib.hid (ahead_same hil hri)
    have HI := Lib.hid hri
    clear hri hrj hil hjl
    have e1 : ((i : Int) == i) = true := by simp
    go_enter Tryd.func13, Tryd.ntmps13
    go_wp2_with (go_at_call 11; ((with_reducible refine HR.out.mono ?_); rintro e w1 ⟨b, rfl, hB, -, hq⟩); have ci := BlkAt.cell hB i; rw [fnArr_get _ HHI.out, HI.out] at ci; have HQ := Lib.hid hq; clear hB hq)
    go_ret
    exact ⟨by rw [E.out]; rfl, HQ.out⟩
  · have E := Lib.hid (ahead_far (x := i) hjl hrj)
    have HI := Lib.hid hri
    have HJ := Lib.hid hrj
    have e1 : ((i : Int) == j) = false := by simp; omega
    have e2 : (i == j) = false := by simpa using hij
    clear hri hrj hil hjl hij
    go_enter Tryd.func13, Tryd.ntmps13
    go_wp2_with (first
      | (go_at_call 11; ((with_reducible refine HR.out.mono ?_); rintro e w1 ⟨b, rfl, hB, -, hq⟩); have ci := BlkAt.cell hB i; have cj := BlkAt.cell hB j; rw [fnArr_get _ HHI.out, HI.out] at ci; rw [fnArr_get _ HHJ.out, HJ.out] at cj; have HQ := Lib.hid hq; clear hB hq)
      | (go_at_call 28; ((with_reducible refine (HF.out _ HQ.out).mono ?_); rintro e w2 ⟨b2, rfl, hB, -, hq⟩); have cj2 := BlkAt.cell hB j; rw [fnArr_get _ HHJ.out] at cj2; have HQ2 := Lib.hid hq; clear hB hq))
    go_ret
    exact ⟨by rw [E.out, HL.out]; rfl, HQ.out.trans (HQ2.out.mono HQ.out.size)⟩

set_option maxRecDepth 100000 in
set_option maxHeartbeats 1000000 in
theorem refGCyclic_is {l : List Int} {a : Option Addr} {n c : Nat} {w : World} (h : Ws .u32 w a n c l) (hn : n ≤ 60) (hb : ∀ i, i < l.length → 0 ≤ byAt l i ∧ byAt l i < 4294967296) :
    Calls Tryd.prog 20 #[.slice a n c] w fun e w' => e = .returned (.bool (cycB l)) ∧ Below w.heap.size w w' := by
  have hR := refGReached_is h hn hb
  have hl := h.len
  have hn' : (n : Int) ≤ 60 := by omega
  have HF := Lib.hid (fun w2 (k : Below w.heap.size w w2) (q : Nat) => refFrom_is (q : Int) (-1) (h.keep k) hn hb)
  have HX := Lib.hid (fun w2 (k : Below w.heap.size w w2) (p : Nat) => refGNext_is (p : Int) (h.keep k) hn hb)
  rw [mv_none] at HF
  have HR := Lib.hid hR
  have HL := Lib.hid hl
  have HCY := Lib.hid (cycB_iff (l := l))
  clear hR h hb hl
  go_enter Tryd.func20, Tryd.ntmps20
  go_wp2_with (go_at_call 11; ((with_reducible refine HR.out.mono ?_); rintro e w1 ⟨b, rfl, hB, hbz, hq⟩); have HBR := Lib.hid hB; have HQ := Lib.hid hq; clear hB hq hbz)
  go_loopw [4] (fun s wr => ∃ p : Nat, p ≤ n ∧ s = .int .i64 p ∧ (∀ p' q, p' < p → q ∈ nxN l p' → rchB l p' = true → ¬ Gra.Came (nxN l) (fun _ => true) [q] p') ∧ Below w1.heap.size w1 wr) (fun s _ => n - (intOf s).toNat)
  case atStart => exact ⟨0, by omega, rfl, fun p' q h => by omega, Below.refl _ _⟩
  case round =>
    obtain ⟨p, hp, rfl, hno, hk⟩ := hrel
    have HNO := Lib.hid hno
    have HK := Lib.hid hk
    by_cases hlt : p < n
    case neg =>
      obtain rfl : p = n := by omega
      clear hno hk hlt
      go_wp2
      go_ret
      refine ⟨?_, HQ.out.trans (HK.out.mono HQ.out.size)⟩
      have : cycB l = false := by
        rw [Bool.eq_false_iff]
        intro hc
        obtain ⟨p', h1, q, h2, h3⟩ := HCY.out.1 hc
        exact HNO.out p' q (by rw [← HL.out]; exact came_lt h1) h2 (cameB_iff.2 h1) h3
      rw [this]
      rfl
    case pos =>
      have hlt' : (p : Int) < n := by omega
      obtain ⟨M, hM⟩ : ∃ M, nxN l p = M := ⟨_, rfl⟩
      obtain ⟨m, hm⟩ : ∃ m, M.length = m := ⟨_, rfl⟩
      have hX := HX.out _ (HQ.out.trans (hk.mono HQ.out.size)) p
      rw [nextL_nat (by have := HL.out; omega), ← nxN_back (l := l) (p := p) (by have := HL.out; omega), hM] at hX
      have HX1 := Lib.hid hX
      have hmb : m ≤ 2 := by rw [← hm, ← hM]; unfold nxN; split <;> simp [nxl_len]
      have HMl := Lib.hid (show (M.map Int.ofNat).length = m by rw [List.length_map, hm])
      have HMM := Lib.hid hm
      have HMe := Lib.hid hM
      have HIn := Lib.hid (show ∀ q, q ∈ M → q < n from fun q (hq : q ∈ M) => HL.out ▸ nxN_in (hM ▸ hq))
      have hm' : (m : Int) ≤ 2 := by omega
      have HPL := Lib.hid hlt
      clear hno hk hlt hM hm hX
      go_wp2_with (go_at_call 8; ((with_reducible refine (HX1.out).mono ?_); rintro e w3 ⟨v3, rfl, ho3, hb3⟩); obtain ⟨a3, c3, rfl, hw3⟩ := ho3.ws; rw [HMl.out] at hw3 ⊢; have HW3 := Lib.hid hw3; have HB3 := Lib.hid hb3; clear ho3 hb3 hw3)
      go_loopw [6] (fun s w4 => ∃ j : Nat, j ≤ m ∧ s = .int .i64 j ∧ (∀ q, q ∈ M.take j → rchB l p = true → ¬ Gra.Came (nxN l) (fun _ => true) [q] p) ∧ Below w3.heap.size w3 w4) (fun s _ => m - (intOf s).toNat)
      case atStart => exact ⟨0, by omega, rfl, fun q h => by simp at h, Below.refl _ _⟩
      case round =>
        obtain ⟨j, hj, rfl, hno, hk⟩ := hrel
        have HNO2 := Lib.hid hno
        have HK2 := Lib.hid hk
        by_cases hlt : j < m
        case neg =>
          obtain rfl : j = m := by omega
          clear hno hk hlt
          go_wp2
          go_roundw
          case rel =>
            refine ⟨p + 1, by omega, by go_num, fun p' q h1 h2 h3 => ?_, (HK.out.trans (HB3.out.mono HK.out.size)).trans (HK2.out.mono (Nat.le_trans HK.out.size HB3.out.size))⟩
            rcases (show p' < p ∨ p' = p by omega) with h | rfl
            · exact HNO.out p' q h h2 h3
            · exact HNO2.out q (by rw [List.take_of_length_le (by rw [HMM.out]; exact Nat.le_refl _), ← HMe.out]; exact h2) h3
          case measure => simp [intOf]; omega
        case pos =>
          obtain ⟨g, off, rfl, hc⟩ := (HW3.out.keep hk).lie (by omega)
          have c4 := hc j hlt
          have hjM : j < M.length := by rw [HMM.out]; exact hlt
          obtain ⟨q, hq⟩ : ∃ q, M[j] = q := ⟨_, rfl⟩
          have hqm : q ∈ M := hq ▸ List.getElem_mem _
          have hqn := HIn.out q hqm
          rw [show byAt (M.map Int.ofNat) j = (q : Int) by rw [← byAt_eq (by rw [HMl.out]; exact hlt), List.getElem_map, hq]; rfl] at c4
          have HT := Lib.hid (show M.take (j + 1) = M.take j ++ [q] by rw [List.take_succ_eq_append_getElem hjM, hq])
          have HQM := Lib.hid hqm
          have hqn' : (q : Int) < n := by omega
          have hlt' : (j : Int) < m := by omega
          have hkk : Below w1.heap.size w1 wr := (HK.out.trans (HB3.out.mono HK.out.size)).trans (hk.mono (Nat.le_trans HK.out.size HB3.out.size))
          have cp := BlkAt.cell (BlkAt.keep HBR.out hkk) p
          rw [fnArr_get _ HPL.out] at cp
          have hF1 := HF.out wr (HQ.out.trans (hkk.mono HQ.out.size)) q
          rw [show startN n q = [q] by unfold startN; rw [if_pos ⟨by omega, hqn'⟩, Int.toNat_natCast]] at hF1
          obtain ⟨F, hFq⟩ : ∃ F, cameB (nxN l) (fun _ => true) [q] = F := ⟨_, rfl⟩
          rw [hFq] at hF1
          have HF1 := Lib.hid hF1
          have HFE := Lib.hid hFq
          clear hno hk hlt hc hq hqm hjM hkk hF1 hFq
          cases hr : rchB l p
          · rw [hr] at cp
            have HRP := Lib.hid hr
            clear hr
            go_wp2
            go_roundw
            case rel => exact ⟨j + 1, by omega, by go_num, fun q _ h => absurd h (by simp), HK2.out⟩
            case measure => simp [intOf]; omega
          · rw [hr] at cp
            have HRP := Lib.hid hr
            clear hr
            cases hfp : F p
            · have HFP := Lib.hid hfp
              clear hfp
              go_wp2_with (go_at_call 28; ((with_reducible refine HF1.out.mono ?_); rintro e w5 ⟨b5, rfl, hB5, -, hb5⟩); have cq := BlkAt.cell hB5 p; rw [fnArr_get _ HPL.out, HFP.out] at cq; have HB5 := Lib.hid hb5; clear hB5 hb5)
              go_roundw
              case rel =>
                refine ⟨j + 1, by omega, by go_num, fun q' h1 h2 => ?_, HK2.out.trans (HB5.out.mono HK2.out.size)⟩
                rw [HT.out, List.mem_append, List.mem_singleton] at h1
                rcases h1 with h1 | rfl
                · exact HNO2.out q' h1 HRP.out
                · intro hc
                  have := cameB_iff.2 hc
                  rw [HFE.out, HFP.out] at this
                  exact absurd this (by simp)
              case measure => simp [intOf]; omega
            · have HFP := Lib.hid hfp
              clear hfp
              have E := Lib.hid (show cycB l = true from HCY.out.2 ⟨p, cameB_iff.1 HRP.out, q, by rw [HMe.out]; exact HQM.out, cameB_iff.1 (by rw [HFE.out]; exact HFP.out)⟩)
              go_wp2_with (go_at_call 28; ((with_reducible refine HF1.out.mono ?_); rintro e w5 ⟨b5, rfl, hB5, -, hb5⟩); have cq := BlkAt.cell hB5 p; rw [fnArr_get _ HPL.out, HFP.out] at cq; have HB5 := Lib.hid hb5; clear hB5 hb5)
              go_ret
              refine ⟨by rw [E.out]; rfl, ?_⟩
              have h1 := (HQ.out.trans (HK.out.mono HQ.out.size)).trans (HB3.out.mono (Nat.le_trans HQ.out.size HK.out.size))
              have h2 := h1.trans (HK2.out.mono h1.size)
              exact h2.trans (HB5.out.mono h2.size)

/-! ### Backs; lists held against one another -/
theorem backsP_none {l : List Int} {p : Nat} (h : rchB l p = false) : backsP l p = [] := by
  unfold backsP
  rw [List.map_eq_nil_iff, List.filter_eq_nil_iff]
  intro q _
  have : hasB l.length (rchB l) p = false := by
    unfold hasB
    rw [Int.toNat_natCast, h, Bool.and_false]
  rw [ahead_no_y this]
  simp
theorem ws_cell {κ : IntKind} {w : World} {b off n c : Nat} {l : List Int} (h : Ws κ w (some ⟨b, off, none⟩) n c l) {i : Nat} (hi : i < n) : w.cell? ⟨b, off + i, none⟩ = some (.int κ (byAt l i)) := by
  obtain ⟨b', off', e, hc⟩ := h.lie (by omega)
  simp only [Option.some.injEq, Addr.mk.injEq, and_true] at e
  obtain ⟨rfl, rfl⟩ := e
  exact hc i hi
theorem OwnW.here {κ : IntKind} {w : World} {base n c : Nat} {e : TypeId} {a : Option Addr} {l : List Int} (h : OwnW κ w base e (.slice a n c) l) : Ws κ w a n c l := by
  obtain ⟨a', c', e', h'⟩ := h.ws
  simp only [Value.slice.injEq] at e'
  obtain ⟨rfl, rfl, rfl⟩ := e'
  exact h'
theorem own_two {w : World} {base base' s s' n n' : Nat} {e e' : TypeId} {v v' : Value} {xs xs' : List Value} (h : w.ownsRow base e s v n xs) (h' : w.ownsRow base' e' s' v' n' xs') (he : e ≠ e') : ∀ j, v.ownBlock = some j → ¬ v'.ownBlock = some j := by
  intro j hj
  rcases h.2 with ⟨rfl, _⟩ | ⟨g, cap, cur, rfl, _, hg, _⟩
  · exact nomatch hj
  · obtain rfl : g = j := Option.some.inj hj
    exact own_off_type h' (show BlkAt g e cur w from hg) he
theorem backsL_all (l : List Int) : (List.range l.length).flatMap (backsP l) = backsL l := by
  unfold backsL
  generalize List.range l.length = R
  induction R with
  | nil => rfl
  | cons x R ih =>
    rw [List.flatMap_cons, List.filter_cons, ih]
    cases h : rchB l x
    · rw [backsP_none h]
      unfold rchB at h
      rw [h]
      simp
    · unfold rchB at h
      rw [h]
      simp
set_option maxRecDepth 100000 in
set_option maxHeartbeats 1000000 in
theorem refGBacks_is {l : List Int} {a : Option Addr} {n c : Nat} {w : World} (h : Ws .u32 w a n c l) (hn : n ≤ 60) (hb : ∀ i, i < l.length → 0 ≤ byAt l i ∧ byAt l i < 4294967296) :
    Calls Tryd.prog 16 #[.slice a n c] w fun e w' => ∃ v, e = .returned v ∧ OwnEl fixK w' w.heap.size 36 v (backsL l) ∧ Below w.heap.size w w' := by
  obtain ⟨i0, hi0, hz0, hz1, hz2⟩ := info_parts infoFix
  have HIO := Lib.hid (And.intro hi0 (And.intro hz0 (And.intro hz1 hz2)))
  have hl := h.len
  have hn' : (n : Int) ≤ 60 := by omega
  have HA := Lib.hid (fun w2 (k : Below w.heap.size w w2) (q p : Nat) => refGAhead_is (q : Int) (p : Int) (h.keep k) hn hb)
  have HX := Lib.hid (fun w2 (k : Below w.heap.size w w2) (p : Nat) => refGNext_is (p : Int) (h.keep k) hn hb)
  have HL := Lib.hid hl
  clear h hb hl hi0 hz0 hz1 hz2
  go_enter Tryd.func16, Tryd.ntmps16
  go_wp2
  go_loopw [4, 3] (fun s s3 wr => ∃ p : Nat, p ≤ n ∧ s = .int .i64 p ∧ OwnEl fixK wr w.heap.size 36 s3 ((List.range p).flatMap (backsP l)) ∧ Below w.heap.size w wr) (fun s _ _ => n - (intOf s).toNat)
  case atStart => exact ⟨0, by omega, rfl, OwnEl.nil fixK _ _ _, Below.refl _ _⟩
  case round =>
    obtain ⟨p, hp, rfl, hO, hk⟩ := hrel
    have HO := Lib.hid hO
    have HK := Lib.hid hk
    by_cases hlt : p < n
    case neg =>
      obtain rfl : p = n := by omega
      clear hO hk hlt
      go_wp2
      go_ret
      refine ⟨_, rfl, ?_, HK.out⟩
      rw [← backsL_all, HL.out]
      exact HO.out
    case pos =>
      have hlt' : (p : Int) < n := by omega
      obtain ⟨M, hM⟩ : ∃ M, nxN l p = M := ⟨_, rfl⟩
      obtain ⟨m, hm⟩ : ∃ m, M.length = m := ⟨_, rfl⟩
      have hX := HX.out _ hk p
      rw [nextL_nat (by have := HL.out; omega), ← nxN_back (l := l) (p := p) (by have := HL.out; omega), hM] at hX
      have HX1 := Lib.hid hX
      have hmb : m ≤ 2 := by rw [← hm, ← hM]; unfold nxN; split <;> simp [nxl_len]
      have HMl := Lib.hid (show (M.map Int.ofNat).length = m by rw [List.length_map, hm])
      have HMM := Lib.hid hm
      have HMe := Lib.hid hM
      have HPL := Lib.hid hlt
      have HPP := Lib.hid (show (List.range (p + 1)).flatMap (backsP l) = (List.range p).flatMap (backsP l) ++ (M.filter fun (q : Nat) => aheadB l (q : Int) (p : Int)).map fun (q : Nat) => ((p : Int), (q : Int)) by
        rw [List.range_succ, List.flatMap_append, ← hM]; simp [backsP])
      have HLEN := Lib.hid (show ((List.range p).flatMap (backsP l)).length ≤ 200 from by
        have h1 := flatMapP_len (N := backsP l) (D := 2) (fun x => by
          unfold backsP
          rw [List.length_map]
          refine Nat.le_trans (List.length_filter_le _ _) ?_
          unfold nxN; split <;> simp [nxl_len]) (List.range p)
        rw [List.length_range] at h1
        omega)
      clear hO hk hlt hM hm hX
      go_wp2_with (go_at_call 8; ((with_reducible refine (HX1.out).mono ?_); rintro e w3 ⟨v3, rfl, ho3, hb3⟩); obtain ⟨a3, c3, rfl, hw3⟩ := ho3.ws; rw [HMl.out] at ho3 ⊢; have HW3 := Lib.hid (ho3.mono HK.out.size); have HB3 := Lib.hid hb3; clear ho3 hb3 hw3)
      have HK3 := Lib.hid (HK.out.trans (HB3.out.mono HK.out.size))
      go_loopw [6, 3] (fun s s3 w4 => ∃ j : Nat, j ≤ m ∧ s = .int .i64 j ∧ OwnEl fixK w4 w.heap.size 36 s3 ((List.range p).flatMap (backsP l) ++ ((M.take j).filter fun (q : Nat) => aheadB l (q : Int) (p : Int)).map fun (q : Nat) => ((p : Int), (q : Int))) ∧ Below w.heap.size w w4 ∧ OwnW .i64 w4 w.heap.size 3 (.slice a3 m c3) (M.map Int.ofNat)) (fun s _ _ => m - (intOf s).toNat)
      case atStart => exact ⟨0, by omega, rfl, by simpa using HO.out.keep HB3.out, HK3.out, HW3.out⟩
      case round =>
        obtain ⟨j, hj, rfl, hO, hk, hw⟩ := hrel
        have HO2 := Lib.hid hO
        have HK2 := Lib.hid hk
        have HW2 := Lib.hid hw
        by_cases hlt : j < m
        case neg =>
          obtain rfl : j = m := by omega
          clear hO hk hlt hw
          go_wp2
          go_roundw
          case rel =>
            refine ⟨p + 1, by omega, by go_num, ?_, HK2.out⟩
            have h1 := HO2.out
            rw [List.take_of_length_le (by rw [HMM.out]; exact Nat.le_refl _)] at h1
            rw [HPP.out]
            exact h1
          case measure => simp [intOf]; omega
        case pos =>
          obtain ⟨g, off, rfl, hc⟩ := hw.here.lie (by omega)
          have c4 := hc j hlt
          have hjM : j < M.length := by rw [HMM.out]; exact hlt
          obtain ⟨q, hq⟩ : ∃ q, M[j] = q := ⟨_, rfl⟩
          have hbq : byAt (M.map Int.ofNat) j = (q : Int) := by rw [← byAt_eq (by rw [HMl.out]; exact hlt), List.getElem_map, hq]; rfl
          rw [hbq] at c4
          have HBQ := Lib.hid hbq
          have hlt' : (j : Int) < m := by omega
          have hA := HA.out wr hk q p
          obtain ⟨v, hv⟩ : ∃ v, aheadB l (q : Int) (p : Int) = v := ⟨_, rfl⟩
          rw [hv] at hA
          have HAH := Lib.hid hA
          have HTA := Lib.hid (show (M.take (j + 1)).filter (fun (q : Nat) => aheadB l (q : Int) (p : Int)) = (M.take j).filter (fun (q : Nat) => aheadB l (q : Int) (p : Int)) ++ if v = true then [q] else [] from by
            rw [List.take_succ_eq_append_getElem hjM, List.filter_append, hq]
            congr 1
            by_cases e : v = true
            · rw [if_pos e]; simp [hv, e]
            · rw [if_neg e]; simp [hv, e])
          have HJL := Lib.hid hlt
          have HSZ := Lib.hid hk.size
          have HLE2 := Lib.hid (show ((List.range p).flatMap (backsP l) ++ ((M.take j).filter fun (q : Nat) => aheadB l (q : Int) (p : Int)).map fun (q : Nat) => ((p : Int), (q : Int))).length ≤ 300 from by
            have h1 := HLEN.out
            have h2 := List.length_filter_le (fun (q : Nat) => aheadB l (q : Int) (p : Int)) (M.take j)
            rw [List.length_take] at h2
            rw [List.length_append, List.length_map]
            omega)
          clear hO hk hc hjM hq hbq hv hA hlt hw
          cases v with
          | false =>
            go_wp2_with (go_at_call 13; ((with_reducible refine HAH.out.mono ?_); rintro e w10 ⟨rfl, hq10⟩); have HQ10 := Lib.hid hq10; clear hq10)
            go_roundw
            case rel => exact ⟨j + 1, by omega, by go_num, by rw [HTA.out]; simpa using HO2.out.keep HQ10.out, HK2.out.trans (HQ10.out.mono HK2.out.size), HW2.out.keep HQ10.out⟩
            case measure => simp [intOf]; omega
          | true =>
            go_wp2_with (first
              | (go_at_call 13; ((with_reducible refine HAH.out.mono ?_); rintro e w10 ⟨rfl, hq10⟩); have HQ10 := Lib.hid hq10; have c10 := ws_cell (HW2.out.keep hq10).here HJL.out; rw [HBQ.out] at c10; clear hq10)
              | (at_builtin; refine wpList_append_el (K := fixK) rfl _ _ 32 rfl w.heap.size 36 i0 (.agg #[.int .i64 0, .int .i64 0]) Tryd.underlying32 HIO.out.1 HIO.out.2.1 HIO.out.2.2.1 (by have := HIO.out.2.2.2; omega) rfl rfl ((HO2.out.keep HQ10.out).keep ((Below.refl _ _).alloc (Nat.le_refl _) _)) rfl (u := ((p : Int), (q : Int))) ⟨_, BlkAt.new _ _ _⟩ (by have := HLE2.out; omega) (by have := HQ10.out.size; have := HSZ.out; simp; omega) ?_; intro v' w11 hown hgr hnx; have HOWN := Lib.hid hown; have HGR := Lib.hid hgr; clear hown hgr hnx))
            go_roundw
            case rel =>
              have hz10 := HQ10.out.size
              have hsz := HSZ.out
              have k1 : Below w.heap.size w10 w11 := ((Below.refl _ _).alloc (by omega) _).grown HGR.out (by simp; omega) fun z e => (HO2.out.lt z e).1
              refine ⟨j + 1, by omega, by go_num, ?_, (HK2.out.trans (HQ10.out.mono HK2.out.size)).trans k1, ?_⟩
              · rw [HTA.out, if_pos trivial, List.map_append, ← List.append_assoc]
                exact HOWN.out
              · have k2 := (HW2.out.keep HQ10.out).keep ((Below.refl _ _).alloc (Nat.le_refl _) (.cells #[.int .i64 (p : Int), .int .i64 (q : Int)] 36))
                have k3 := (HO2.out.keep HQ10.out).keep ((Below.refl _ _).alloc (Nat.le_refl _) (.cells #[.int .i64 (p : Int), .int .i64 (q : Int)] 36))
                exact k2.kept (Keeps.of_grown HGR.out fun j e => e) (own_two k2 k3 (by decide))
            case measure => simp [intOf]; omega

end Go.Proofs.YtggiaopdgijgnaaDoor
