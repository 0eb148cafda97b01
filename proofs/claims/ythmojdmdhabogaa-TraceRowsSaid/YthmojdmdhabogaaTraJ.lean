/- Package trace's Addrs: gathered, sorted, each once. Conditions: the list can be read; it is no longer than 2^20. -/
import Derived.Test.YthmojdmdhabogaaTraG
import Derived.Test.YthmojdmdhabogaaShelf
namespace Go.Proofs.Ythmojdmdhabogaa
open Go.RowKit Go.IntWalk Go.Sort

/-! ### A sorted list, each once -/
theorem compactTo_succ (d : Array Int) (m : Nat) : Lib.compactUpTo d (m + 1) = Lib.compactUpTo d m ++ if Lib.keeps d m = true then [d[m]!] else [] := by
  unfold Lib.compactUpTo
  rw [List.range_succ, List.filter_append, List.map_append]
  congr 1
  by_cases h : Lib.keeps d m = true
  · rw [if_pos h]; simp [h]
  · rw [if_neg h]; simp [h]
theorem compactTo_spec (d : Array Int) (hs : ∀ i j, i ≤ j → j < d.size → d[i]! ≤ d[j]!) : ∀ m, m ≤ d.size →
    (Lib.compactUpTo d m).Pairwise (fun a b => iLt a b = true) ∧ (∀ x, x ∈ Lib.compactUpTo d m ↔ ∃ j, j < m ∧ d[j]! = x) ∧ (Lib.compactUpTo d m).length ≤ m
  | 0, _ => by simp [Lib.compactUpTo]
  | m + 1, h => by
    obtain ⟨h1, h2, h3⟩ := compactTo_spec d hs m (by omega)
    rw [compactTo_succ]
    by_cases hk : Lib.keeps d m = true
    · rw [if_pos hk]
      refine ⟨List.pairwise_append.2 ⟨h1, by simp, fun a ha b hb => ?_⟩, fun x => ?_, by simp; omega⟩
      · obtain rfl := List.mem_singleton.1 hb
        obtain ⟨j, hj, rfl⟩ := (h2 a).1 ha
        have h4 : m ≠ 0 := by omega
        have h5 : d[m]! ≠ d[m - 1]! := by
          simp [Lib.keeps, h4] at hk
          exact hk
        have h6 := hs j (m - 1) (by omega) (by omega)
        have h7 := hs (m - 1) m (by omega) (by omega)
        simp [iLt]
        omega
      · rw [List.mem_append, h2, List.mem_singleton]
        constructor
        · rintro (⟨j, hj, e⟩ | e)
          · exact ⟨j, by omega, e⟩
          · exact ⟨m, by omega, e.symm⟩
        · rintro ⟨j, hj, e⟩
          rcases Nat.lt_succ_iff_lt_or_eq.1 hj with q | q
          · exact .inl ⟨j, q, e⟩
          · subst q; exact .inr e.symm
    · rw [if_neg hk, List.append_nil]
      refine ⟨h1, fun x => ?_, by omega⟩
      rw [h2]
      have h4 : m ≠ 0 := by
        rintro rfl
        exact hk (by simp [Lib.keeps])
      have h5 : d[m]! = d[m - 1]! := by
        simp [Lib.keeps, h4] at hk
        exact hk
      constructor
      · rintro ⟨j, hj, e⟩
        exact ⟨j, by omega, e⟩
      · rintro ⟨j, hj, e⟩
        rcases Nat.lt_succ_iff_lt_or_eq.1 hj with q | q
        · exact ⟨j, q, e⟩
        · subst q; exact ⟨j - 1, by omega, by rw [← h5]; exact e⟩
theorem compact_sorted (l : List Int) : Lib.compact (l.mergeSort fun x y => decide (x ≤ y)) = rise iLt l ∧ (Lib.compact (l.mergeSort fun x y => decide (x ≤ y))).length ≤ l.length := by
  have hp := List.mergeSort_perm l fun x y => decide (x ≤ y)
  have hw := List.pairwise_mergeSort (le := fun x y : Int => decide (x ≤ y)) (fun a b c h1 h2 => by simp at *; omega) (fun a b => by simp; omega) l
  obtain ⟨z, hz⟩ : ∃ z, (l.mergeSort fun x y => decide (x ≤ y)) = z := ⟨_, rfl⟩
  rw [hz] at hp hw ⊢
  have hs : ∀ i j, i ≤ j → j < z.toArray.size → z.toArray[i]! ≤ z.toArray[j]! := by
    intro i j hij hj
    have hj' : j < z.length := by simpa using hj
    rcases Nat.lt_or_ge i j with q | q
    · have := (List.pairwise_iff_getElem.1 hw) i j (by omega) hj' q
      rw [getElem!_pos _ i (by simp; omega), getElem!_pos _ j hj]
      simpa using this
    · have : i = j := by omega
      subst this
      exact Int.le_refl _
  obtain ⟨h1, h2, h3⟩ := compactTo_spec z.toArray hs z.length (by simp)
  refine ⟨rises_ext iLt_tot _ _ h1 (rise_rises iLt_tot l) fun x => ?_, by rw [← hp.length_eq]; exact h3⟩
  rw [mem_rise, ← hp.mem_iff]
  show x ∈ Lib.compactUpTo z.toArray z.length ↔ _
  rw [h2, List.mem_iff_getElem]
  constructor
  · rintro ⟨j, hj, e⟩
    exact ⟨j, hj, by rw [← e, getElem!_pos _ j (by simpa using hj)]; simp⟩
  · rintro ⟨j, hj, e⟩
    exact ⟨j, hj, by rw [← e, getElem!_pos _ j (by simpa using hj)]; simp⟩

/-! ### The library's sort and Compact, of a call's own numbers -/
theorem putRow_int (w : World) (b o : Nat) (d : Array Int) : putRow (Value.int .i64) w b o d = putRowK intK.enc intK.k w b o d := by
  unfold putRowK putRow
  congr 1
  funext c
  apply Array.ext_getElem?
  intro k
  have hsz : (flatK intK.enc intK.k d).size = d.size := by rw [size_flatK]; exact Nat.mul_one _
  simp only [putCells, Array.getElem?_mapIdx, hsz]
  cases c[k]? with
  | none => rfl
  | some y =>
    simp only [Option.map_some]
    by_cases h : o ≤ k ∧ k < o + d.size
    · rw [if_pos h, if_pos h, get_flatK _ _ _ _ (by show k - o < d.size * 1; omega)]
      have e1 : (k - o) / intK.k = k - o := Nat.div_one _
      have e2 : (k - o) % intK.k = 0 := Nat.mod_one _
      rw [e1, e2]
      rfl
    · rw [if_neg h, if_neg h]
theorem int_holds {w : World} {base n g cap : Nat} {e : TypeId} {l : List Int} (h : OwnEl intK w base e (.slice (some ⟨g, 0, none⟩) n cap) l) (hl : l.length = n) : Holds (Value.int .i64) w g 0 l.toArray := by
  intro j hj
  have hj' : j < n := by rw [← hl]; simpa using hj
  have hc := h.cell hl hj' (j := 0) (by decide)
  rw [show j * intK.k + 0 = j by show j * 1 + 0 = j; omega] at hc
  rw [Nat.zero_add, getElem!_pos _ j hj]
  refine ⟨by rw [hc, ← el_eq (by omega)]; simp [intK], h.free hl j⟩
theorem OwnEl.cut {α : Type} {K : Kd α} {w : World} {base n g cap : Nat} {e : TypeId} {l : List α} (h : OwnEl K w base e (.slice (some ⟨g, 0, none⟩) n cap) l) (hl : l.length = n) {k : Nat} (hk : k ≤ n) : OwnEl K w base e (.slice (some ⟨g, 0, none⟩) k cap) (l.take k) := by
  obtain ⟨h1, hcase⟩ := h
  subst hl
  have hlt : (l.take k).length = k := by rw [List.length_take]; omega
  refine ⟨by rw [K.vs_len], ?_⟩
  rcases hcase with ⟨h0, _⟩ | ⟨g', cap', cur, hv, hb, hg, e1, e2, e3, e4⟩
  · cases h0
  · simp only [Value.slice.injEq, Option.some.injEq, Addr.mk.injEq, and_true] at hv
    obtain ⟨rfl, -, rfl⟩ := hv
    refine .inr ⟨g, cap, cur, by rw [hlt], hb, hg, by omega, e2, e3, ?_⟩
    rw [hlt]
    have e5 : K.vs l = K.vs (l.take k) ++ K.vs (l.drop k) := by rw [← K.vs_app, List.take_append_drop]
    have e6 : (K.vs (l.take k)).length = k * K.k := by rw [K.vs_len, hlt]
    have e7 : cur.toList.take (k * K.k) = (cur.toList.take (l.length * K.k)).take (k * K.k) := by
      rw [List.take_take, Nat.min_eq_left (Nat.mul_le_mul_right _ hk)]
    rw [e7, e4, e5, ← e6, List.take_left]
theorem addrsSort_is {w : World} {base : Nat} {e : TypeId} {v : Value} {l : List Int} (h : OwnEl intK w base e v l) (hl : l.length ≤ 1048576) :
    Calls Try.prog 25 #[v] w fun r w' => r = .returned (.tuple #[]) ∧ OwnEl intK w' base e v (l.mergeSort fun x y => decide (x ≤ y)) ∧ w.grownBy w' v.ownBlock := by
  rcases Nat.eq_zero_or_pos l.length with h0 | h0
  · obtain rfl : l = [] := List.eq_nil_of_length_eq_zero h0
    obtain ⟨a, c, rfl, hat⟩ := h.at
    refine (slices_Sort_int_none a c w).mono ?_
    rintro r w' ⟨rfl, rfl⟩
    exact ⟨rfl, by rw [List.mergeSort_nil]; exact h, ⟨rfl, rfl, rfl, Nat.le_refl _, fun _ _ _ => rfl⟩⟩
  · obtain ⟨g, cap, rfl, hb, hg, h1, h2⟩ := h.form rfl h0
    refine (slices_Sort_int g 0 cap l w (int_holds h rfl) hg (by omega)).mono ?_
    rintro r w' ⟨rfl, q, os, hw⟩
    rw [putRow_int] at hw
    obtain ⟨o1, o2⟩ := OwnEl.sorted (K := intK) (d := l.mergeSort fun x y => decide (x ≤ y)) h rfl (List.length_mergeSort _) hw
    exact ⟨rfl, o1, o2⟩
theorem addrsCompact_is {w : World} {base : Nat} {e : TypeId} {v : Value} {l : List Int} (h : OwnEl intK w base e v l) (hl : l.length ≤ 1048576) (hc : (Lib.compact l).length ≤ l.length) :
    Calls Try.prog 26 #[v] w fun r w' => ∃ v', r = .returned v' ∧ OwnEl intK w' base e v' (Lib.compact l) ∧ w.grownBy w' v.ownBlock := by
  rcases Nat.eq_zero_or_pos l.length with h0 | h0
  · obtain rfl : l = [] := List.eq_nil_of_length_eq_zero h0
    obtain ⟨a, c, rfl, hat⟩ := h.at
    refine (slices_Compact_int_empty a c w).mono ?_
    rintro r w' ⟨rfl, rfl⟩
    exact ⟨_, rfl, h, ⟨rfl, rfl, rfl, Nat.le_refl _, fun _ _ _ => rfl⟩⟩
  · obtain ⟨g, cap, rfl, hb, hg, h1, h2⟩ := h.form rfl h0
    refine (slices_Compact_int g 0 cap l w (int_holds h rfl) (by omega) h1).mono ?_
    rintro r w' ⟨rfl, q, hw⟩
    rw [putRow_int] at hw
    have hd : (Lib.compact l ++ List.replicate (l.length - (Lib.compact l).length) 0).length = l.length := by simp; omega
    obtain ⟨o1, o2⟩ := OwnEl.sorted (K := intK) (w' := w') (q := q) (os := #[]) (d := Lib.compact l ++ List.replicate (l.length - (Lib.compact l).length) 0) h rfl hd (by unfold sortWorldK; rw [grow_empty]; exact hw)
    have o3 := o1.cut hd hc
    rw [List.take_left] at o3
    exact ⟨_, rfl, o3, o2⟩

theorem int_oneb {b : Nat} (w : World) (x : Int) (h : w.heap.size = b) : IntAt (w.alloc (.cells #[.int .i64 x] 3)) (some ⟨b, 0, none⟩) 1 1 [x] := by
  subst h; exact int_one w x
/-! ### Addrs -/
theorem asked_take {l : List Mk} {k : Nat} (h : k < l.length) : asked (l.take (k + 1)) = if (mkAt l k).2.1 = -1 then asked (l.take k) else asked (l.take k) ++ [(mkAt l k).2.1] := by
  rw [take_snoc h, asked_snoc]
  rfl
set_option maxHeartbeats 1000000 in
theorem traAddrs_is (a : Option Addr) (n c : Nat) (l : List Mk) (w : World) (h : MkAt w a n c l) (hn : n ≤ 1048576) :
    Calls Try.prog 15 #[.slice a n c] w fun r w' => ∃ v, r = .returned v ∧ OwnEl intK w' w.heap.size 3 v (tAddrs l) ∧ Below w.heap.size w w' := by
  obtain ⟨i0, hi, hz0, hz1, hz2⟩ := info_els infoIntT
  have hcap := h.cap
  have hbig := h.big
  unfold maxLen at hbig
  have HL := Lib.hid h
  have HLN := Lib.hid h.len
  clear h
  go_enter Try.func15, Try.ntmps15
  go_wp2
  go_loopw [3, 8] (fun v i wr => ∃ k : Nat, k ≤ n ∧ i = .int .i64 k ∧ OwnEl intK wr w.heap.size 3 v (asked (l.take k)) ∧ Below w.heap.size w wr) (fun _ i _ => n - (intOf i).toNat)
  case atStart => exact ⟨0, by omega, rfl, by rw [List.take_zero]; exact OwnEl.nil _ _ _ _, Below.refl _ _⟩
  case round =>
    obtain ⟨k, hk, rfl, ho, hb⟩ := hrel
    have Hb := Lib.hid hb
    have HO := Lib.hid ho
    have hal : (asked (l.take k)).length ≤ k := by have := asked_len (l.take k); rw [List.length_take] at this; omega
    have hs := hb.size
    by_cases hlt : k < n
    · obtain ⟨g, off, rfl, hc⟩ := (HL.out.keep Hb.out).lie (by omega)
      obtain ⟨c0, c1, c2⟩ := hc k hlt
      have hkl : k < l.length := by have := HLN.out; omega
      have HT := Lib.hid (asked_take hkl)
      obtain ⟨x, hx⟩ : ∃ x, (mkAt l k).2.1 = x := ⟨_, rfl⟩
      rw [hx] at c1 HT
      generalize (mkAt l k).1 = x0 at *
      generalize (mkAt l k).2.2 = x2 at *
      have hlt' : (k : Int) < n := by omega
      clear hc hx hkl hb ho
      by_cases e : x = -1
      · have e1 : (x != -1) = false := by simp [e]
        have HE := Lib.hid e
        clear e
        go_wp2
        go_roundw
        case rel => exact ⟨k + 1, by omega, by go_num, by rw [HT.out, if_pos HE.out]; exact HO.out.keep ((Below.refl _ _).alloc (Nat.le_refl _) _), Hb.out.alloc Hb.out.size _⟩
        case measure => simp [intOf]; omega
      · have e1 : (x != -1) = true := by simp [e]
        have HE := Lib.hid e
        clear e
        go_wp2_with (at_builtin; refine wpList_append_els rfl _ _ 28 rfl w.heap.size 3 i0 (.int .i64 0) Try.underlying28 hi hz0 hz1 (by omega) rfl rfl (HO.out.keep (((Below.refl _ _).alloc (Nat.le_refl _) _).alloc (by simp) _)) rfl (int_oneb (b := wr.heap.size + 1) _ x (by simp)) (by omega) (by simp; omega) ?_; intro v' w2 hown hgr)
        have hob := HO.out.lt
        go_roundw
        case rel => exact ⟨k + 1, by omega, by go_num, by rw [HT.out, if_neg HE.out]; exact hown, ((Hb.out.alloc hs _).alloc (by simp; omega) _).grown hgr (by simp; omega) fun q hq => (hob q hq).1⟩
        case measure => simp [intOf]; omega
    · obtain rfl : k = n := by omega
      have HA := Lib.hid (show asked (l.take k) = asked l by rw [← HLN.out, List.take_length])
      rw [HA.out] at HO hal
      have hC := compact_sorted (asked l)
      have HC := Lib.hid hC
      have hlm : ((asked l).mergeSort fun x y => decide (x ≤ y)).length = (asked l).length := List.length_mergeSort _
      clear hb ho hC
      go_wp2_with (first
        | (go_at_call 25; (refine (addrsSort_is HO.out (by omega)).mono ?_; rintro r w1 ⟨rfl, o1, g1⟩))
        | (go_at_call 26; (refine (addrsCompact_is o1 (by omega) (by rw [hlm]; exact HC.out.2)).mono ?_; rintro r w2 ⟨v2, rfl, o2, g2⟩)))
      go_ret
      have hob := HO.out.lt
      refine ⟨_, rfl, by rw [HC.out.1] at o2; exact o2, ?_⟩
      exact (Hb.out.grown g1 hs fun q hq => (hob q hq).1).grown g2 (Nat.le_trans hs g1.size) fun q hq => (hob q hq).1
end Go.Proofs.Ythmojdmdhabogaa
