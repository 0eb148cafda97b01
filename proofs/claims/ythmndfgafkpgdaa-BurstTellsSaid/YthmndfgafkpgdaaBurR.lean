/- What the document's own places and flips (package astrolaberef12) give. Conditions: the slices' cells are bytes; the texts are no longer than 2^30 bytes. -/
import Derived.Test.YthmndfgafkpgdaaBurC
namespace Go.Proofs.Ythmndfgafkpgdaa
open Go.RowKit Go.Shelf

/-- A text's bit, as a number. -/
def btI (l : List Int) (k : Nat) : Int := if (bl l).getD k false then 1 else 0
theorem bit_num : ((List.range 256).all fun y => (List.range 8).all fun r => decide ((y : Int) / 2 ^ (7 - r) % 2 = if bitOf y r then 1 else 0)) = true := by decide +kernel
theorem btI_of {l : List Int} {k : Nat} (h : Bd8 l) (hk : k < 8 * l.length) : byAt l (k / 8) / 2 ^ (7 - k % 8) % 2 = btI l k := by
  have hb := h.at (i := k / 8) (by omega)
  have := List.all_eq_true.1 (List.all_eq_true.1 bit_num (byAt l (k / 8)).toNat (List.mem_range.2 (by omega))) (k % 8) (List.mem_range.2 (by omega))
  simp only [decide_eq_true_eq] at this
  rw [show (((byAt l (k / 8)).toNat : Nat) : Int) = byAt l (k / 8) by omega] at this
  unfold btI
  rw [bl_get l k hk, this]
theorem btI_differ (l m : List Int) (k : Nat) : (btI l k != btI m k) = differ l m k := by
  unfold btI differ
  cases (bl l).getD k false <;> cases (bl m).getD k false <;> rfl
theorem btI_bd (l : List Int) (k : Nat) : 0 ≤ btI l k ∧ btI l k ≤ 1 := by unfold btI; split <;> decide

set_option maxHeartbeats 1000000 in
theorem refBit_is (a : Option Addr) (n c k : Nat) (l : List Int) (w : World) (hB : By w a n c l) (hn : n ≤ 1073741824) (hk : k < 8 * n) :
    Calls Try.prog 15 #[.slice a n c, .int .i64 k] w fun e w' => e = .returned (.int .i64 (btI l k)) ∧ w = w' := by
  have hl := hB.len
  have E := Lib.hid (btI_of hB.bd (k := k) (by omega))
  have hy := hB.bd.at (i := k / 8) (by omega)
  obtain ⟨b, off, rfl, hc⟩ := hB.lie (by omega)
  have hcap := hB.cap
  have hbig := hB.big
  unfold maxLen at hbig
  have hcell := hc (k / 8) (by omega)
  have k1 : (k : Int) / 8 < n := by omega
  have k0 : (k : Int) < 8 * n := by omega
  clear hc hB hl
  generalize byAt l (k / 8) = y at *
  go_enter Try.func15, Try.ntmps15
  go_wp2
  go_loopw [5, 6] (fun x i wr => wr = w ∧ ∃ j : Nat, k % 8 ≤ j ∧ j ≤ 7 ∧ i = .int .i64 j ∧ x = .int .i64 (y / 2 ^ (j - k % 8))) (fun _ i _ => (7 - intOf i).toNat)
  case atStart => exact ⟨rfl, k % 8, by omega, by omega, by go_num, by simp⟩
  case round =>
    obtain ⟨rfl, j, hj1, hj2, rfl, rfl⟩ := hrel
    have z0 : 0 ≤ y / 2 ^ (j - k % 8) := Int.ediv_nonneg hy.1 (by have := Int.pow_pos (n := 2) (m := j - k % 8) (by decide); omega)
    have z1 : y / 2 ^ (j - k % 8) ≤ 255 := Int.le_trans (Int.ediv_le_self _ hy.1) hy.2
    by_cases hlt : j < 7
    · have hj3 : (j : Int) < 7 := by omega
      have HS := Lib.hid (show y / 2 ^ (j - k % 8) / 2 = y / 2 ^ (j + 1 - k % 8) by
        rw [show j + 1 - k % 8 = (j - k % 8) + 1 by omega, Int.pow_succ, Int.ediv_ediv_of_nonneg (by have := Int.pow_pos (n := 2) (m := j - k % 8) (by decide); omega)])
      generalize y / 2 ^ (j - k % 8) = z at *
      go_wp2
      go_roundw
      case rel => exact ⟨trivial, j + 1, by omega, by omega, by go_num, by rw [← HS.out]⟩
      case measure => simp [intOf]; omega
    · obtain rfl : j = 7 := by omega
      generalize y / 2 ^ (7 - k % 8) = z at *
      go_wp2
      go_ret
      exact ⟨retI E.out, rfl⟩

/-- The places among the first i at which two texts differ. -/
def diffB (l m : List Int) (i : Nat) : List Int := ((List.range i).filter (differ l m)).map Int.ofNat
theorem diffB_yes {l m : List Int} {i : Nat} (h : differ l m i = true) : diffB l m (i + 1) = diffB l m i ++ [(i : Int)] := by
  unfold diffB; rw [List.range_succ, List.filter_append, List.map_append]; simp [h]
theorem diffB_no {l m : List Int} {i : Nat} (h : differ l m i = false) : diffB l m (i + 1) = diffB l m i := by
  unfold diffB; rw [List.range_succ, List.filter_append, List.map_append]; simp [h]
theorem diffB_len (l m : List Int) (i : Nat) : (diffB l m i).length ≤ i := by
  unfold diffB
  rw [List.length_map]
  exact Nat.le_trans (List.length_filter_le _ _) (by simp)

set_option maxHeartbeats 1000000 in
theorem refPlaces_is (a a' : Option Addr) (n c n' c' : Nat) (l l' : List Int) (w : World) (hB : By w a n c l) (hB' : By w a' n' c' l') (hn : n ≤ 1073741824) (hn' : n' ≤ 1073741824) :
    Calls Try.prog 8 #[.slice a n c, .slice a' n' c'] w fun e w' => RetI w 3 (placesOf l l') e w' := by
  obtain ⟨i0, hi, hz0, hz1, hz2⟩ := info_parts infoI64
  have hl := hB.len
  have hl' := hB'.len
  by_cases hnn : n = n'
  · subst hnn
    have E := Lib.hid (show placesOf l l' = diffB l l' (8 * n) by unfold placesOf; rw [if_pos (by omega), hl]; rfl)
    have HB := Lib.hid hB
    have HB' := Lib.hid hB'
    clear hB hB' hl hl'
    go_enter Try.func8, Try.ntmps8
    go_wp2
    go_loopw [5, 6] (fun v i wr => ∃ k : Nat, k ≤ 8 * n ∧ i = .int .i64 k ∧ OwnI wr w.heap.size 3 v (diffB l l' k) ∧ Below w.heap.size w wr) (fun _ i _ => 8 * n - (intOf i).toNat)
    case atStart => exact ⟨0, by omega, rfl, OwnI.nil _ _ _, Below.refl _ _⟩
    case round =>
      obtain ⟨k, hk, rfl, hown, hb⟩ := hrel
      by_cases hlt : k < 8 * n
      · have hk1 : (k : Int) < 8 * n := by omega
        have HA := Lib.hid (refBit_is a n c k l wr (HB.out.keep hb (Nat.le_refl _)) hn hlt)
        have HA' := Lib.hid (refBit_is a' n c' k l' wr (HB'.out.keep hb (Nat.le_refl _)) hn hlt)
        have hd := btI_differ l l' k
        have hle := diffB_len l l' k
        unfold OwnI at hown
        cases hdk : differ l l' k with
        | true =>
          have HE := Lib.hid (diffB_yes hdk)
          rw [hdk] at hd
          clear hdk
          go_wp2_with (first
            | (go_at_call 15; (with_reducible refine HA.out.mono ?_); rintro e w2 ⟨rfl, rfl⟩; clear HA)
            | (go_at_call 15; (with_reducible refine HA'.out.mono ?_); rintro e w2 ⟨rfl, rfl⟩; clear HA')
            | (at_builtin; refine wpList_append_own _ rfl _ _ 26 rfl w.heap.size 3 i0 (.int .i64 0) 1 8 Try.underlying26 hi hz0 hz1 hz2 rfl (by decide) _ _ _ rfl (hown.alloc _) ⟨wr.heap.size, 0, none⟩ 1 1 [.int .i64 k] rfl rfl ?c1 ?c2 ?c3 ?c4 ?c5 ?_))
          case c1 =>
            intro j u hj
            match j, hj with
            | 0, hj => simp at hj; subst hj; simp [Addr.add]
          case c2 => intro u hu; simp at hu; subst hu; rfl
          case c3 => unfold maxLen; omega
          case c4 => omega
          case c5 => have := hb.size; simp; omega
          · intro v' w1 hown' hgrow _
            have hb' : Below w.heap.size w w1 := by
              refine (hb.alloc hb.size _).grown hgrow (by have := hb.size; simp; omega) ?_
              intro q hq
              exact (World.ownsRow.lt hown q hq).1
            clear hgrow hown hb
            go_wp2
            go_roundw
            case rel => exact ⟨k + 1, by omega, by go_num, by unfold OwnI; rw [HE.out]; simpa using hown', hb'⟩
            case measure => simp [intOf]; omega
        | false =>
          have HE := Lib.hid (diffB_no hdk)
          rw [hdk] at hd
          have HO := Lib.hid hown
          have Hb := Lib.hid hb
          clear hdk hown hb
          go_wp2_with (first
            | (go_at_call 15; (with_reducible refine HA.out.mono ?_); rintro e w2 ⟨rfl, rfl⟩; clear HA)
            | (go_at_call 15; (with_reducible refine HA'.out.mono ?_); rintro e w2 ⟨rfl, rfl⟩; clear HA'))
          go_roundw
          case rel => exact ⟨k + 1, by omega, by go_num, by unfold OwnI; rw [HE.out]; exact HO.out, Hb.out⟩
          case measure => simp [intOf]; omega
      · obtain rfl : k = 8 * n := by omega
        have HO := Lib.hid hown
        have Hb := Lib.hid hb
        have hcast : ((8 * n : Nat) : Int) = 8 * (n : Int) := by omega
        rw [hcast]
        clear hown hb
        go_wp2
        go_ret
        exact ⟨_, rfl, by rw [E.out]; exact HO.out, Hb.out⟩
  · have E := Lib.hid (show placesOf l l' = [] by unfold placesOf; rw [if_neg (by omega)])
    have hne : ((n : Int) != n') = true := by simp; omega
    clear hB hB' hl hl' hnn
    go_enter Try.func8, Try.ntmps8
    go_wp2
    go_ret
    exact ⟨_, rfl, by rw [E.out]; exact OwnI.nil _ _ _, Below.refl _ _⟩

set_option maxHeartbeats 1000000 in
theorem refSame_is (a a' : Option Addr) (n c c' : Nat) (l : List Int) (w : World) (hB : Its w a n c l) (hB' : Its w a' n c' l) :
    Calls Try.prog 6 #[.slice a n c, .slice a' n c'] w fun e w' => e = .returned (.bool true) ∧ Below w.heap.size w w' := by
  have hcap := hB.cap
  have hbig := hB.big
  have hcap' := hB'.cap
  have hbig' := hB'.big
  unfold maxLen at hbig hbig'
  have HB := Lib.hid hB
  have HB' := Lib.hid hB'
  clear hB hB'
  go_enter Try.func6, Try.ntmps6
  go_wp2
  go_loopw [5] (fun i wr => ∃ k : Nat, k ≤ n ∧ i = .int .i64 k ∧ Below w.heap.size w wr) (fun i _ => n - (intOf i).toNat)
  case atStart => exact ⟨0, by omega, rfl, Below.refl _ _⟩
  case round =>
    obtain ⟨k, hk, rfl, hb⟩ := hrel
    have Hb := Lib.hid hb
    by_cases hlt : k < n
    · obtain ⟨b, off, rfl, h1⟩ := (HB.out.keep hb (Nat.le_refl _)).lie (by omega)
      obtain ⟨b', off', rfl, h2⟩ := (HB'.out.keep hb (Nat.le_refl _)).lie (by omega)
      have h1 := h1 k hlt
      have h2 := h2 k hlt
      have hlt' : (k : Int) < n := by omega
      generalize byAt l k = y at *
      have hy : (y != y) = false := by simp
      clear hb
      go_wp2
      go_quiet (fail)
      go_wp2
      go_roundw
      case rel => exact ⟨k + 1, by omega, by go_num, below_drewN Hb.out _⟩
      case measure => simp [intOf]; omega
    · obtain rfl : k = n := by omega
      clear hb
      go_wp2
      go_ret
      exact ⟨rfl, Hb.out⟩

theorem last_byAt (ps : List Int) : ps.getLastD 0 = byAt ps (ps.length - 1) := by
  unfold byAt
  rw [List.getLastD_eq_getLast?, List.getLast?_eq_getElem?, List.getD_eq_getElem?_getD]
theorem head_byAt (ps : List Int) : ps.headD 0 = byAt ps 0 := by
  unfold byAt
  cases ps <;> rfl
theorem byAt_mem {ps : List Int} {i : Nat} (h : i < ps.length) : byAt ps i ∈ ps := by
  rw [← byAt_eq h]; exact List.getElem_mem _

set_option maxHeartbeats 1000000 in
theorem refSpan_is (a a' : Option Addr) (n c n' c' : Nat) (l l' : List Int) (w : World) (hB : By w a n c l) (hB' : By w a' n' c' l') (hn : n ≤ 1073741824) (hn' : n' ≤ 1073741824) :
    Calls Try.prog 10 #[.slice a n c, .slice a' n' c'] w fun e w' => e = .returned (.int .i64 (spanW l l')) ∧ Below w.heap.size w w' := by
  have hl := hB.len
  have hl' := hB'.len
  by_cases hnn : n = n'
  · subst hnn
    have hc := refPlaces_is a a' n c n c' l l' w hB hB' hn hn'
    have E := Lib.hid (show spanW l l' = spanOf (placesOf l l') by unfold spanW placesOf; rw [if_pos (by omega), if_pos (by omega)])
    have hm : ∀ y ∈ placesOf l l', 0 ≤ y ∧ y < 8589934592 := by
      intro y hy
      unfold placesOf at hy
      rw [if_pos (by omega)] at hy
      obtain ⟨j, rfl, hj, -⟩ := mem_diffs.1 hy
      omega
    generalize placesOf l l' = ps at *
    have HM := Lib.hid hm
    clear hB hB' hl hl' hm
    go_enter Try.func10, Try.ntmps10
    go_wp2_with fail
    refine hc.mono ?_
    rintro e w1 ⟨v, rfl, ho, hb⟩
    obtain ⟨a2, n2, c2, rfl, hI⟩ := ho.its
    have Hb := Lib.hid hb
    have hcap := hI.cap
    have hbig := hI.big
    unfold maxLen at hbig
    have HI := Lib.hid hI
    clear hb ho hc hI
    rcases Nat.eq_zero_or_pos n2 with h0 | h0
    · subst h0
      have E0 := Lib.hid (show spanOf ps = 0 by have := HI.out.len; rw [List.eq_nil_of_length_eq_zero this]; rfl)
      go_wp2
      go_ret
      exact ⟨by rw [E.out, E0.out]; rfl, Hb.out⟩
    · obtain ⟨b, off, rfl, h1⟩ := HI.out.lie h0
      have hlen := HI.out.len
      have c0 := h1 0 (by omega)
      have c1 := h1 (n2 - 1) (by omega)
      have b0 := HM.out _ (byAt_mem (ps := ps) (i := 0) (by omega))
      have b1 := HM.out _ (byAt_mem (ps := ps) (i := n2 - 1) (by omega))
      have E0 := Lib.hid (show spanOf ps = 1 + byAt ps (n2 - 1) - byAt ps 0 by
        unfold spanOf
        rw [if_neg (by intro e; rw [e] at hlen; simp at hlen; omega), last_byAt, head_byAt, hlen])
      have hne : ((n2 : Int) == 0) = false := by simp; omega
      clear h1
      generalize byAt ps 0 = y0 at *
      generalize byAt ps (n2 - 1) = y1 at *
      have e1 : IntKind.i64.wrap ((n2 : Int) - 1) = (n2 : Int) - 1 := IntWalk.i64_in _ (by omega)
      have e2 : IntKind.i64.wrap (1 + y1) = 1 + y1 := IntWalk.i64_in _ (by omega)
      have e3 : IntKind.i64.wrap (1 + y1 - y0) = 1 + y1 - y0 := IntWalk.i64_in _ (by omega)
      have e4 : (0 : Int) < (n2 : Int) := by omega
      have e5 : (n2 : Int) - 1 < (n2 : Int) := by omega
      have e6 : (0 : Int) ≤ (n2 : Int) - 1 := by omega
      have e7 : ((n2 : Int) - 1).toNat = n2 - 1 := by omega
      rw [Nat.add_zero] at c0
      go_wp2
      go_quiet (fail)
      go_wp2
      go_ret
      exact ⟨by rw [E.out, E0.out]; rfl, below_drewN Hb.out _⟩
  · have E := Lib.hid (show spanW l l' = -1 by unfold spanW; rw [if_neg (by omega)])
    have hne : ((n : Int) != n') = true := by simp; omega
    clear hB hB' hl hl' hnn
    go_enter Try.func10, Try.ntmps10
    go_wp2
    go_ret
    exact ⟨by rw [E.out]; rfl, Below.refl _ _⟩
end Go.Proofs.Ythmndfgafkpgdaa
