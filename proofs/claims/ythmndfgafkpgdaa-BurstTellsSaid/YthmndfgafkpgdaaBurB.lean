/- What slices.Collect gives of an iterator, and what package burst's functions answer. Conditions: the slices' cells are bytes; the texts are no longer than 2^30 bytes. -/
import Derived.Test.YthmndfgafkpgdaaBurA
import Derived.Test.YthmndfgafkpgdaaIts
namespace Go.Proofs.Ythmndfgafkpgdaa
open Go.RowKit Go.Shelf

attribute [local go_sem] Oper.semAt_some

theorem infoI64 : (Try.prog.info? 3).map (fun i => (i.zero, i.size, i.bytes)) = some (some (.int .i64 0), 1, 8) := by kernel_rfl

set_option maxRecDepth 100000 in
set_option maxHeartbeats 1000000 in
theorem appendSeq_is (gf : Nat) (lb : Array Value) (eg : ∀ args w, (callFunc gf args).run Try.prog w = .ok (.enter gf args) w) (K : Nat → Prop) (total : List Int) (w : World)
    (hseq : SeqR Fence.wide 7 Try.prog gf lb (fun y : Int => .int .i64 y) K (fun xs => xs = total) (fun pre => pre <+: total) (fun p => p <+: total) w) (hK : ∀ k, K k → k < w.heap.size) (hlen : total.length ≤ 1099511627776) :
    Calls Try.prog 18 #[.slice none 0 0, .func (.func gf) #[] lb] w fun e w' => RetI w 3 total e w' := by
  obtain ⟨i0, hi, hz0, hz1, hz2⟩ := info_parts infoI64
  refine (callsIn_wide (n := 8)).1 ?_
  refine callsIn_of_wp_marks Try.func18 rfl trivial ?_ rfl
  simp only [Try.ntmps18, List.size_toArray, List.length_cons, List.length_nil, Nat.reduceAdd, Nat.reduceSub, Array.replicate_succ, Array.replicate_zero, List.push_toArray, List.append_toArray, List.nil_append, List.cons_append]
  have bO := Boxed.new w 26 (.slice none 0 0)
  have hB0 := (Below.refl w.heap.size w).alloc (Nat.le_refl _) (.cells #[.slice none 0 0] 26)
  obtain ⟨W0, hW0⟩ : ∃ W0, w.alloc (.cells #[.slice none 0 0] 26) = W0 := ⟨_, rfl⟩
  have hs0 : W0.heap.size = w.heap.size + 1 := by rw [← hW0]; simp
  rw [hW0] at bO hB0
  gi_wp2
  clear hW0
  refine wpIn_rangeR rfl (by decide) (gf := gf) (lb := lb) rfl trivial eg hseq hB0 (fun k hk => by have := hK k hk; omega) rfl
    (fun o pre W => (∃ v, Boxed W w.heap.size 26 v ∧ W.ownsRow w.heap.size 3 1 v pre.length (pre.map (Value.int .i64)) ∧ o = v.ownBlock) ∧ Below w.heap.size w W)
    (fun _ _ _ _ => False)
    (fun o => OwnFrom.and (Own.from (holdsRow_own w.heap.size w.heap.size 26 3 1 (fun pre : List Int => pre.length) (fun pre => pre.map (Value.int .i64)) (fun _ v => o = v.ownBlock)) _) (ownFrom_below (Nat.le_refl _) (by omega)))
    (fun _ _ _ _ _ _ hs _ _ => hs)
    (fun o xs W ⟨⟨v, _, hrow, ho⟩, _⟩ k hk => (World.ownsRow.lt hrow k (by rw [← ho]; exact hk)).2) none (fun _ _ h => by cases h) ⟨⟨_, bO, World.ownsRow_nil _ _ _ _, rfl⟩, hB0⟩
    (fun x => { tmps := #[.slice none 0 0, .func (.func gf) #[] lb, .pointer (some ⟨w.heap.size, 0, none⟩), undef, .slice none 0 0, .int .i64 x, .func (.func gf) #[] lb, .int .i64 x, undef, undef, undef, undef, undef], defers := [] }) ?assign ?body ?done ?stop
  case assign =>
    intro l2 x X Kc hKc
    gi_wp2
    exact hKc
  case body =>
    rintro l2 o pre x X ⟨⟨v, hv, hrow, rfl⟩, hB⟩ hT
    have hpl : pre.length + 1 ≤ total.length := by have := hT.length_le; simpa using this
    have hle := hB.size
    have hc0 := hv.cell
    gi_wp2_with (gi_at_builtin; refine wpListIn_append_next _ rfl _ _ 26 rfl w.heap.size 3 i0 (.int .i64 0) 8 Try.underlying26 hi hz0 hz1 hz2 rfl _ _ _ rfl (hrow.alloc _) ⟨X.heap.size, 0, none⟩ 1 (.int .i64 x) rfl (Boxed.new X _ _).cell (by simp [Value.oneCell']) (by unfold maxLen; omega) (by omega) (by simp; omega) ?_; intro v' w1 hown' hgrow hnext; obtain ⟨g', cap', rfl⟩ := ownsRow_succ hown'; obtain ⟨hv1, hv2, hr2, hk2, hb2⟩ := hv.appended (by decide) hrow hle (Nat.le_refl _) hown' hgrow; have hc1 := hv1.cell; have hf1 := hv1.frozen)
    exact ⟨_, calm_appended hgrow hnext ⟨fun h => by have := hK _ h; omega, by omega⟩, ⟨_, hv2, by simpa using hr2, rfl⟩, hB.trans hb2⟩
  case done =>
    rintro D o xs X hD rfl ⟨⟨v, hv, hrow, rfl⟩, hB⟩ hdef hne
    have hc0 := hv.cell
    gi_wp2
    refine ⟨by simp, .inl ⟨_, _, rfl, run_takeDeferred hdef, ?_⟩⟩
    exact ⟨v, results_tmp (t := 4) rfl _ _ _, v, rfl, ownsRow_putObj hrow _ hdef rfl, hB.trans (belowK_b (w := w) (Nat.le_refl _) X D _ _ (by omega) hdef rfl rfl)⟩
  case stop =>
    rintro D cd o pre X _ _ h _
    exact h.elim

theorem collect_is (gf : Nat) (lb : Array Value) (eg : ∀ args w, (callFunc gf args).run Try.prog w = .ok (.enter gf args) w) (K : Nat → Prop) (total : List Int) (w : World)
    (hseq : SeqR Fence.wide 7 Try.prog gf lb (fun y : Int => .int .i64 y) K (fun xs => xs = total) (fun pre => pre <+: total) (fun p => p <+: total) w) (hK : ∀ k, K k → k < w.heap.size) (hlen : total.length ≤ 1099511627776) :
    Calls Try.prog 13 #[.func (.func gf) #[] lb] w fun e w' => RetI w 3 total e w' := by
  have hc := appendSeq_is gf lb eg K total w hseq hK hlen
  clear hseq hK eg
  go_enter Try.func13, Try.ntmps13
  go_wp2_with (go_at_call 18; (with_reducible refine hc.mono ?_); rintro e w1 ⟨v, rfl, ho, hb⟩)
  go_ret
  exact ⟨v, rfl, ho, hb⟩

/-- The places at which two texts differ. -/
def placesOf (l m : List Int) : List Int := if l.length = m.length then diffs l m l.length else []
theorem diffs_len (l m : List Int) (n : Nat) : (diffs l m n).length ≤ 8 * n := by
  unfold diffs
  rw [List.length_map]
  exact Nat.le_trans (List.length_filter_le _ _) (by simp)

set_option maxHeartbeats 1000000 in
theorem burstPlaces_is (a a' : Option Addr) (n c n' c' : Nat) (l l' : List Int) (w : World) (hB : By w a n c l) (hB' : By w a' n' c' l') (hn : n ≤ 1073741824) (hn' : n' ≤ 1073741824) :
    Calls Try.prog 7 #[.slice a n c, .slice a' n' c'] w fun e w' => RetI w 3 (placesOf l l') e w' := by
  have hl := hB.len
  have hl' := hB'.len
  by_cases hnn : n = n'
  · subst hnn
    have E := Lib.hid (show placesOf l l' = diffs l l' n by unfold placesOf; rw [if_pos (by omega), hl])
    obtain ⟨W, hW⟩ : ∃ W, (w.alloc (.cells #[.slice a n c] 22)).alloc (.cells #[.slice a' n c'] 22) = W := ⟨_, rfl⟩
    have hb : Below w.heap.size w W := by rw [← hW]; exact ((Below.refl _ w).alloc (Nat.le_refl _) _).alloc (by simp) _
    have hs : W.heap.size = w.heap.size + 2 := by rw [← hW]; simp
    have c1 : W.cell? ⟨w.heap.size, 0, none⟩ = some (.slice a n c) := by rw [← hW]; exact ((Boxed.new w _ _).alloc _).cell
    have c2 : W.cell? ⟨w.heap.size + 1, 0, none⟩ = some (.slice a' n c') := by
      rw [← hW]; have := (Boxed.new (w.alloc (.cells #[.slice a n c] 22)) 22 (.slice a' n c')).cell; rwa [World.size_alloc] at this
    have HK : ∀ k, twoK w.heap.size (w.heap.size + 1) a a' n k → k < W.heap.size := by
      rintro q (rfl | rfl | ⟨h0, ⟨off, e⟩ | ⟨off, e⟩⟩)
      · omega
      · omega
      · have := hB.lt h0 _ _ e; omega
      · have := hB'.lt h0 _ _ e; omega
    have hc := collect_is 19 #[.pointer (some ⟨w.heap.size, 0, none⟩), .pointer (some ⟨w.heap.size + 1, 0, none⟩)] (enters_of Try.func19 (by kernel_rfl) rfl) _ _ W
      (burstDiffering_seq 7 _ _ n c c' a a' l l' W (by omega) hn (by omega) (by omega) c1 c2 (hB.keep hb (Nat.le_refl _)) (hB'.keep hb (Nat.le_refl _))) HK (by have := diffs_len l l' n; omega)
    have HB := Lib.hid hb
    have HS := Lib.hid hs
    clear hB hB' hl hl' c1 c2 HK hb hs
    go_enter Try.func7, Try.ntmps7
    go_wp2_with (first
      | (go_at_call 14; (with_reducible refine (burstDiffering_is a a' n c n c' _).mono ?_); rintro e w1 ⟨rfl, rfl⟩)
      | (go_at_call 13; (with_reducible refine hc.mono ?_); rintro e w2 ⟨v, rfl, ho, hb2⟩))
    go_ret
    exact ⟨v, rfl, by rw [E.out]; exact ho.mono HB.out.size, HB.out.trans (hb2.mono HB.out.size)⟩
  · have E := Lib.hid (show placesOf l l' = [] by unfold placesOf; rw [if_neg (by omega)])
    have hne : ((n : Int) != n') = true := by simp; omega
    clear hB hB' hl hl' hnn
    go_enter Try.func7, Try.ntmps7
    go_wp2
    go_ret
    exact ⟨_, rfl, by rw [E.out]; exact OwnI.nil _ _ _, Below.refl _ _⟩

/-- How far apart two texts differ. -/
def spanW (l m : List Int) : Int := if l.length = m.length then spanOf (diffs l m l.length) else -1

set_option maxRecDepth 100000 in
set_option maxHeartbeats 1000000 in
theorem burstSpan_is (a a' : Option Addr) (n c n' c' : Nat) (l l' : List Int) (w : World) (hB : By w a n c l) (hB' : By w a' n' c' l') (hn : n ≤ 1073741824) (hn' : n' ≤ 1073741824) :
    Calls Try.prog 9 #[.slice a n c, .slice a' n' c'] w fun e w' => e = .returned (.int .i64 (spanW l l')) ∧ Below w.heap.size w w' := by
  have hl := hB.len
  have hl' := hB'.len
  by_cases hnn : n = n'
  · subst hnn
    have E := Lib.hid (show spanW l l' = spanOf (diffs l l' n) by unfold spanW; rw [if_pos (by omega), hl])
    have b0 := (Boxed.new w 3 (.int .i64 0)).alloc (.cells #[.int .i64 0] 3)
    have b1 := Boxed.new (w.alloc (.cells #[.int .i64 0] 3)) 3 (.int .i64 0)
    rw [World.size_alloc] at b1
    have hb0 := ((Below.refl w.heap.size w).alloc (Nat.le_refl _) (.cells #[.int .i64 0] 3)).alloc (by simp) (.cells #[.int .i64 0] 3)
    obtain ⟨W0, hW0⟩ : ∃ W0, (w.alloc (.cells #[.int .i64 0] 3)).alloc (.cells #[.int .i64 0] 3) = W0 := ⟨_, rfl⟩
    have hs0 : W0.heap.size = w.heap.size + 2 := by rw [← hW0]; simp
    rw [hW0] at b0 b1 hb0
    have HW0 := Lib.hid hW0
    clear hW0
    refine (callsIn_wide (n := 8)).1 ?_
    refine callsIn_of_wp_marks Try.func9 rfl trivial ?_ rfl
    simp only [Try.ntmps9, List.size_toArray, List.length_cons, List.length_nil, Nat.reduceAdd, Nat.reduceSub, Array.replicate_succ, Array.replicate_zero, List.push_toArray, List.append_toArray, List.nil_append, List.cons_append]
    gi_wp2_with fail
    rw [HW0.out]
    refine ⟨trivial, (callsIn_wide.2 (burstDiffering_is a a' n c n c' W0)).mono ?_⟩
    rintro e W ⟨rfl, hW⟩
    rw [hs0]
    have hb : Below w.heap.size w W := by rw [← hW]; exact (hb0.alloc (by omega) _).alloc (by simp; omega) _
    have hs : W.heap.size = w.heap.size + 4 := by rw [← hW]; simp; omega
    have c1 : W.cell? ⟨w.heap.size + 2, 0, none⟩ = some (.slice a n c) := by rw [← hW, ← hs0]; exact ((Boxed.new W0 _ _).alloc _).cell
    have c2 : W.cell? ⟨w.heap.size + 3, 0, none⟩ = some (.slice a' n c') := by
      rw [← hW]; have := (Boxed.new (W0.alloc (.cells #[.slice a n c] 22)) 22 (.slice a' n c')).cell; rwa [World.size_alloc, hs0] at this
    have b2 : Boxed W w.heap.size 3 (.int .i64 0) := by rw [← hW]; exact (b0.alloc _).alloc _
    have b3 : Boxed W (w.heap.size + 1) 3 (.int .i64 0) := by rw [← hW]; exact (b1.alloc _).alloc _
    have HK : ∀ k, twoK (w.heap.size + 2) (w.heap.size + 3) a a' n k → k < W.heap.size ∧ k ≠ w.heap.size ∧ k ≠ w.heap.size + 1 := by
      rintro q (rfl | rfl | ⟨h0, ⟨off, e⟩ | ⟨off, e⟩⟩)
      · omega
      · omega
      · have := hB.lt h0 _ _ e; omega
      · have := hB'.lt h0 _ _ e; omega
    have hBW := hB.keep hb (Nat.le_refl _)
    have hBW' := hB'.keep hb (Nat.le_refl _)
    clear hW HW0 hB hB' b0 b1 hb0
    gi_wp2
    refine wpIn_rangeR rfl (by decide) (gf := 19) (lb := #[.pointer (some ⟨w.heap.size + 2, 0, none⟩), .pointer (some ⟨w.heap.size + 3, 0, none⟩)]) rfl trivial (enters_of Try.func19 (by kernel_rfl) rfl)
      (burstDiffering_seq 7 _ _ n c c' a a' l l' W (by omega) hn (by omega) (by omega) c1 c2 hBW hBW') (Below.refl _ _) (fun k hk => (HK k hk).1) rfl
      (fun o pre X => (o = none ∧ Boxed X w.heap.size 3 (.int .i64 (pre.headD 0)) ∧ Boxed X (w.heap.size + 1) 3 (.int .i64 (spanOf pre))) ∧ Below w.heap.size w X)
      (fun _ _ _ _ => False)
      (fun o => OwnFrom.and (OwnFrom.and (ownFrom_pure _ (fun _ => o = none)) (OwnFrom.and (Own.from (boxed_own _ _ _) _) (Own.from (boxed_own _ _ _) _))) (ownFrom_below (Nat.le_refl _) (by omega)))
      (fun _ _ _ _ _ _ hs _ _ => hs)
      (fun o xs X h k hk => by rw [h.1.1] at hk; cases hk) none (fun _ _ h => by cases h) ⟨⟨rfl, b2, b3⟩, hb⟩
      (fun x => { tmps := #[.slice a n c, .slice a' n c', undef, undef, .int .i64 0, .pointer (some ⟨w.heap.size, 0, none⟩), .pointer (some ⟨w.heap.size + 1, 0, none⟩), .int .i64 x, .slice a n c, .int .i64 n, .slice a' n c', .int .i64 n, .bool false, .slice a n c, .slice a' n c',
        .func (.func 19) #[] #[.pointer (some ⟨w.heap.size + 2, 0, none⟩), .pointer (some ⟨w.heap.size + 3, 0, none⟩)], .int .i64 x, undef, undef, undef, undef, undef, undef, undef, undef], defers := [] }) ?assign ?body ?done ?stop
    case assign =>
      intro l2 x X Kc hKc
      gi_wp2
      exact hKc
    case body =>
      rintro l2 o pre x X ⟨⟨rfl, d0, d1⟩, hB⟩ hT
      obtain ⟨j, rfl, hj, -⟩ := mem_diffs.1 (mem_pre hT)
      have hle := hB.size
      have q0 := d0.cell
      have q1 := d1.cell
      have f0 := d0.frozen
      have f1 := d1.frozen
      have hrise := (diffs_rise l l' n).sublist hT.sublist
      have hcalm : ∀ (Y : World) (u : Value) (b : Nat), (b = w.heap.size ∨ b = w.heap.size + 1) → Calm (twoK (w.heap.size + 2) (w.heap.size + 3) a a' n) W.heap.size none none Y (Y.setCell ⟨b, 0, none⟩ u) := fun Y u b hb' =>
        Calm.of_grown (grownBy_setCell' Y b u) (fun k e _ => by
          cases e
          refine ⟨fun h => ?_, by omega⟩
          have := HK _ h
          omega)
      rcases pre with _ | ⟨y, t⟩
      · have hz : ((0 : Int) == 0) = true := rfl
        have D1 := Lib.hid (((d0.set (.int .i64 j)).other (B' := w.heap.size + 1) (by omega) (.int .i64 1)))
        have D2 := Lib.hid ((d1.other (B' := w.heap.size) (by omega) (.int .i64 j)).set (.int .i64 1))
        simp only [spanOf, List.headD_nil, if_true] at q0 q1
        have HB := Lib.hid hB
        clear hB d0 d1 hT hrise
        gi_wp2
        have e1 : spanOf ([] ++ [(j : Int)]) = 1 := by simp [spanOf]
        exact ⟨none, (hcalm X _ _ (.inl rfl)).trans (hcalm _ _ _ (.inr rfl)), ⟨rfl, D1.out, by rw [e1]; exact D2.out⟩, (HB.out.setCell (p := ⟨w.heap.size, 0, none⟩) (Nat.le_refl _) _).setCell (p := ⟨w.heap.size + 1, 0, none⟩) (by simp) _⟩
      · have hm := mem_diffs.1 ((List.IsPrefix.subset hT) (show y ∈ y :: t ++ [(j : Int)] by simp))
        obtain ⟨i, rfl, hi, -⟩ := hm
        have hij := rise_head hrise
        have hsp := span_len (hrise.sublist (List.sublist_append_left _ _))
        have hz : (spanOf ((i : Int) :: t) == 0) = false := by simp at hsp ⊢; omega
        have e1 := spanOf_snoc ((i : Int) :: t) j
        simp only [List.cons_append, List.headD_cons] at hij e1 q0
        have hij' : i ≤ j := by omega
        have D1 := Lib.hid (d0.other (B' := w.heap.size + 1) (by omega) (.int .i64 (1 + j - i)))
        have D2 := Lib.hid (d1.set (.int .i64 (1 + j - i)))
        have HB := Lib.hid hB
        have HE := Lib.hid e1
        clear hB d0 d1 hT hrise hij e1 hsp
        generalize spanOf ((i : Int) :: t) = s at *
        gi_wp2
        exact ⟨none, hcalm X _ _ (.inr rfl), ⟨rfl, D1.out, by rw [List.cons_append, HE.out]; exact D2.out⟩, HB.out.setCell (p := ⟨w.heap.size + 1, 0, none⟩) (by simp) _⟩
    case done =>
      rintro D o xs X hD rfl ⟨⟨rfl, d0, d1⟩, hB⟩ hdef hne
      have q1 := d1.cell
      gi_wp2
      refine ⟨by simp, .inl ⟨_, _, rfl, run_takeDeferred hdef, ?_⟩⟩
      exact ⟨_, results_tmp (t := 4) rfl _ _ _, by rw [E.out]; rfl, hB.trans (belowK_b (w := w) (Nat.le_refl _) X D _ _ (by omega) hdef rfl rfl)⟩
    case stop =>
      rintro D cd o pre X _ _ h _
      exact h.elim
  · have E := Lib.hid (show spanW l l' = -1 by unfold spanW; rw [if_neg (by omega)])
    have hne : ((n : Int) != n') = true := by simp; omega
    clear hB hB' hl hl' hnn
    go_enter Try.func9, Try.ntmps9
    go_wp2
    go_ret
    exact ⟨by rw [E.out]; rfl, Below.refl _ _⟩
end Go.Proofs.Ythmndfgafkpgdaa
