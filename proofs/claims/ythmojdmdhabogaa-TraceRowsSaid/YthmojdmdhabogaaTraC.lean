/- How rows are held against one another: cmp.Or of two, by place and address, by cost. Conditions: none. -/
import Derived.Test.YthmojdmdhabogaaProg
import Derived.Test.YthmojdmdhabogaaTraH
import Derived.Test.YthmojdmdhabogaaShelf
import Derived.Test.YthmojdmdhabogaaShelfH
import Derived.WalkKit
import Derived.Handy
import Derived.Lib.Hide
import Derived.Deep.QuietTactic
import Derived.Deep.RegionHeld3
import Derived.BigQuiet
import Derived.Outline
import Derived.WalkSmall
namespace Go.Proofs.Ythmojdmdhabogaa
open Go.RowKit Go.IntWalk Go.Sort Go.Shelf

/-- Behind calls that only make new memory, or draw: the world, as the library's sort wants it. -/
theorem grew_of {W w' : World} (h : Below W.heap.size W w') (hd : W.drawn ≤ w'.drawn) : ∃ q os, w' = grow (W.drewN q) os := by
  refine ⟨w'.drawn - W.drawn, w'.heap.extract W.heap.size w'.heap.size, ?_⟩
  have hheap : w'.heap = W.heap ++ w'.heap.extract W.heap.size w'.heap.size := by
    apply Array.ext_getElem?
    intro k
    by_cases hk : k < W.heap.size
    · rw [Array.getElem?_append_left hk, h.block k hk]
    · rw [Array.getElem?_append_right (by omega), Array.getElem?_extract]
      by_cases hk2 : k < w'.heap.size
      · rw [if_pos (by have := h.size; omega), show W.heap.size + (k - W.heap.size) = k by omega]
      · rw [if_neg (by omega), Array.getElem?_eq_none (by omega)]
  cases w' with
  | mk a b c d e =>
    have h1 := h.os
    have h2 := h.tape
    have h3 := h.output
    simp only at h1 h2 h3 hd hheap
    subst h1 h2 h3
    have hc : c = W.drawn + (c - W.drawn) := by omega
    unfold grow World.drewN
    rw [World.mk.injEq]
    exact ⟨hheap, rfl, hc, rfl, rfl⟩

/-- The first of two numbers that is not 0. -/
def orI (x y : Int) : Int := if x = 0 then y else x
set_option maxHeartbeats 1000000 in
theorem cmpOr_is (b : Nat) (x y : Int) (w : World) (c0 : w.cell? ⟨b, 0, none⟩ = some (.int .i64 x)) (c1 : w.cell? ⟨b, 1, none⟩ = some (.int .i64 y)) :
    Calls Try.prog 31 #[.slice (some ⟨b, 0, none⟩) 2 2] w fun e w' => e = .returned (.int .i64 (orI x y)) ∧ w = w' := by
  by_cases h : x = 0
  · have h1 : (x != 0) = false := by simpa using h
    have HO := Lib.hid (show orI x y = y by unfold orI; rw [if_pos h])
    clear h
    by_cases h' : y = 0
    · have h2 : (y != 0) = false := by simpa using h'
      have HY := Lib.hid h'
      clear h'
      go_enter Try.func31, Try.ntmps31
      go_wp2
      refine wp_loop_rounds 3 ?_
      rw [rounds_succ]
      go_wp2
      rw [rounds_succ]
      go_wp2
      rw [rounds_succ]
      go_wp2
      go_ret
      exact ⟨retI (HO.out.trans HY.out).symm, rfl⟩
    · have h2 : (y != 0) = true := by simpa using h'
      clear h'
      go_enter Try.func31, Try.ntmps31
      go_wp2
      refine wp_loop_rounds 3 ?_
      rw [rounds_succ]
      go_wp2
      rw [rounds_succ]
      go_wp2
      go_ret
      exact ⟨retI HO.out.symm, rfl⟩
  · have h1 : (x != 0) = true := by simpa using h
    have HO := Lib.hid (show orI x y = x by unfold orI; rw [if_neg h])
    clear h
    go_enter Try.func31, Try.ntmps31
    go_wp2
    refine wp_loop_rounds 3 ?_
    rw [rounds_succ]
    go_wp2
    go_ret
    exact ⟨retI HO.out.symm, rfl⟩

/-- By place, then by address. -/
def kCmp (x y : Ht) : Int := orI (Lib.compareInt x.1 y.1) (Lib.compareInt x.2.1 y.2.1)
/-- By cost, the most first, then by place and address. -/
def cCmp (x y : Ht) : Int := orI (Lib.compareInt y.2.2.2 x.2.2.2) (kCmp x y)
theorem cmpI_lt (x y : Int) : Lib.compareInt x y < 0 ↔ x < y := by unfold Lib.compareInt; split <;> (try split) <;> omega
theorem cmpI_eq (x y : Int) : Lib.compareInt x y = 0 ↔ x = y := by unfold Lib.compareInt; split <;> (try split) <;> omega
theorem orI_lt (x y u : Int) : orI (Lib.compareInt x y) u < 0 ↔ x < y ∨ (x = y ∧ u < 0) := by
  unfold orI
  have h1 := cmpI_lt x y
  have h2 := cmpI_eq x y
  split <;> omega
theorem kCmp_lt (x y : Ht) : ltOf kCmp x y = hLt x y := by
  have h : kCmp x y < 0 ↔ hLt x y = true := by
    unfold kCmp hLt
    rw [orI_lt, kLt_iff, cmpI_lt]
    rfl
  unfold ltOf
  by_cases e : kCmp x y < 0
  · rw [decide_eq_true e, h.1 e]
  · rw [decide_eq_false e]
    cases k : hLt x y with
    | false => rfl
    | true => exact absurd (h.2 k) e
theorem cCmp_lt (x y : Ht) : ltOf cCmp x y = cLt x y := by
  have hk : kCmp x y < 0 ↔ kLt (hKy x) (hKy y) = true := by
    unfold kCmp
    rw [orI_lt, kLt_iff, cmpI_lt]
    rfl
  have h : cCmp x y < 0 ↔ cLt x y = true := by
    unfold cCmp
    rw [orI_lt, cLt_iff, hk]
    constructor
    · rintro (h | ⟨h1, h2⟩)
      · exact .inl h
      · exact .inr ⟨h1.symm, h2⟩
    · rintro (h | ⟨h1, h2⟩)
      · exact .inl h
      · exact .inr ⟨h1.symm, h2⟩
  unfold ltOf
  by_cases e : cCmp x y < 0
  · rw [decide_eq_true e, h.1 e]
  · rw [decide_eq_false e]
    cases k : cLt x y with
    | false => rfl
    | true => exact absurd (h.2 k) e
theorem hLt_swo : SWO (ltOf kCmp) := by
  refine ⟨fun x => ?_, fun x y z h1 h2 => ?_, fun x y z h1 h2 => ?_⟩
  · rw [kCmp_lt]; exact kLt_tot.irr _
  · rw [kCmp_lt] at *; exact kLt_tot.tr _ _ _ h1 h2
  · rw [kCmp_lt] at *
    unfold hLt at *
    rw [kLt_not] at *
    omega
theorem cLt_swo : SWO (ltOf cCmp) := by
  refine ⟨fun x => ?_, fun x y z h1 h2 => ?_, fun x y z h1 h2 => ?_⟩
  · rw [cCmp_lt, cLt_not, kLt_iff]; omega
  · rw [cCmp_lt, cLt_iff, kLt_iff] at *; omega
  · rw [cCmp_lt] at *; exact cLt_trans (a := z) (b := y) (c := x) h2 h1

/-- Behind such calls. -/
def GrA (w w' : World) : Prop := Below w.heap.size w w' ∧ w.drawn ≤ w'.drawn
theorem GrA.bel {w w' : World} (h : GrA w w') : Below w.heap.size w w' := h.1
theorem GrA.grew {w w' : World} (h : GrA w w') : ∃ q os, w' = grow (w.drewN q) os := grew_of h.1 h.2
/-- Two rows in boxes, the cells of places a and b. -/
abbrev TwoB (w : World) (x y : Ht) (w' : World) : Prop :=
  (w'.cell? ⟨w.heap.size, 0, none⟩ = some (.int .i64 x.1) ∧ w'.cell? ⟨w.heap.size, 1, none⟩ = some (.int .i64 x.2.1) ∧ w'.cell? ⟨w.heap.size, 2, none⟩ = some (.int .i64 x.2.2.1) ∧ w'.cell? ⟨w.heap.size, 3, none⟩ = some (.int .i64 x.2.2.2)) ∧
  (w'.cell? ⟨w.heap.size + 1, 0, none⟩ = some (.int .i64 y.1) ∧ w'.cell? ⟨w.heap.size + 1, 1, none⟩ = some (.int .i64 y.2.1) ∧ w'.cell? ⟨w.heap.size + 1, 2, none⟩ = some (.int .i64 y.2.2.1) ∧ w'.cell? ⟨w.heap.size + 1, 3, none⟩ = some (.int .i64 y.2.2.2)) ∧
  Below w.heap.size w w' ∧ w.heap.size + 2 ≤ w'.heap.size ∧ w.drawn ≤ w'.drawn
theorem twoB_on {w w1 w2 : World} {x y : Ht} (h : TwoB w x y w1) (k : Below w1.heap.size w1 w2) (hd : w1.drawn ≤ w2.drawn) : TwoB w x y w2 := by
  obtain ⟨⟨a0, a1, a2, a3⟩, ⟨b0, b1, b2, b3⟩, hb, hs, hq⟩ := h
  have e0 : w.heap.size < w1.heap.size := by omega
  have e1 : w.heap.size + 1 < w1.heap.size := by omega
  exact ⟨⟨(k.cell (p := ⟨_, 0, none⟩) e0).trans a0, (k.cell (p := ⟨_, 1, none⟩) e0).trans a1, (k.cell (p := ⟨_, 2, none⟩) e0).trans a2, (k.cell (p := ⟨_, 3, none⟩) e0).trans a3⟩,
    ⟨(k.cell (p := ⟨_, 0, none⟩) e1).trans b0, (k.cell (p := ⟨_, 1, none⟩) e1).trans b1, (k.cell (p := ⟨_, 2, none⟩) e1).trans b2, (k.cell (p := ⟨_, 3, none⟩) e1).trans b3⟩, hb.trans (k.mono (by omega)), Nat.le_trans hs k.size, Nat.le_trans hq hd⟩
theorem twoB_start (w : World) (x y : Ht) (T : TypeId) : TwoB w x y ((w.alloc (.cells #[.int .i64 x.1, .int .i64 x.2.1, .int .i64 x.2.2.1, .int .i64 x.2.2.2] T)).alloc (.cells #[.int .i64 y.1, .int .i64 y.2.1, .int .i64 y.2.2.1, .int .i64 y.2.2.2] T)) :=
  ⟨⟨by go_cell, by go_cell, by go_cell, by go_cell⟩, ⟨by go_cell, by go_cell, by go_cell, by go_cell⟩, ((Below.refl _ _).alloc (Nat.le_refl _) _).alloc (by simp) _, by simp, Nat.le_refl _⟩
theorem twoB_al {w W : World} {x y : Ht} (h : TwoB w x y W.drew) (o : Obj) : TwoB w x y (W.alloc o).drew :=
  twoB_on (w2 := W.drew.alloc o) h ((Below.refl _ _).alloc (Nat.le_refl _) _) (Nat.le_refl _)
theorem cmpOr_al (x y : Int) (T : TypeId) (W : World) : Calls Try.prog 31 #[.slice (some ⟨W.heap.size, 0, none⟩) 2 2] (W.alloc (.cells #[.int .i64 x, .int .i64 y] T)).drew fun e w' => e = .returned (.int .i64 (orI x y)) ∧ (W.alloc (.cells #[.int .i64 x, .int .i64 y] T)).drew = w' :=
  cmpOr_is _ _ _ _ (by go_cell) (by go_cell)
set_option maxHeartbeats 1000000 in
theorem bySpot_is (x y : Ht) (w : World) : Calls Try.prog 29 #[.agg #[.int .i64 x.1, .int .i64 x.2.1, .int .i64 x.2.2.1, .int .i64 x.2.2.2], .agg #[.int .i64 y.1, .int .i64 y.2.1, .int .i64 y.2.2.1, .int .i64 y.2.2.2]] w fun e w' => e = .returned (.int .i64 (kCmp x y)) ∧ GrA w w' := by
  have hq := twoB_start w x y 40
  go_enter Try.func29, Try.ntmps29
  go_wp2
  obtain ⟨W, hW⟩ : ∃ W, ((w.alloc (.cells #[.int .i64 x.1, .int .i64 x.2.1, .int .i64 x.2.2.1, .int .i64 x.2.2.2] 40)).alloc (.cells #[.int .i64 y.1, .int .i64 y.2.1, .int .i64 y.2.2.1, .int .i64 y.2.2.2] 40)) = W := ⟨_, rfl⟩
  rw [hW] at hq ⊢
  clear hW
  have q0 : TwoB w x y W.drew := twoB_on hq (Below.refl _ _).drew (by show W.drawn ≤ W.drawn + 1; omega)
  clear hq
  go_region_held3 (fun w' => TwoB w x y w')
    (first | with_reducible assumption | with_reducible exact twoB_al q0 _)
    (first
      | (go_at_call 32; ((with_reducible refine (cmp_Compare_int _ _ _).mono ?_); rintro e w1 ⟨rfl, rfl⟩))
      | (go_at_call 31; ((with_reducible refine (cmpOr_al _ _ _ _).mono ?_); rintro e w1 ⟨rfl, rfl⟩)))
  all_goals
    go_wp2
    go_ret
    exact ⟨retI rfl, (twoB_al q0 _).2.2.1, (twoB_al q0 _).2.2.2.2⟩
theorem twoB_al' {w W : World} {x y : Ht} (h : TwoB w x y W) (o : Obj) : TwoB w x y (W.alloc o) := twoB_on h ((Below.refl _ _).alloc (Nat.le_refl _) _) (Nat.le_refl _)
theorem cmpOr_al' (x y : Int) (T : TypeId) (W : World) : Calls Try.prog 31 #[.slice (some ⟨W.heap.size, 0, none⟩) 2 2] (W.alloc (.cells #[.int .i64 x, .int .i64 y] T)) fun e w' => e = .returned (.int .i64 (orI x y)) ∧ W.alloc (.cells #[.int .i64 x, .int .i64 y] T) = w' :=
  cmpOr_is _ _ _ _ (by go_cell) (by go_cell)
set_option maxHeartbeats 1000000 in
theorem topCmp_is (x y : Ht) (w : World) : Calls Try.prog 30 #[.agg #[.int .i64 x.1, .int .i64 x.2.1, .int .i64 x.2.2.1, .int .i64 x.2.2.2], .agg #[.int .i64 y.1, .int .i64 y.2.1, .int .i64 y.2.2.1, .int .i64 y.2.2.2]] w fun e w' => e = .returned (.int .i64 (cCmp x y)) ∧ GrA w w' := by
  have hq := twoB_start w x y 40
  go_enter Try.func30, Try.ntmps30
  go_wp2
  obtain ⟨W, hW⟩ : ∃ W, ((w.alloc (.cells #[.int .i64 x.1, .int .i64 x.2.1, .int .i64 x.2.2.1, .int .i64 x.2.2.2] 40)).alloc (.cells #[.int .i64 y.1, .int .i64 y.2.1, .int .i64 y.2.2.1, .int .i64 y.2.2.2] 40)) = W := ⟨_, rfl⟩
  rw [hW] at hq ⊢
  clear hW
  have q0 : TwoB w x y W.drew := twoB_on hq (Below.refl _ _).drew (by show W.drawn ≤ W.drawn + 1; omega)
  clear hq
  go_region_held3 (fun w' => TwoB w x y w')
    (first | with_reducible assumption | with_reducible exact twoB_al' (by assumption) _)
    (first
      | (go_at_call 32; ((with_reducible refine (cmp_Compare_int _ _ _).mono ?_); rintro e w1 ⟨rfl, rfl⟩))
      | (go_at_call 29; ((with_reducible refine (bySpot_is x y _).mono ?_); rintro e w1 ⟨rfl, hk⟩); have hS := twoB_on (by assumption) hk.1 hk.2)
      | (go_at_call 31; ((with_reducible refine (cmpOr_al' _ _ _ _).mono ?_); rintro e w1 ⟨rfl, rfl⟩)))
  all_goals
    go_wp2
    go_ret
    refine ⟨retI rfl, ?_, ?_⟩
    · exact (twoB_al' (W := w1) (w := w) (x := x) (y := y) (by assumption) _).2.2.1
    · exact (twoB_al' (W := w1) (w := w) (x := x) (y := y) (by assumption) (.cells #[] 0)).2.2.2.2

/-! ### The library's sort, by these -/
theorem perm_list {d d' : Array Ht} (h : PermIn 0 d.size d d') : d'.toList.Perm d.toList := by
  have := h.2.2
  rw [show d.extract 0 d.size = d by simp, show d'.extract 0 d.size = d' by rw [← h.1]; simp] at this
  exact this
theorem sorted_list {lt : Ht → Ht → Bool} {d : Array Ht} {n : Nat} (hn : n = d.size) (h : SortedIn lt 0 n d) : d.toList.Pairwise fun a b => lt b a = false := by
  subst hn
  rw [List.pairwise_iff_getElem]
  intro i j hi hj hij
  have := h i j (Nat.zero_le _) hij (by simpa using hj)
  rw [getElem!_pos d j (by simpa using hj), getElem!_pos d i (by simpa using hi)] at this
  simpa using this
theorem htSort_is {cf : Ht → Ht → Int} (hO : SWO (ltOf cf)) {f : Nat} (eg : ∀ args w, (callFunc f args).run Try.prog w = .ok (.enter f args) w)
    (hc : ∀ (x y : Ht) (w : World), Calls Try.prog f #[.agg #[.int .i64 x.1, .int .i64 x.2.1, .int .i64 x.2.2.1, .int .i64 x.2.2.2], .agg #[.int .i64 y.1, .int .i64 y.2.1, .int .i64 y.2.2.1, .int .i64 y.2.2.2]] w fun e w' => e = .returned (.int .i64 (cf x y)) ∧ GrA w w')
    {w : World} {base : Nat} {e : TypeId} {v : Value} {l : List Ht} (h : OwnHt w base e v l) (hl : l.length ≤ 1048576) :
    Calls Try.prog 28 #[v, .func (.func f) #[] #[]] w fun r w' => r = .returned (.tuple #[]) ∧ ∃ d : List Ht, d.Perm l ∧ (d.Pairwise fun a b => ltOf cf b a = false) ∧ OwnHt w' base e v d ∧ w.grownBy w' v.ownBlock := by
  rcases Nat.eq_zero_or_pos l.length with h0 | h0
  · obtain rfl : l = [] := List.eq_nil_of_length_eq_zero h0
    obtain ⟨a, c, rfl, hat⟩ := h.at
    have hcon := AnyF.slices_SortFunc_none sortHt a c (.func (.func f) #[] #[]) w
    change Calls Try.prog 28 _ _ _ at hcon
    refine hcon.mono ?_
    rintro r w' ⟨rfl, rfl⟩
    exact ⟨rfl, [], .refl _, List.Pairwise.nil, h, ⟨rfl, rfl, rfl, Nat.le_refl _, fun _ _ _ => rfl⟩⟩
  · obtain ⟨g, cap, rfl, hb, hg, h1, h2⟩ := h.form rfl h0
    have hcon := AnyQ.slices_SortFunc sortHt 4 Try.isAgg40 Try.sizeOf40 htV (fun _ => rfl) (fun x u hu => htK.ones x u hu) cf hO f #[] g 0 cap l.toArray w eg
      (fun m os dk _ x y => ((hc x y (sortWorldK htV 4 w g 0 m dk os)).mono fun e w' ⟨he, hk⟩ => ⟨he, hk.grew⟩)) (h.holds rfl) hg (by simp; omega)
    change Calls Try.prog 28 _ _ _ at hcon
    have hsz : l.toArray.size = l.length := by simp
    rw [hsz] at hcon
    refine hcon.mono ?_
    rintro r w' ⟨rfl, d', q, os, hp, hs, hw⟩
    rw [← hsz] at hp
    have hlen : d'.toList.length = l.length := by have := hp.1; simp at this; simpa using this
    obtain ⟨o1, o2⟩ := OwnEl.sorted (K := htK) (d := d'.toList) h rfl hlen hw
    exact ⟨rfl, d'.toList, by simpa using perm_list hp, sorted_list (by simpa using hlen.symm) hs, o1, o2⟩
theorem sortSpot_is {w : World} {base : Nat} {e : TypeId} {v : Value} {l : List Ht} (m : List Mk) (h : OwnHt w base e v l) (hl : l.length ≤ 1048576) (hm : l = gRows m) :
    Calls Try.prog 28 #[v, .func (.func 29) #[] #[]] w fun r w' => r = .returned (.tuple #[]) ∧ OwnHt w' base e v (tRows m) ∧ w.grownBy w' v.ownBlock :=
  (htSort_is hLt_swo (enters_of Try.func29 (by kernel_rfl) rfl) bySpot_is h hl).mono fun r w' ⟨hr, d, hp, hs, ho, hg⟩ =>
    ⟨hr, by rw [rows_sorted (l := m) (d := d) (hm ▸ hp) (hs.imp fun {a b} q => by rwa [kCmp_lt] at q)] at ho; exact ho, hg⟩
theorem sortCost_is {w : World} {base : Nat} {e : TypeId} {v : Value} {l : List Ht} (m : List Mk) (h : OwnHt w base e v l) (hl : l.length ≤ 1048576) (hm : l = gRows m) :
    Calls Try.prog 28 #[v, .func (.func 30) #[] #[]] w fun r w' => r = .returned (.tuple #[]) ∧ OwnHt w' base e v (tMost m) ∧ w.grownBy w' v.ownBlock :=
  (htSort_is cLt_swo (enters_of Try.func30 (by kernel_rfl) rfl) topCmp_is h hl).mono fun r w' ⟨hr, d, hp, hs, ho, hg⟩ =>
    ⟨hr, by rw [most_sorted (l := m) (d := d) (hm ▸ hp) (hs.imp fun {a b} q => by rwa [cCmp_lt] at q)] at ho; exact ho, hg⟩
end Go.Proofs.Ythmojdmdhabogaa
