/- The document's graph: lists held against one another, Loop; awake. Conditions: words are words; no more than 60 of them. -/
import Derived.Test.YtggiaopdgijgnaaGreatDoorGrdA
import Derived.Test.YtggiaopdgijgnaaGreatDoorSeq
namespace Go.Proofs.YtggiaopdgijgnaaGreatDoor
open Go.RowKit

open Go.RowKit Go.IntWalk

/-! ### Bools, Fixes -/
theorem eq_fix (a b : Int) (w : World) : Sem.run Tryz.prog (Op.equalIn 10000 49 (.agg #[.int .i64 a, .int .i64 b]) (.agg #[.int .i64 a, .int .i64 b])) w = .ok true w := by
  rw [run_equalIn_struct w 9999 49 _ _ (by kernel_rfl) (by kernel_rfl)]
  have hu := Tryz.underlying49
  simp only [Program.fieldsOf, hu]
  go_simp
theorem FixAt.lie2 {w : World} {a : Option Addr} {n c : Nat} {l : List (Int × Int)} (h : ElAt fixK w a n c l) (hn : 0 < n) : ∃ b off, a = some ⟨b, off, none⟩ ∧ ∀ i, i < n → w.cell? ⟨b, off + i * 2, none⟩ = some (.int .i64 (el l i).1) ∧ w.cell? ⟨b, off + i * 2 + 1, none⟩ = some (.int .i64 (el l i).2) := by
  obtain ⟨b, off, e, hc⟩ := h.lie hn
  exact ⟨b, off, e, fun i hi => ⟨hc i hi 0 (by decide), hc i hi 1 (by decide)⟩⟩
set_option maxHeartbeats 1000000 in
theorem refFixes_is {a a' : Option Addr} {n c c' : Nat} {l : List (Int × Int)} {w : World} (hB : ElAt fixK w a n c l) (hB' : ElAt fixK w a' n c' l) :
    Calls Tryz.prog 15 #[.slice a n c, .slice a' n c'] w fun e w' => e = .returned (.bool true) ∧ Below w.heap.size w w' := by
  have hcap := hB.cap
  have hbig := hB.big
  have hcap' := hB'.cap
  have hbig' := hB'.big
  unfold maxLen at hbig hbig'
  have HB := Lib.hid hB
  have HB' := Lib.hid hB'
  clear hB hB'
  go_enter Tryz.func15, Tryz.ntmps15
  go_wp2
  go_loopw [5] (fun i wr => ∃ k : Nat, k ≤ n ∧ i = .int .i64 k ∧ Below w.heap.size w wr) (fun i _ => n - (intOf i).toNat)
  case atStart => exact ⟨0, by omega, rfl, Below.refl _ _⟩
  case round =>
    obtain ⟨k, hk, rfl, hb⟩ := hrel
    have Hb := Lib.hid hb
    by_cases hlt : k < n
    · obtain ⟨b, off, rfl, h1⟩ := FixAt.lie2 (HB.out.keep hb) (by omega)
      obtain ⟨b', off', rfl, h2⟩ := FixAt.lie2 (HB'.out.keep hb) (by omega)
      obtain ⟨c0, c1⟩ := h1 k hlt
      obtain ⟨d0, d1⟩ := h2 k hlt
      have hlt' : (k : Int) < n := by omega
      generalize (el l k).1 = y0 at *
      generalize (el l k).2 = y1 at *
      have hE := eq_fix y0 y1
      clear hb h1 h2
      go_wp2
      go_quiet (fail)
      go_wp2
      go_roundw
      case rel => exact ⟨k + 1, by omega, by go_num, below_drewN Hb.out _⟩
      case measure => simp [intOf]; omega
    · obtain rfl : k = n := by omega
      clear hb
      go_wp2
      go_ret
      exact ⟨rfl, Hb.out⟩

/-! ### A loop, as the document tells it -/
noncomputable def tstB (l : List Int) (h : Int) (p : Nat) (b : Int × Int) : Bool :=
  decide (b.2 = h) && (rchB l p && (decide ((p : Int) = h) || (decide (b.1 = (p : Int)) || cameB (nxN l) (mvW h) [p] b.1.toNat)))
noncomputable def isB (l : List Int) (h : Int) (p : Nat) : Bool := (backsL l).any (tstB l h p)
theorem backs_mem {l : List Int} {b : Int × Int} : b ∈ backsL l ↔ ∃ p q : Nat, b = ((p : Int), (q : Int)) ∧ q ∈ nxN l p ∧ rchB l p = true ∧ aheadB l q p = true := by
  unfold backsL
  rw [List.mem_flatMap]
  constructor
  · rintro ⟨p, hp, hb⟩
    unfold backsP at hb
    obtain ⟨q, hq, rfl⟩ := List.mem_map.1 hb
    have h1 := List.mem_filter.1 hq
    exact ⟨p, q, rfl, h1.1, (List.mem_filter.1 hp).2, h1.2⟩
  · rintro ⟨p, q, rfl, h1, h2, h3⟩
    refine ⟨p, List.mem_filter.2 ⟨List.mem_range.2 (came_lt (cameB_iff.1 h2)), h2⟩, ?_⟩
    unfold backsP
    exact List.mem_map.2 ⟨q, List.mem_filter.2 ⟨h1, h3⟩, rfl⟩
theorem last_mem {l : List Int} {k p : Nat} : p ∈ lastN l k ↔ k ∈ nxN l p ∧ rchB l p = true ∧ aheadB l k p = true := by
  unfold lastN
  rw [List.mem_filter, Int.toNat_natCast, backN_mem]
  unfold lastB
  rw [Bool.and_eq_true]
  constructor
  · rintro ⟨h1, h2, h3⟩
    refine ⟨h1, h2, ?_⟩
    rw [ahead_far (came_lt (cameB_iff.1 h2)) h2]
    exact h3
  · rintro ⟨h1, h2, h3⟩
    refine ⟨h1, h2, ?_⟩
    rw [ahead_far (came_lt (cameB_iff.1 h2)) h2] at h3
    exact h3
theorem came_pre {N : Nat → List Nat} {mv : Nat → Bool} {q q' x : Nat} (hq : q ∈ N q') (hm : mv q' = true) (h : Gra.Came N mv [q] x) : Gra.Came N mv [q'] x := by
  induction h with
  | start h1 h2 =>
    obtain rfl := List.mem_singleton.1 h1
    exact .next (.start (List.mem_singleton.2 rfl) hm) hq h2
  | next h1 h2 h3 ih => exact .next ih h2 h3
theorem came_came {N : Nat → List Nat} {mv : Nat → Bool} {l0 : List Nat} {p x : Nat} (hp : Gra.Came N (fun _ => true) l0 p) (h : Gra.Came N mv [p] x) : Gra.Came N (fun _ => true) l0 x := by
  induction h with
  | start h1 _ => rw [List.mem_singleton.1 h1]; exact hp
  | next _ h2 _ ih => exact .next ih h2 rfl
theorem isB_is {l : List Int} {k p : Nat} (hk : k < l.length) (hl : rchB l k = true) (hne : lastN l k ≠ []) : isB l k p = loopF l k p := by
  have hB : ∀ x, Gra.Came (backN l) (fun p => decide ((p : Int) ≠ (k : Int)) && rchB l p) (lastN l k) x → x ≠ k ∧ rchB l x = true := fun x hx => by
    have := came_mv hx
    rw [Bool.and_eq_true, decide_eq_true_iff] at this
    exact ⟨by omega, this.2⟩
  rw [Bool.eq_iff_iff]
  unfold isB loopF
  rw [List.any_eq_true]
  constructor
  · rintro ⟨b, hb, ht⟩
    obtain ⟨s, q, rfl, h1, h2, h3⟩ := backs_mem.1 hb
    unfold tstB at ht
    simp only [Bool.and_eq_true, Bool.or_eq_true, decide_eq_true_iff] at ht
    obtain ⟨e1, hp, ht⟩ := ht
    obtain rfl : q = k := by omega
    unfold upn
    rw [Int.toNat_natCast]
    by_cases e : p = q
    · rw [if_pos e]
    rw [if_neg e]
    have hs : s ∈ lastN l q := last_mem.2 ⟨h1, h2, h3⟩
    refine cameB_iff.2 ?_
    rcases ht with ht | ht | ht
    · exact absurd ht (by omega)
    · obtain rfl : s = p := by omega
      exact .start hs (by rw [Bool.and_eq_true, decide_eq_true_iff]; exact ⟨by omega, hp⟩)
    · have hc := cameB_iff.1 ht
      rw [Int.toNat_natCast] at hc
      have hall : ∀ x, Gra.Came (nxN l) (mvW q) [p] x → Gra.Came (backN l) (fun p => decide ((p : Int) ≠ (q : Int)) && rchB l p) (lastN l q) x → Gra.Came (backN l) (fun p => decide ((p : Int) ≠ (q : Int)) && rchB l p) (lastN l q) p := fun x hx => by
        induction hx with
        | start h1 _ => intro h; rw [List.mem_singleton.1 h1] at h; exact h
        | next h1 h2 h3 ih =>
          intro h
          refine ih (.next h (backN_mem.2 h2) ?_)
          have hm := came_mv h1
          unfold mvW at hm
          rw [Bool.and_eq_true]
          exact ⟨hm, cameB_iff.2 (came_came (cameB_iff.1 hp) h1)⟩
      refine hall s hc (.start hs ?_)
      have hm := came_mv hc
      unfold mvW at hm
      rw [Bool.and_eq_true]
      exact ⟨hm, h2⟩
  · intro hF
    unfold upn at hF
    rw [Int.toNat_natCast] at hF
    have hin : ∀ s, s ∈ lastN l k → ((s : Int), (k : Int)) ∈ backsL l := fun s hs => by
      have := last_mem.1 hs
      exact backs_mem.2 ⟨s, k, rfl, this⟩
    by_cases e : p = k
    · subst e
      obtain ⟨s, hs⟩ := List.exists_mem_of_ne_nil _ hne
      refine ⟨_, hin s hs, ?_⟩
      unfold tstB
      simp [hl]
    rw [if_neg e] at hF
    have hc := cameB_iff.1 hF
    have hall : ∀ x, Gra.Came (backN l) (fun p => decide ((p : Int) ≠ (k : Int)) && rchB l p) (lastN l k) x → ∃ s, s ∈ lastN l k ∧ Gra.Came (nxN l) (mvW k) [x] s := fun x hx => by
      have hx0 : ∀ y, Gra.Came (backN l) (fun p => decide ((p : Int) ≠ (k : Int)) && rchB l p) (lastN l k) y → mvW k y = true := fun y hy => by
        unfold mvW
        exact decide_eq_true (by have := (hB y hy).1; omega)
      induction hx with
      | start h1 h2 => exact ⟨_, h1, .start (List.mem_singleton.2 rfl) (hx0 _ (.start h1 h2))⟩
      | next h1 h2 h3 ih =>
        obtain ⟨s, hs, hc⟩ := ih
        exact ⟨s, hs, came_pre (backN_mem.1 h2) (hx0 _ (.next h1 h2 h3)) hc⟩
    obtain ⟨s, hs, hcs⟩ := hall p hc
    refine ⟨_, hin s hs, ?_⟩
    unfold tstB
    simp only [Bool.and_eq_true, Bool.or_eq_true, decide_eq_true_iff]
    exact ⟨trivial, (hB p hc).2, .inr (.inr (by rw [Int.toNat_natCast]; exact cameB_iff.2 hcs))⟩
theorem loop_is (l : List Int) (h : Int) : plc (isB l h) l.length = loopL l h := by
  unfold loopL
  by_cases hc : hasB l.length (rchB l) h = true ∧ lastN l h ≠ []
  · rw [if_pos hc]
    obtain ⟨k, rfl, hk, hr⟩ := hasB_some hc.1
    unfold plc
    congr 2
    funext p
    exact isB_is hk hr hc.2
  · rw [if_neg hc]
    unfold plc
    rw [List.map_eq_nil_iff, List.filter_eq_nil_iff]
    intro p _ hp
    unfold isB at hp
    obtain ⟨b, hb, ht⟩ := List.any_eq_true.1 hp
    obtain ⟨s, q, rfl, h1, h2, h3⟩ := backs_mem.1 hb
    unfold tstB at ht
    rw [Bool.and_eq_true, decide_eq_true_iff] at ht
    obtain rfl := ht.1
    refine hc ⟨?_, ?_⟩
    · rw [hasB_nat _ (nxN_in h1)]
      exact cameB_iff.2 (.next (cameB_iff.1 h2) h1 rfl)
    · exact List.ne_nil_of_mem (last_mem.2 ⟨h1, h2, h3⟩)

open Go.RowKit Go.IntWalk

/-- What the test of a loop reads, in whatever world. -/
abbrev LoopS (W : World) (rb p g o : Nat) (x h : Int) (w' : World) : Prop :=
  (w'.cell? ⟨rb, p, none⟩ = some (.bool true) ∧ w'.cell? ⟨g, o, none⟩ = some (.int .i64 x) ∧ w'.cell? ⟨g, o + 1, none⟩ = some (.int .i64 h)) ∧ Below W.heap.size W w'
theorem loopS_on {W w1 w2 : World} {rb p g o : Nat} {x h : Int} (q : LoopS W rb p g o x h w1) (k : Below w1.heap.size w1 w2) : LoopS W rb p g o x h w2 := by
  obtain ⟨⟨q1, q2, q3⟩, hb⟩ := q
  exact ⟨⟨(k.cell (p := ⟨rb, p, none⟩) (cell_lt q1)).trans q1, (k.cell (p := ⟨g, o, none⟩) (cell_lt q2)).trans q2, (k.cell (p := ⟨g, o + 1, none⟩) (cell_lt q3)).trans q3⟩, hb.trans (k.mono hb.size)⟩
open Go.RowKit Go.IntWalk

/-! ### The page's example: it jumps to 1, and from there to 0 -/
abbrev exL : List Int := [2617245697, 2415919104]
theorem ex_n0 : nxN exL 0 = [1] := by decide +kernel
theorem ex_n1 : nxN exL 1 = [0] := by decide +kernel
theorem ex_r0 : rchB exL 0 = true := cameB_iff.2 (.start (by decide) rfl)
theorem ex_r1 : rchB exL 1 = true := cameB_iff.2 (.next (cameB_iff.1 ex_r0) (by rw [ex_n0]; decide) rfl)
theorem ex_next : nextL exL 1 = [0] := by decide +kernel
theorem ex_ahead : aheadB exL 0 1 = true := by
  rw [show aheadB exL 0 1 = aheadB exL ((0 : Nat) : Int) ((1 : Nat) : Int) from rfl, ahead_far (by decide) ex_r1, Bool.not_eq_true', Bool.eq_false_iff]
  intro h
  refine came_none (fun x hx => ?_) (cameB_iff.1 h)
  obtain rfl : x = 0 := by simpa [beginN] using hx
  rfl
theorem ex_ahead' : aheadB exL ((1 : Nat) : Int) ((0 : Nat) : Int) = false := by
  rw [ahead_far (by decide) ex_r0, Bool.not_eq_false']
  exact cameB_iff.2 (.start (by decide) (by decide))
theorem ex_backs : backsL exL = [(1, 0)] := by
  rw [← backsL_all, show List.range exL.length = [0, 1] from rfl]
  rw [List.flatMap_cons, List.flatMap_cons, List.flatMap_nil]
  unfold backsP
  rw [ex_n0, ex_n1]
  have h1 : aheadB exL 1 0 = false := ex_ahead'
  simp [h1, ex_ahead]
theorem ex_cyc : cycB exL = true :=
  cycB_iff.2 ⟨0, cameB_iff.1 ex_r0, 1, by rw [ex_n0]; decide, .next (p := 1) (.start (by decide) rfl) (by rw [ex_n1]; decide) rfl⟩
theorem ex_loop : loopL exL 0 = [0, 1] := by
  have h0 : isB exL 0 0 = true := by unfold isB tstB; rw [ex_backs]; simp [ex_r0]
  have h1 : isB exL 0 1 = true := by unfold isB tstB; rw [ex_backs]; simp [ex_r1]
  rw [← loop_is]
  unfold plc
  rw [show List.range exL.length = [0, 1] from rfl]
  simp [h0, h1]
theorem ex_bd : ∀ i, i < exL.length → 0 ≤ byAt exL i ∧ byAt exL i < 4294967296 := by decide

theorem ws_one {κ : IntKind} (w : World) (x : Int) (T : TypeId) : Ws κ (w.alloc (.cells #[.int κ x] T)) (some ⟨w.heap.size, 0, none⟩) 1 1 [x] :=
  ⟨rfl, Nat.le_refl _, by unfold maxLen; omega, fun h => (nomatch h), fun _ => ⟨_, _, rfl, fun i hi => by
    obtain rfl : i = 0 := by omega
    rw [(BlkAt.new w _ _).cell]; rfl⟩⟩
theorem ws_two {κ : IntKind} (w : World) (x y : Int) (T : TypeId) : Ws κ (w.alloc (.cells #[.int κ x, .int κ y] T)) (some ⟨w.heap.size, 0, none⟩) 2 2 [x, y] :=
  ⟨rfl, Nat.le_refl _, by unfold maxLen; omega, fun h => (nomatch h), fun _ => ⟨_, _, rfl, fun i hi => by
    rw [(BlkAt.new w _ _).cell]
    rcases (show i = 0 ∨ i = 1 by omega) with rfl | rfl <;> rfl⟩⟩
theorem fix_one (w : World) (x y : Int) : ElAt fixK (w.alloc (.cells #[.int .i64 x, .int .i64 y] 49)) (some ⟨w.heap.size, 0, none⟩) 1 1 [(x, y)] := ElAt.one (K := fixK) w _ (x, y) _ rfl
theorem below_al {B : Nat} {W w : World} (h : Below B W w) (hB : B ≤ W.heap.size) (o : Obj) : Below B W (w.alloc o) := h.alloc (Nat.le_trans hB h.size) o
theorem below_on {W w w' : World} (h : Below W.heap.size W w) (k : Below w.heap.size w w') : Below W.heap.size W w' := h.trans (k.mono h.size)

set_option maxRecDepth 100000 in
set_option maxHeartbeats 1000000 in
theorem graAwake_is (w : World) (hs : ShapesLaid w) : Calls Tryz.prog 6 #[] w fun e w' => e = .returned (.bool true) ∧ Below w.heap.size w w' := by
  have HS := Lib.hid hs
  clear hs
  go_enter Tryz.func6, Tryz.ntmps6
  go_upto_region 2 with (fail)
  obtain ⟨W1, hW1⟩ : ∃ W1, w.alloc (.cells #[.int .u32 2617245697, .int .u32 2415919104] 43) = W1 := ⟨_, rfl⟩
  have HW := Lib.hid (show Ws .u32 W1 (some ⟨w.heap.size, 0, none⟩) 2 2 exL from hW1 ▸ ws_two w _ _ _)
  have HB := Lib.hid (show Below w.heap.size w W1 from hW1 ▸ (Below.refl _ _).alloc (Nat.le_refl _) _)
  rw [hW1]
  clear hW1
  have HSS := Lib.hid (fun w2 (k : Below W1.heap.size W1 w2) => (HS.out.below HB.out HS.out.lt).below k (HS.out.below HB.out HS.out.lt).lt)
  have HWW := Lib.hid (fun w2 (k : Below W1.heap.size W1 w2) => HW.out.keep k)
  have HA := Lib.hid (fun w2 (k : Below W1.heap.size W1 w2) => show Calls Tryz.prog 10 #[.slice (some ⟨w.heap.size, 0, none⟩) 2 2, .int .i64 0, .int .i64 1] w2 (fun e w' => e = .returned (.bool true) ∧ Below w2.heap.size w2 w') from ex_ahead ▸ graAhead_is 0 1 (HWW.out _ k) (by decide) (HSS.out _ k) ex_bd)
  have HK := Lib.hid (fun w2 (k : Below W1.heap.size W1 w2) => show Calls Tryz.prog 16 #[.slice (some ⟨w.heap.size, 0, none⟩) 2 2] w2 (fun e w' => ∃ v, e = .returned v ∧ OwnEl fixK w' w2.heap.size 49 v [(1, 0)] ∧ Below w2.heap.size w2 w') from ex_backs ▸ graBacks_is (HWW.out _ k) (by decide) (HSS.out _ k) ex_bd)
  have HC := Lib.hid (fun w2 (k : Below W1.heap.size W1 w2) => show Calls Tryz.prog 11 #[.slice (some ⟨w.heap.size, 0, none⟩) 2 2] w2 (fun e w' => e = .returned (.bool true) ∧ Below w2.heap.size w2 w') from ex_cyc ▸ graCyclic_c (HWW.out _ k) (by decide) (HSS.out _ k) ex_bd)
  have HL := Lib.hid (fun w2 (k : Below W1.heap.size W1 w2) => show Calls Tryz.prog 17 #[.slice (some ⟨w.heap.size, 0, none⟩) 2 2, .int .i64 0] w2 (fun e w' => ∃ v, e = .returned v ∧ OwnW .i64 w' w2.heap.size 3 v [0, 1] ∧ Below w2.heap.size w2 w') from ex_loop ▸ graLoop_is 0 (HWW.out _ k) (by decide) (HSS.out _ k) ex_bd)
  go_wp2_with (first
    | (go_at_call 9; ((with_reducible refine (graNext_is 1 HW.out (by decide) (HSS.out _ (Below.refl _ _)) ex_bd).mono ?_); rintro e w2 ⟨v2, rfl, ho2, hb2⟩); rw [ex_next] at ho2; obtain ⟨a2, c2, rfl, hw2⟩ := ho2.ws; have HW2 := Lib.hid (show Ws .i64 w2 a2 1 c2 [0] from hw2); have HB2 := Lib.hid hb2; clear ho2 hw2 hb2)
    | (go_at_call 14; ((with_reducible refine (refGSame_is (HW2.out.keep ((Below.refl _ _).alloc (Nat.le_refl _) _)) (ws_one w2 _ _)).mono ?_); rintro e w3 ⟨rfl, hb3⟩); have HB3 := Lib.hid (below_on (below_al HB2.out (Nat.le_refl _) _) hb3); clear hb3)
    | (go_at_call 10; ((with_reducible refine (HA.out _ HB3.out).mono ?_); rintro e w4 ⟨rfl, hb4⟩); have HB4 := Lib.hid (below_on HB3.out hb4); clear hb4)
    | (go_at_call 16; ((with_reducible refine (HK.out _ HB4.out).mono ?_); rintro e w5 ⟨v5, rfl, ho5, hb5⟩); obtain ⟨a5, c5, rfl, hw5⟩ := ho5.at; have HW5 := Lib.hid (show ElAt fixK w5 a5 1 c5 [(1, 0)] from hw5); have HB5 := Lib.hid (below_on HB4.out hb5); clear ho5 hw5 hb5)
    | (go_at_call 15; ((with_reducible refine (refFixes_is (HW5.out.keep ((Below.refl _ _).alloc (Nat.le_refl _) _)) (fix_one w5 1 0)).mono ?_); rintro e w6 ⟨rfl, hb6⟩); have HB6 := Lib.hid (below_on (below_al HB5.out (Nat.le_refl _) _) hb6); clear hb6)
    | (go_at_call 11; ((with_reducible refine (HC.out _ HB6.out).mono ?_); rintro e w7 ⟨rfl, hb7⟩); have HB7 := Lib.hid (below_on HB6.out hb7); clear hb7)
    | (go_at_call 17; ((with_reducible refine (HL.out _ HB7.out).mono ?_); rintro e w8 ⟨v8, rfl, ho8, hb8⟩); obtain ⟨a8, c8, rfl, hw8⟩ := ho8.ws; have HW8 := Lib.hid (show Ws .i64 w8 a8 2 c8 [0, 1] from hw8); have HB8 := Lib.hid (below_on HB7.out hb8); clear ho8 hw8 hb8)
    | (go_at_call 14; ((with_reducible refine (refGSame_is (HW8.out.keep ((Below.refl _ _).alloc (Nat.le_refl _) _)) (ws_two w8 _ _ _)).mono ?_); rintro e w9 ⟨rfl, hb9⟩); have HB9 := Lib.hid (below_on (below_al HB8.out (Nat.le_refl _) _) hb9); clear hb9))
  go_ret
  exact ⟨rfl, below_on HB.out HB9.out⟩

end Go.Proofs.YtggiaopdgijgnaaGreatDoor
