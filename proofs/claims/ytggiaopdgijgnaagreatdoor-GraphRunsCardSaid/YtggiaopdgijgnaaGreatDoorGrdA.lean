/- The document's graph: lists, put, Next, from, Reached, Ahead, Cyclic, Backs. Conditions: words are words; no more than 60 of them. -/
import Derived.Test.YtggiaopdgijgnaaGreatDoorGrbB
import Derived.Test.YtggiaopdgijgnaaGreatDoorCodR
namespace Go.Proofs.YtggiaopdgijgnaaGreatDoor
open Go.RowKit

open Go.RowKit Go.IntWalk

set_option maxHeartbeats 1000000 in
theorem refSameW_is {a a' : Option Addr} {n c c' : Nat} {l : List Int} {w : World} (hB : Ws .i64 w a n c l) (hB' : Ws .i64 w a' n c' l) :
    Calls Tryz.prog 31 #[.slice a n c, .slice a' n c'] w fun e w' => e = .returned (.bool true) ∧ Below w.heap.size w w' := by
  have hcap := hB.cap
  have hbig := hB.big
  have hcap' := hB'.cap
  have hbig' := hB'.big
  unfold maxLen at hbig hbig'
  have HB := Lib.hid hB
  have HB' := Lib.hid hB'
  clear hB hB'
  go_enter Tryz.func31, Tryz.ntmps31
  go_wp2
  go_loopw [5] (fun i wr => ∃ k : Nat, k ≤ n ∧ i = .int .i64 k ∧ Below w.heap.size w wr) (fun i _ => n - (intOf i).toNat)
  case atStart => exact ⟨0, by omega, rfl, Below.refl _ _⟩
  case round =>
    obtain ⟨k, hk, rfl, hb⟩ := hrel
    have Hb := Lib.hid hb
    by_cases hlt : k < n
    · obtain ⟨b, off, rfl, h1⟩ := (HB.out.keep hb).lie (by omega)
      obtain ⟨b', off', rfl, h2⟩ := (HB'.out.keep hb).lie (by omega)
      have h1 := h1 k hlt
      have h2 := h2 k hlt
      have hlt' : (k : Int) < n := by omega
      generalize byAt l k = y at *
      have hy : (y != y) = false := by simp
      clear hb
      go_wp2
      go_quiet (fail)
      go_wp2
      go_roundw
      case rel => exact ⟨k + 1, by omega, by go_num, below_drewN Hb.out _⟩
      case measure => simp [intOf]; omega
    · obtain rfl : k = n := by omega
      clear hb
      go_wp2
      go_ret
      exact ⟨rfl, Hb.out⟩
theorem refGSame_is {a a' : Option Addr} {n c c' : Nat} {l : List Int} {w : World} (hB : Ws .i64 w a n c l) (hB' : Ws .i64 w a' n c' l) :
    Calls Tryz.prog 14 #[.slice a n c, .slice a' n c'] w fun e w' => e = .returned (.bool true) ∧ Below w.heap.size w w' := by
  have HC := Lib.hid (refSameW_is hB hB')
  clear hB hB'
  go_enter Tryz.func14, Tryz.ntmps14
  go_wp2_with (go_at_call 31; ((with_reducible refine (HC.out).mono ?_); rintro e w1 ⟨rfl, hb⟩))
  go_ret
  exact ⟨rfl, hb⟩

def putL (l : List Int) (x : Int) (n : Nat) : List Int := if 0 ≤ x ∧ x < n ∧ x ∉ l then l.takeWhile (fun y => decide (y < x)) ++ x :: l.dropWhile (fun y => decide (y < x)) else l
theorem tw_at (p : Int → Bool) : ∀ (l : List Int) (j : Nat), j < (l.takeWhile p).length → p (byAt l j) = true
  | [], j, h => by simp at h
  | x :: l, j, h => by
    rw [List.takeWhile_cons] at h
    split at h
    · next hx =>
      rcases j with _ | j
      · exact hx
      · exact tw_at p l j (by simpa using h)
    · simp at h
theorem tw_end (p : Int → Bool) : ∀ (l : List Int), (l.takeWhile p).length < l.length → p (byAt l (l.takeWhile p).length) = false
  | [], h => by simp at h
  | x :: l, h => by
    rw [List.takeWhile_cons] at h ⊢
    split
    · next hx =>
      rw [if_pos hx] at h
      exact tw_end p l (by simpa using h)
    · next hx => simpa [byAt] using hx
theorem tw_take (p : Int → Bool) : ∀ (l : List Int), l.take (l.takeWhile p).length = l.takeWhile p ∧ l.drop (l.takeWhile p).length = l.dropWhile p
  | [] => by simp
  | x :: l => by
    have := tw_take p l
    rw [List.takeWhile_cons, List.dropWhile_cons]
    split
    · exact ⟨by simp [this.1], by simpa using this.2⟩
    · simp
theorem tw_len (p : Int → Bool) (l : List Int) : (l.takeWhile p).length ≤ l.length := (List.takeWhile_sublist p).length_le

theorem putL_len (l : List Int) (x : Int) (n : Nat) : (putL l x n).length ≤ l.length + 1 := by
  unfold putL
  split
  · have := congrArg List.length (List.takeWhile_append_dropWhile (p := fun y => decide (y < x)) (l := l))
    simp only [List.length_append, List.length_cons] at this ⊢
    omega
  · omega
theorem putL_nil (x : Int) (n : Nat) : putL [] x n = [x].filter (gIn n) := by
  unfold putL gIn
  by_cases h : 0 ≤ x ∧ x < n <;> simp [h]
theorem putL_two {x y : Int} {n : Nat} : putL (putL [] x n) y n = (gTwo y x).filter (gIn n) := by
  rw [putL_nil]
  unfold putL gTwo gIn
  by_cases h : 0 ≤ x ∧ x < n
  · by_cases h2 : 0 ≤ y ∧ y < n
    · by_cases e : y = x
      · simp [h, e]
      · by_cases e2 : x < y
        · simp [h, h2, e, e2, show min y x = x by omega, show max y x = y by omega]
        · simp [h, h2, e, e2, show min y x = y by omega, show max y x = x by omega]
    · rw [if_neg (fun q => h2 ⟨q.1, q.2.1⟩)]
      by_cases e : y = x
      · exact absurd (e ▸ h) h2
      · rw [if_neg e]
        by_cases e2 : x < y
        · rw [show min y x = x by omega, show max y x = y by omega]
          simp [h, h2]
        · rw [show min y x = y by omega, show max y x = x by omega]
          simp [h, h2]
  · by_cases h2 : 0 ≤ y ∧ y < n
    · by_cases e : y = x
      · exact absurd (e ▸ h2) h
      · rw [if_neg e]
        by_cases e2 : x < y
        · rw [show min y x = x by omega, show max y x = y by omega]
          simp [h, h2]
        · rw [show min y x = y by omega, show max y x = x by omega]
          simp [h, h2]
    · by_cases e : y = x
      · simp [h, e]
      · by_cases e2 : x < y
        · simp [h, h2, e, show min y x = x by omega, show max y x = y by omega]
        · simp [h, h2, e, show min y x = y by omega, show max y x = x by omega]
theorem gTwo_no (x : Int) {n : Nat} : (gTwo (-1) x).filter (gIn n) = putL [] x n ∧ (gTwo x (-1)).filter (gIn n) = putL [] x n := by
  have h : putL [] (-1) n = [] := by rw [putL_nil]; simp [gIn]
  refine ⟨?_, ?_⟩
  · rw [← putL_two]
    unfold putL
    rw [if_neg (c := (0 : Int) ≤ -1 ∧ _) (by omega)]
  · rw [← putL_two, h]
theorem far_near {o : Int} (h : o = 41 ∨ o = 43 ∨ o = 0) (n : Nat) (N pc : Int) : gNxt n o N pc = [] := by
  unfold gNxt
  rw [show gNear o pc = -1 by unfold gNear; rw [if_pos (by omega)], show gFar o N = -1 by unfold gFar; rw [if_neg (by omega)]]
  simp [gTwo, gIn]
theorem dec_err {v : Int} (h : cErr v ≠ 0) : cO v = 0 := by
  unfold cO
  rw [if_neg h]
theorem dec_op {v : Int} (h : cErr v = 0) : isOp (cO v) := by
  unfold cO
  rw [if_pos h]
  unfold cErr at h
  by_cases ho : isOp (v / 67108864)
  · exact ho
  · rw [if_pos ho] at h; omega
open Go.RowKit Go.IntWalk

/-! ### How many are true -/
def cntB (f : Nat → Bool) : Nat → Nat
  | 0 => 0
  | n + 1 => cntB f n + if f n = true then 1 else 0
theorem cntB_le_n (f : Nat → Bool) : ∀ n, cntB f n ≤ n
  | 0 => Nat.le_refl _
  | n + 1 => by
    have := cntB_le_n f n
    unfold cntB
    split <;> omega
theorem cntB_le {f g : Nat → Bool} (h : ∀ i, f i = true → g i = true) : ∀ n, cntB f n ≤ cntB g n
  | 0 => Nat.le_refl _
  | n + 1 => by
    have := cntB_le h n
    unfold cntB
    by_cases e : f n = true
    · rw [if_pos e, if_pos (h n e)]; omega
    · rw [if_neg e]; split <;> omega
theorem cntB_lt {f g : Nat → Bool} (h : ∀ i, f i = true → g i = true) {q : Nat} (h0 : f q = false) (h1 : g q = true) : ∀ n, q < n → cntB f n < cntB g n
  | 0, hq => by omega
  | n + 1, hq => by
    unfold cntB
    by_cases e : q = n
    · subst e
      have := cntB_le h q
      rw [h0, if_neg (by simp), if_pos h1]; omega
    · have := cntB_lt h h0 h1 n (by omega)
      by_cases e2 : f n = true
      · rw [if_pos e2, if_pos (h n e2)]; omega
      · rw [if_neg e2]; split <;> omega
theorem cntB_ext {f g : Nat → Bool} : ∀ n, (∀ i, i < n → f i = g i) → cntB f n = cntB g n
  | 0, _ => rfl
  | n + 1, h => by
    unfold cntB
    rw [cntB_ext n fun i hi => h i (by omega), h n (by omega)]
/-- How many truths of a block are true, in a world. -/
noncomputable def cntW (b n : Nat) (w : World) : Nat := cntB (fun i => @decide (w.cell? ⟨b, i, none⟩ = some (.bool true)) (Classical.propDecidable _)) n
theorem cntW_is {T : TypeId} {b n : Nat} {f : Nat → Bool} {w : World} (h : Brs T b n f w) : cntW b n w = cntB f n := by
  refine cntB_ext n fun i hi => ?_
  have hc := BlkAt.cell h i
  rw [fnArr_get _ hi] at hc
  rw [hc]
  cases f i <;> simp

/-! ### What a place comes to -/
def startN (n : Nat) (p : Int) : List Nat := if 0 ≤ p ∧ p < n then [p.toNat] else []
def mvW (z : Int) : Nat → Bool := fun p => decide ((p : Int) ≠ z)
theorem came_none {N : Nat → List Nat} {mv : Nat → Bool} {l0 : List Nat} (h : ∀ x, x ∈ l0 → mv x = false) {x : Nat} : ¬ Gra.Came N mv l0 x := fun hc => by
  induction hc with
  | start h1 h2 => rw [h _ h1] at h2; exact absurd h2 (by simp)
  | next _ _ _ ih => exact ih
theorem came_closed {N : Nat → List Nat} {mv : Nat → Bool} {k : Nat} {f : Nat → Bool} (h0 : f k = true) (h : ∀ p, f p = true → ∀ q, q ∈ N p → mv q = true → f q = true) {x : Nat} (hc : Gra.Came N mv [k] x) : f x = true := by
  induction hc with
  | start h1 _ => rw [List.mem_singleton.1 h1]; exact h0
  | next _ h1 h2 ih => exact h _ ih _ h1 h2
/-- What has been found so far from k on: k, and nothing that can't be come to. -/
structure FoundI (N : Nat → List Nat) (mv : Nat → Bool) (k : Nat) (f : Nat → Bool) : Prop where
  first : f k = true
  sound : ∀ i, f i = true → Gra.Came N mv [k] i
theorem FoundI.up {N : Nat → List Nat} {mv : Nat → Bool} {k : Nat} {f : Nat → Bool} (h : FoundI N mv k f) {p q : Nat} (hp : f p = true) (hq : q ∈ N p) (hm : mv q = true) : FoundI N mv k (Gra.upB f q) where
  first := Gra.upB_true h.first
  sound i hi := by
    rcases Gra.upB_or hi with rfl | e
    · exact .next (h.sound p hp) hq hm
    · exact h.sound i e
theorem FoundI.fin {N : Nat → List Nat} {mv : Nat → Bool} {k : Nat} {f : Nat → Bool} (h : FoundI N mv k f) (hc : ∀ p, f p = true → ∀ q, q ∈ N p → mv q = true → f q = true) : f = cameB N mv [k] := by
  funext x
  rw [Bool.eq_iff_iff, cameB_iff]
  exact ⟨h.sound x, came_closed h.first hc⟩
theorem brs_set {T : TypeId} {b n : Nat} {f : Nat → Bool} {w : World} (h : Brs T b n f w) (q : Nat) : Brs T b n (Gra.upB f q) (w.setCell ⟨b, q, none⟩ (.bool true)) := by
  refine (BlkAt.set h q _).eq ?_
  rw [fnArr_set]
  refine fnArr_ext fun i _ => ?_
  show (if i = q then Value.bool true else .bool (f i)) = .bool (if i = q then true else f i)
  split <;> rfl

def bOf : Value → Nat
  | .bool true => 1
  | _ => 0
/-- A turn of the search: what stood at its start, what stands now, whether there is more, which ways have been looked at. -/
structure RoundI (N : Nat → List Nat) (mv : Nat → Bool) (k n : Nat) (f0 f : Nat → Bool) (ch : Bool) (D : Nat → Nat → Prop) : Prop where
  found : FoundI N mv k f
  up : ∀ i, f0 i = true → f i = true
  yes : ch = true → ∃ q, q < n ∧ f0 q = false ∧ f q = true
  no : ch = false → f = f0 ∧ ∀ p q, D p q → f0 p = true → mv q = true → f0 q = true
theorem RoundI.start {N : Nat → List Nat} {mv : Nat → Bool} {k n : Nat} {f0 : Nat → Bool} {D : Nat → Nat → Prop} (h : FoundI N mv k f0) (hD : ∀ p q, ¬ D p q) : RoundI N mv k n f0 f0 false D where
  found := h
  up _ e := e
  yes e := absurd e (by simp)
  no _ := ⟨rfl, fun p q d => absurd d (hD p q)⟩
theorem RoundI.mono {N : Nat → List Nat} {mv : Nat → Bool} {k n : Nat} {f0 f : Nat → Bool} {ch : Bool} {D D' : Nat → Nat → Prop} (h : RoundI N mv k n f0 f ch D) (hD : ∀ p q, D' p q → D p q ∨ f p = false ∨ mv q = false ∨ f q = true) : RoundI N mv k n f0 f ch D' where
  found := h.found
  up := h.up
  yes := h.yes
  no e := by
    obtain ⟨e1, e2⟩ := h.no e
    refine ⟨e1, fun p q d hp hm => ?_⟩
    subst e1
    rcases hD p q d with d | d | d | d
    · exact e2 p q d hp hm
    · rw [d] at hp; exact absurd hp (by simp)
    · rw [d] at hm; exact absurd hm (by simp)
    · exact d
theorem RoundI.add {N : Nat → List Nat} {mv : Nat → Bool} {k n : Nat} {f0 f : Nat → Bool} {ch : Bool} {D D' : Nat → Nat → Prop} (h : RoundI N mv k n f0 f ch D) {p q : Nat} (hp : f p = true) (hq : q ∈ N p) (hm : mv q = true) (h0 : f q = false) (hn : q < n) :
    RoundI N mv k n f0 (Gra.upB f q) true D' where
  found := h.found.up hp hq hm
  up i e := Gra.upB_true (h.up i e)
  yes _ := ⟨q, hn, by
    cases e : f0 q
    · rfl
    · rw [h.up q e] at h0; exact absurd h0 (by simp), Gra.upB_same _ _⟩
  no e := absurd e (by simp)

open Go.RowKit Go.IntWalk

theorem start_first (n : Nat) : startN n 0 = beginN n := by
  unfold startN beginN
  by_cases h : 0 < n
  · rw [if_pos (by omega), Nat.min_eq_right (by omega)]; rfl
  · rw [if_neg (by omega), Nat.min_eq_left (by omega)]
    obtain rfl : n = 0 := by omega
    rfl
theorem mv_none : mvW (-1) = fun _ => true := by
  funext p
  unfold mvW
  exact decide_eq_true (by omega)
theorem came_mv {N : Nat → List Nat} {mv : Nat → Bool} {l0 : List Nat} {x : Nat} (h : Gra.Came N mv l0 x) : mv x = true := by
  cases h with
  | start _ h => exact h
  | next _ _ h => exact h
theorem came_avoid {N : Nat → List Nat} {l0 : List Nat} {x : Int} (hx : ∀ k : Nat, (k : Int) = x → ¬ Gra.Came N (fun _ => true) l0 k) {y : Nat} (h : Gra.Came N (fun _ => true) l0 y) : Gra.Came N (mvW x) l0 y := by
  have hm : ∀ y, Gra.Came N (fun _ => true) l0 y → mvW x y = true := fun y hy => decide_eq_true fun e => hx y e hy
  induction h with
  | start h1 h2 => exact .start h1 (hm _ (.start h1 h2))
  | next h1 h2 h3 ih => exact .next ih h2 (hm _ (.next h1 h2 h3))
/-- What is reached. -/
noncomputable abbrev rchB (l : List Int) : Nat → Bool := cameB (nxN l) (fun _ => true) (beginN l.length)
theorem ahead_no_y {l : List Int} {x y : Int} (h : hasB l.length (rchB l) y = false) : aheadB l x y = false := by
  unfold aheadB
  rw [h, Bool.false_and]
theorem ahead_no_x {l : List Int} {x y : Int} (h : hasB l.length (rchB l) x = false) : aheadB l x y = false := by
  cases hy : hasB l.length (rchB l) y
  · exact ahead_no_y hy
  unfold aheadB
  rw [hy, Bool.true_and, Bool.not_eq_false']
  obtain ⟨k, rfl, hk, hc⟩ := hasB_some hy
  rw [hasB_nat _ hk]
  refine cameB_iff.2 (came_avoid (fun j e hj => ?_) (cameB_iff.1 hc))
  have hjn := came_lt hj
  rw [← e, hasB_nat _ hjn] at h
  rw [show rchB l j = true from cameB_iff.2 hj] at h
  exact absurd h (by simp)
theorem ahead_same {l : List Int} {k : Nat} (hk : k < l.length) (h : rchB l k = true) : aheadB l k k = true := by
  unfold aheadB
  unfold rchB at h
  rw [hasB_nat _ hk, h, hasB_nat _ hk, Bool.true_and, Bool.not_eq_true']
  rw [Bool.eq_false_iff]
  intro hc
  have := came_mv (cameB_iff.1 hc)
  simp at this
theorem ahead_far {l : List Int} {x : Int} {k : Nat} (hk : k < l.length) (h : rchB l k = true) : aheadB l x k = !cameB (nxN l) (mvW x) (beginN l.length) k := by
  unfold aheadB
  unfold rchB at h
  rw [hasB_nat _ hk, h, hasB_nat _ hk, Bool.true_and]
  rfl

theorem backsP_none {l : List Int} {p : Nat} (h : rchB l p = false) : backsP l p = [] := by
  unfold backsP
  rw [List.map_eq_nil_iff, List.filter_eq_nil_iff]
  intro q _
  have : hasB l.length (rchB l) p = false := by
    unfold hasB
    rw [Int.toNat_natCast, h, Bool.and_false]
  rw [ahead_no_y this]
  simp
theorem ws_cell {κ : IntKind} {w : World} {b off n c : Nat} {l : List Int} (h : Ws κ w (some ⟨b, off, none⟩) n c l) {i : Nat} (hi : i < n) : w.cell? ⟨b, off + i, none⟩ = some (.int κ (byAt l i)) := by
  obtain ⟨b', off', e, hc⟩ := h.lie (by omega)
  simp only [Option.some.injEq, Addr.mk.injEq, and_true] at e
  obtain ⟨rfl, rfl⟩ := e
  exact hc i hi
theorem OwnW.here {κ : IntKind} {w : World} {base n c : Nat} {e : TypeId} {a : Option Addr} {l : List Int} (h : OwnW κ w base e (.slice a n c) l) : Ws κ w a n c l := by
  obtain ⟨a', c', e', h'⟩ := h.ws
  simp only [Value.slice.injEq] at e'
  obtain ⟨rfl, rfl, rfl⟩ := e'
  exact h'
theorem own_two {w : World} {base base' s s' n n' : Nat} {e e' : TypeId} {v v' : Value} {xs xs' : List Value} (h : w.ownsRow base e s v n xs) (h' : w.ownsRow base' e' s' v' n' xs') (he : e ≠ e') : ∀ j, v.ownBlock = some j → ¬ v'.ownBlock = some j := by
  intro j hj
  rcases h.2 with ⟨rfl, _⟩ | ⟨g, cap, cur, rfl, _, hg, _⟩
  · exact nomatch hj
  · obtain rfl : g = j := Option.some.inj hj
    exact own_off_type h' (show BlkAt g e cur w from hg) he
theorem backsL_all (l : List Int) : (List.range l.length).flatMap (backsP l) = backsL l := by
  unfold backsL
  generalize List.range l.length = R
  induction R with
  | nil => rfl
  | cons x R ih =>
    rw [List.flatMap_cons, List.filter_cons, ih]
    cases h : rchB l x
    · rw [backsP_none h]
      unfold rchB at h
      rw [h]
      simp
    · unfold rchB at h
      rw [h]
      simp
end Go.Proofs.YtggiaopdgijgnaaGreatDoor
