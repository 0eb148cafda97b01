/- The document's own images (astrolaberef22): the reader: num, must. -/
import Derived.Test.YtochnjbacglhbaaDoorImgD
import Derived.Test.YtochnjbacglhbaaDoorImgQ
namespace Go.Proofs.YtochnjbacglhbaaDoor
open Go.RowKit Go.IntWalk

theorem By.on {w w' : World} {a : Option Addr} {n c : Nat} {l : List Int} (h : By w a n c l) (hb : ∀ b off, a = some ⟨b, off, none⟩ → b < w.heap.size → w'.heap[b]? = w.heap[b]?) : By w' a n c l := by
  refine ⟨h.len, h.cap, h.big, h.nil, h.bd, fun hn => ?_⟩
  obtain ⟨b, off, e, hc⟩ := h.lie hn
  exact ⟨b, off, e, fun i hi => by
    have hk := hb b off e (cell_lt (hc i hi))
    rw [← hc i hi]
    unfold World.cell?
    rw [hk]⟩
/-- A reader at block R: what is left (in a block ahead of B), the first fault. -/
structure RdAt (B : Nat) (W : World) (R : Nat) (l : List Int) (e : Int) : Prop where
  ex : ∃ a n c, BlkAt R 47 #[.slice a n c, .int .i64 e] W ∧ By W a n c l ∧ ∀ b off, a = some ⟨b, off, none⟩ → b < B
  low : B ≤ R
/-- What a reading leaves: its own block alone may read otherwise. -/
def RdTo (B : Nat) (W : World) (R : Nat) (l : List Int) (e : Int) (W' : World) : Prop := RdAt B W' R l e ∧ OnlyB R W W'
theorem RdAt.kept {B R : Nat} {F : Nat → Prop} {W W' : World} {l : List Int} {e : Int} (h : RdAt B W R l e) (k : Keeps F W W') (hR : ¬ F R) (hF : ∀ j, F j → B ≤ j) : RdAt B W' R l e := by
  obtain ⟨a, n, c, hb, hB, hn⟩ := h.ex
  exact ⟨⟨a, n, c, hb.kept k hR, hB.on fun b off q hlt => k.block b hlt fun f => absurd (hF b f) (by have := hn b off q; omega), hn⟩, h.low⟩
section
variable {W : World} {B R k : Nat} {l : List Int} {e z : Int}
set_option maxRecDepth 100000 in
set_option maxHeartbeats 2000000 in
theorem num_bad (h : RdAt B W R l e) (he : e ≠ 0) : Calls Tryd.prog 23 #[.pointer (some ⟨R, 0, none⟩), .int .i64 z] W fun r W' => r = .returned (.int .i64 0) ∧ RdTo B W R l e W' := by
  obtain ⟨a, n, c, hb, hB, hn⟩ := h.ex
  have H := Lib.hid h
  have p0 := hb.cell 0
  have p1 := hb.cell 1
  clear h hb hB hn
  go_enter Tryd.func23, Tryd.ntmps23
  go_wp2
  go_ret
  exact ⟨rfl, H.out, OnlyB.refl _ _⟩
set_option maxRecDepth 100000 in
set_option maxHeartbeats 2000000 in
theorem num_short (h : RdAt B W R l 0) (hl : l.length < k) (hz : z = (k : Int)) : Calls Tryd.prog 23 #[.pointer (some ⟨R, 0, none⟩), .int .i64 z] W fun r W' => r = .returned (.int .i64 0) ∧ RdTo B W R l 4 W' := by
  subst hz
  obtain ⟨a, n, c, hb, hB, hn⟩ := h.ex
  have HB := Lib.hid hb
  have HY := Lib.hid hB
  have HN := Lib.hid hn
  have LO := Lib.hid h.low
  have hbn := hB.len
  have hlt : (n : Int) < k := by omega
  have dlt := decide_eq_true hlt
  have p0 := hb.cell 0
  have p1 := hb.cell 1
  have q := hb.set 1 (.int .i64 4)
  have Q := Lib.hid q
  have p2 := q.cell 1
  have fr := hb.free 1
  clear h hb hB hn q
  go_enter Tryd.func23, Tryd.ntmps23
  go_wp2
  go_ret
  refine ⟨rfl, ⟨⟨a, n, c, Q.out.eq rfl, HY.out.on ?_, HN.out⟩, LO.out⟩, OnlyB.set _ _ _ _⟩
  intro b off e hlt
  exact (OnlyB.set R 1 W (.int .i64 4)).block b (by have := HN.out b off e; have := LO.out; omega) hlt
set_option maxRecDepth 100000 in
set_option maxHeartbeats 2000000 in
theorem num_ok (h : RdAt B W R l 0) (hl : k ≤ l.length) (hz : z = (k : Int)) (hk : k ≤ 4) (hk0 : 0 < k) : Calls Tryd.prog 23 #[.pointer (some ⟨R, 0, none⟩), .int .i64 z] W fun r W' => r = .returned (.int .i64 (beV (l.take k))) ∧ RdTo B W R (l.drop k) 0 W' := by
  subst hz
  obtain ⟨a, n, c, hb, hB, hn⟩ := h.ex
  have HB := Lib.hid hb
  have hbn := hB.len
  have hcap := hB.cap
  have hbig := hB.big
  unfold maxLen at hbig
  obtain ⟨b, off, rfl, dd⟩ := hB.lie (by omega)
  have HY := Lib.hid hB
  have D := Lib.hid dd
  have HN := Lib.hid (hn b off rfl)
  have LO := Lib.hid h.low
  have hge : (k : Int) ≤ n := by omega
  have dlt := decide_eq_false (show ¬ ((n : Int) < k) by omega)
  have p0 := hb.cell 0
  have p1 := hb.cell 1
  have fr := hb.free 0
  clear h hb hB hn dd
  go_enter Tryd.func23, Tryd.ntmps23
  go_wp2
  go_loop [5, 6] (fun x i => ∃ j : Nat, j ≤ k ∧ i = .int .i64 j ∧ x = .int .i64 (beV (l.take j))) (fun _ i => k - (intOf i).toNat)
  case atStart => exact ⟨0, by omega, rfl, rfl⟩
  case round =>
    obtain ⟨j, hj, rfl, rfl⟩ := hrel
    have bd := beV_bd j (l.take j) (HY.out.bd.take j) (by rw [List.length_take]; omega)
    have b4 : (256 : Int) ^ j ≤ 4294967296 := by
      rcases (show j = 0 ∨ j = 1 ∨ j = 2 ∨ j = 3 ∨ j = 4 by omega) with rfl | rfl | rfl | rfl | rfl <;> decide
    have bd1 : 0 ≤ beV (l.take j) ∧ beV (l.take j) ≤ 4294967296 := by omega
    clear bd b4
    by_cases hlt : j < k
    · have hlt' : (j : Int) < k := by omega
      have hltn : (j : Int) < n := by omega
      have d := D.out j (by omega)
      have hx := HY.out.bd.at (i := j) (by omega)
      have HS := Lib.hid (show beV (l.take (j + 1)) = 256 * beV (l.take j) + byAt l j by rw [take_snoc8 (by omega), beV_snoc])
      generalize byAt l j = x at *
      generalize beV (l.take j) = y at *
      go_wp2
      go_round
      case rel => exact ⟨j + 1, by omega, by go_num, by rw [HS.out]⟩
      case measure => simp [intOf]; omega
    · obtain rfl : k = j := by omega
      obtain ⟨y, hy⟩ : ∃ y, beV (l.take k) = y := ⟨_, rfl⟩
      have HV := Lib.hid hy
      rw [hy] at bd1 ⊢
      clear hy
      by_cases hck : c - k = 0
      · have hnk : n - k = 0 := by omega
        have hlk := Lib.hid (show l.drop k = [] from List.drop_eq_nil_of_le (by have := HY.out.len; omega))
        have HK := Lib.hid hnk
        clear hnk
        go_wp2
        go_ret
        refine ⟨by rw [HV.out]; rfl, ⟨⟨_, _, _, (HB.out.set 0 _).eq rfl, ?_, ?_⟩, LO.out⟩, OnlyB.set _ _ _ _⟩
        · rw [hlk.out, HK.out]
          exact ⟨rfl, Nat.le_refl _, Nat.zero_le _, fun h => (nomatch h), Bd8.nil, fun h => absurd h (Nat.lt_irrefl _)⟩
        · intro b' off' e
          cases e
          exact HN.out
      · go_wp2
        go_ret
        refine ⟨by rw [HV.out]; rfl, ⟨⟨_, _, _, (HB.out.set 0 _).eq rfl, (HY.out.post (k := k) (by omega)).on ?_, ?_⟩, LO.out⟩, OnlyB.set _ _ _ _⟩
        · intro b' off' e hlt
          cases e
          exact (OnlyB.set R 0 W _).block b (by have := HN.out; have := LO.out; omega) hlt
        · intro b' off' e
          cases e
          exact HN.out
set_option maxRecDepth 100000 in
set_option maxHeartbeats 2000000 in
theorem must_keep {h0 : Bool} {x : Int} (h : RdAt B W R l e) (he : e ≠ 0 ∨ h0 = true) : Calls Tryd.prog 22 #[.pointer (some ⟨R, 0, none⟩), .bool h0, .int .i64 x] W fun r W' => r = .returned (.tuple #[]) ∧ RdTo B W R l e W' := by
  obtain ⟨a, n, c, hb, hB, hn⟩ := h.ex
  have H := Lib.hid h
  have p1 := hb.cell 1
  clear h hb hB hn
  by_cases q : e = 0
  · obtain rfl : h0 = true := by rcases he with h | h; exact absurd q h; exact h
    subst q
    clear he
    go_enter Tryd.func22, Tryd.ntmps22
    go_wp2
    first | go_ret | go_end0
    exact ⟨rfl, H.out, OnlyB.refl _ _⟩
  · clear he
    go_enter Tryd.func22, Tryd.ntmps22
    go_wp2
    first | go_ret | go_end0
    exact ⟨rfl, H.out, OnlyB.refl _ _⟩
set_option maxRecDepth 100000 in
set_option maxHeartbeats 2000000 in
theorem must_set {x : Int} (h : RdAt B W R l 0) : Calls Tryd.prog 22 #[.pointer (some ⟨R, 0, none⟩), .bool false, .int .i64 x] W fun r W' => r = .returned (.tuple #[]) ∧ RdTo B W R l x W' := by
  obtain ⟨a, n, c, hb, hB, hn⟩ := h.ex
  have HB := Lib.hid hb
  have HY := Lib.hid hB
  have HN := Lib.hid hn
  have LO := Lib.hid h.low
  have p1 := hb.cell 1
  have fr := hb.free 1
  clear h hb hB hn
  go_enter Tryd.func22, Tryd.ntmps22
  go_wp2
  first | go_ret | go_end0
  refine ⟨rfl, ⟨⟨a, n, c, (HB.out.set 1 _).eq rfl, HY.out.on ?_, HN.out⟩, LO.out⟩, OnlyB.set _ _ _ _⟩
  intro b off e hlt
  exact (OnlyB.set R 1 W _).block b (by have := HN.out b off e; have := LO.out; omega) hlt
theorem num_is {s : Rs} (h : RdAt B W R s.1 s.2) (hz : z = (k : Int)) (hk : k ≤ 4) (hk0 : 0 < k) : Calls Tryd.prog 23 #[.pointer (some ⟨R, 0, none⟩), .int .i64 z] W fun r W' => r = .returned (.int .i64 (numS k s).1) ∧ RdTo B W R (numS k s).2.1 (numS k s).2.2 W' := by
  obtain ⟨l, e⟩ := s
  by_cases he : e = 0
  · subst he
    by_cases hl : l.length < k
    · have q : numS k (l, 0) = (0, (l, 4)) := by unfold numS; simp [hl]
      rw [q]
      exact num_short h hl hz
    · have q : numS k (l, 0) = (beV (l.take k), (l.drop k, 0)) := by unfold numS; simp [hl]
      rw [q]
      exact num_ok h (by omega) hz hk hk0
  · rw [numS_bad (s := (l, e)) he]
    exact num_bad h he
theorem must_is {s : Rs} {h0 : Bool} {x : Int} (h : RdAt B W R s.1 s.2) : Calls Tryd.prog 22 #[.pointer (some ⟨R, 0, none⟩), .bool h0, .int .i64 x] W fun r W' => r = .returned (.tuple #[]) ∧ RdTo B W R (mustS h0 x s).1 (mustS h0 x s).2 W' := by
  obtain ⟨l, e⟩ := s
  by_cases he : e = 0
  · subst he
    cases h0
    · exact must_set h
    · exact must_keep h (.inr rfl)
  · rw [mustS_bad (s := (l, e)) he]
    exact must_keep h (.inl he)
end
end Go.Proofs.YtochnjbacglhbaaDoor
