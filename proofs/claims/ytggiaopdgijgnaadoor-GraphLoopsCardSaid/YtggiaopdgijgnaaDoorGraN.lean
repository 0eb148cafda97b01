/- Package graph: what Loop's walk may come to. Conditions: no more than 60 places. -/
import Derived.Test.YtggiaopdgijgnaaDoorGraM
namespace Go.Proofs.YtggiaopdgijgnaaDoor
open Go.RowKit Go.IntWalk

theorem mayLoop {n B bh bq bc : Nat} {q : Int} {F : Nat → Bool} (hn : n ≤ 60) (h1 : bh < B) (h2 : bq < B) (h3 : bc < B) : MayAt 36 #[.pointer (some ⟨bh, 0, none⟩), .pointer (some ⟨bq, 0, none⟩)] n B (fun _ => False)
    (fun (_ : Unit) w => BlkAt bh 3 #[.int .i64 q] w ∧ BlkAt bq 47 #[.slice (some ⟨bc, 0, none⟩) (szS n) (szS n)] w ∧ SetAt bc n F w) (fun _ p => decide ((p : Int) ≠ q) && F p) (fun _ _ => ()) where
  ask s w p hp h := by
    show Calls Tryd.prog 36 #[.int .i32 p, .pointer (some ⟨bh, 0, none⟩), .pointer (some ⟨bq, 0, none⟩)] w _
    have c0 := h.1.cell 0
    have d0 := h.2.1.cell 0
    have hw : IntKind.i64.wrap (p : Int) = (p : Int) := IntWalk.i64_in _ (by omega)
    have hh := graHas_is h.2.2 hn p
    rw [hasB_nat F hp] at hh
    have HH := Lib.hid hh
    have H := Lib.hid h
    clear h hh
    by_cases hq : (p : Int) = q
    · go_enter Tryd.func36, Tryd.ntmps36
      go_wp2_with (go_at_call 27; ((with_reducible refine (HH.out).mono ?_); rintro e w4 ⟨rfl, rfl⟩))
      go_ret
      exact ⟨by simp [hq], H.out, Keeps.refl _ _⟩
    · go_enter Tryd.func36, Tryd.ntmps36
      go_wp2_with (go_at_call 27; ((with_reducible refine (HH.out).mono ?_); rintro e w4 ⟨rfl, rfl⟩))
      go_ret
      exact ⟨by simp [hq], H.out, Keeps.refl _ _⟩
  keep _ w w' h k := ⟨(k.block bh h1).trans h.1, (k.block bq h2).trans h.2.1, by
    obtain ⟨x, e1, e2, e3⟩ := h.2.2
    exact ⟨x, e1, e2, (k.block bc h3).trans e3⟩⟩
  lt _ h := h.elim
  cf _ _ := by kernel_rfl
/-- From where ways lead to a place. -/
def backN (l : List Int) (q : Nat) : List Nat := (List.range l.length).filter fun p => decide (q ∈ nxN l p)
theorem backN_mem {l : List Int} {p q : Nat} : p ∈ backN l q ↔ q ∈ nxN l p := by
  unfold backN
  rw [List.mem_filter, List.mem_range, decide_eq_true_iff]
  exact ⟨fun h => h.2, fun h => ⟨(nxN_mem.1 h).1, h⟩⟩
theorem came_congr {N N' : Nat → List Nat} {mv : Nat → Bool} {l l' : List Nat} (h1 : ∀ p q, q ∈ N p → q ∈ N' p) (h2 : ∀ x, x ∈ l → x ∈ l') {x : Nat} (h : Gra.Came N mv l x) : Gra.Came N' mv l' x := by
  induction h with
  | start h3 h4 => exact .start (h2 _ h3) h4
  | next _ h3 h4 ih => exact .next ih (h1 _ _ h3) h4
theorem cameB_congr {N N' : Nat → List Nat} {mv : Nat → Bool} {l l' : List Nat} (h1 : ∀ p q, q ∈ N p ↔ q ∈ N' p) (h2 : ∀ x, x ∈ l ↔ x ∈ l') : cameB N mv l = cameB N' mv l' := by
  funext x
  rw [Bool.eq_iff_iff, cameB_iff, cameB_iff]
  exact ⟨came_congr (fun p q => (h1 p q).1) fun x => (h2 x).1, came_congr (fun p q => (h1 p q).2) fun x => (h2 x).2⟩
/-- The same ways the other way round, as walks may go them. -/
theorem turned_ways {l : List Int} {w : World} {a : Option Addr} {m c : Nat} {a' : Option Addr} {n1 c' : Nat} {L' : List (List Int)} (hG : WayG w a m c a' n1 c' L') (hl : L'.length = l.length) (hm : m ≤ 200)
    (hx : ∀ q, q < l.length → ∀ x, x ∈ el L' q ↔ ∃ p : Nat, p < (wayL l l.length).length ∧ x = p ∧ (q : Int) ∈ el (wayL l l.length) p) (hlt : I32At a w) :
    n1 = l.length + 1 ∧ ∃ N', WayN w a m c a' c' l.length N' ∧ ∀ p q, q ∈ N' p ↔ q ∈ backN l p := by
  have hn1 := hG.len
  rw [hl] at hn1
  subst hn1
  have hin : ∀ q, q < l.length → ∀ x ∈ el L' q, ∃ p : Nat, x = p ∧ q ∈ nxN l p := fun q hq x h => by
    obtain ⟨p, hp, rfl, h2⟩ := (hx q hq x).1 h
    rw [wayL_len] at hp
    rw [wayL_el l hp] at h2
    exact ⟨p, rfl, nxN_mem.2 ⟨hp, h2⟩⟩
  have hN : ∀ p q, q ∈ (if p < l.length then (el L' p).map Int.toNat else []) ↔ q ∈ backN l p := fun p q => by
    rw [backN_mem]
    split
    · rename_i hp
      rw [List.mem_map]
      constructor
      · rintro ⟨x, h1, rfl⟩
        obtain ⟨p', rfl, h3⟩ := hin p hp x h1
        exact h3
      · intro h
        have := nxN_mem.1 h
        exact ⟨q, (hx p hp q).2 ⟨q, by rw [wayL_len]; exact this.1, rfl, by rw [wayL_el l this.1]; exact this.2⟩, by simp⟩
    · rename_i hp
      exact ⟨(fun h => by cases h), fun h => absurd (nxN_in h) hp⟩
  refine ⟨rfl, fun p => if p < l.length then (el L' p).map Int.toNat else [], ⟨⟨L', hG, hl, fun p hp => ?_⟩, fun p q h => ?_, fun p => ?_, fun b off e => (hlt b off e).elim fun _ h => h.lt⟩, hN⟩
  · simp only [if_pos hp, List.map_map]
    conv => lhs; rw [← List.map_id (el L' p)]
    apply List.map_congr_left
    intro x hx'
    obtain ⟨p', rfl, _⟩ := hin p hp x hx'
    simp
  · have h1 := backN_mem.1 ((hN p q).1 h)
    exact (nxN_mem.1 h1).1
  · split
    · rename_i hp
      obtain ⟨F, E, _, _, h3⟩ := hG.ex
      obtain ⟨lo, hi, _, _, h4, h5, h6⟩ := h3 p (by omega)
      rw [List.length_map, ← h6, List.length_take]
      omega
    · simp
end Go.Proofs.YtggiaopdgijgnaaDoor
