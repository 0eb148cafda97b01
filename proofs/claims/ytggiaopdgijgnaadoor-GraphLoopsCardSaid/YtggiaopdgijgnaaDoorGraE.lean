/- Package graph: the places to which one leads; the first place; the same ways the other way round. Conditions: ways lie in memory; no more than 60 places. -/
import Derived.Test.YtggiaopdgijgnaaDoorGraC
import Derived.Test.YtggiaopdgijgnaaDoorGraP
namespace Go.Proofs.YtggiaopdgijgnaaDoor
open Go.RowKit Go.IntWalk

theorem flat_mid (L : List (List Int)) {p : Nat} (h : p < L.length) : (L.flatten.drop (L.take p).flatten.length).take ((L.take (p + 1)).flatten.length - (L.take p).flatten.length) = el L p := by
  have e1 : L.take (p + 1) = L.take p ++ [el L p] := by rw [List.take_succ_eq_append_getElem h, el_eq h]
  have e2 : L.flatten = (L.take p).flatten ++ (el L p ++ (L.drop (p + 1)).flatten) := by
    conv => lhs; rw [← List.take_append_drop (p + 1) L, e1]
    rw [List.flatten_append, List.flatten_append, List.append_assoc]
    simp
  have e3 : (L.take (p + 1)).flatten.length = (L.take p).flatten.length + (el L p).length := by
    rw [e1, List.flatten_append, List.length_append]
    simp
  rw [e3, Nat.add_sub_cancel_left]
  conv => lhs; rw [e2]
  rw [List.drop_left, List.take_left]
theorem flat_le (L : List (List Int)) (p : Nat) : (L.take p).flatten.length ≤ L.flatten.length := by
  conv => rhs; rw [← List.take_append_drop p L]
  rw [List.flatten_append, List.length_append]
  omega
theorem flat_succ (L : List (List Int)) (p : Nat) : (L.take p).flatten.length ≤ (L.take (p + 1)).flatten.length := by
  have := flat_le (L.take (p + 1)) p
  rw [List.take_take, Nat.min_eq_left (by omega)] at this
  exact this
/-- Ways in memory, however the places to which they lead lie there. -/
structure WayG (w : World) (a : Option Addr) (m c : Nat) (a' : Option Addr) (n1 c' : Nat) (L : List (List Int)) : Prop where
  ex : ∃ F E, Ws .i32 w a m c F ∧ Ws .i32 w a' n1 c' E ∧ ∀ p, p < L.length → ∃ lo hi : Nat, byAt E p = lo ∧ byAt E (p + 1) = hi ∧ lo ≤ hi ∧ hi ≤ m ∧ (F.drop lo).take (hi - lo) = el L p
  len : n1 = L.length + 1
theorem WaysAt.g {w : World} {a a' : Option Addr} {m c n1 c' : Nat} {L : List (List Int)} (h : WaysAt w a m c a' n1 c' L) : WayG w a m c a' n1 c' L :=
  ⟨⟨_, _, h.tos, h.ends, fun p hp => ⟨_, _, endsL_at L (by omega), endsL_at L (by omega), flat_succ L p, by rw [← h.tos.len]; exact flat_le L _, flat_mid L hp⟩⟩, h.len⟩
theorem WayG.keep {w w' : World} {a a' : Option Addr} {m c n1 c' : Nat} {L : List (List Int)} (h : WayG w a m c a' n1 c' L) (k : Below w.heap.size w w') : WayG w' a m c a' n1 c' L := by
  obtain ⟨⟨F, E, h1, h2, h3⟩, h4⟩ := h
  exact ⟨⟨F, E, h1.keep k, h2.keep k, h3⟩, h4⟩
theorem WayG.kept {G : Nat → Prop} {w w' : World} {a a' : Option Addr} {m c n1 c' : Nat} {L : List (List Int)} (h : WayG w a m c a' n1 c' L) (k : Keeps G w w') (ha : ∀ b off, a = some ⟨b, off, none⟩ → ¬ G b) (ha' : ∀ b off, a' = some ⟨b, off, none⟩ → ¬ G b) : WayG w' a m c a' n1 c' L := by
  obtain ⟨⟨F, E, h1, h2, h3⟩, h4⟩ := h
  exact ⟨⟨F, E, h1.kept k ha, h2.kept k ha', h3⟩, h4⟩
set_option maxRecDepth 100000 in
set_option maxHeartbeats 1000000 in
theorem graOf_is {w0 w : World} {a a' : Option Addr} {m c n1 c' p : Nat} {L : List (List Int)} (h : WayG w0 a m c a' n1 c' L) (hk0 : Below w0.heap.size w0 w) (hn : L.length ≤ 100) (hp : p < L.length) :
    Calls Tryd.prog 32 #[.agg #[.slice a m c, .slice a' n1 c'], .int .i64 p] w fun e w' => ∃ b k d, e = .returned (.slice b k d) ∧ Ws .i32 w0 b k d (el L p) ∧ (∀ g off, b = some ⟨g, off, none⟩ → ∃ off', a = some ⟨g, off', none⟩) ∧ Below w.heap.size w w' := by
  obtain ⟨⟨F, E, hF, hE, hP⟩, hlen⟩ := h
  obtain ⟨lo, hi, h0, h0', h1, h2, hP⟩ := hP p hp
  obtain ⟨b, d, hsl, hw, ha⟩ := hF.mid h1 h2
  rw [hP] at hw
  have hcp := hF.cap
  obtain ⟨g, off, rfl, hc⟩ := (hE.keep hk0).lie (by omega)
  have c0 := hc p (by omega)
  have c1 := hc (p + 1) (by omega)
  rw [h0] at c0
  rw [h0'] at c1
  have hrun := fun w => run_cut_mid (P := Tryd.prog) 38 Tryd.underlying38 (s := 1) (fun w => Tryd.sizeOf21 w) .i32 .i32 a m c lo hi h1 (by omega) w
  simp only [hsl] at hrun
  have hg : g < w.heap.size := cell_lt c0
  obtain ⟨k, hk⟩ : ∃ k, hi - lo = k := ⟨_, rfl⟩
  rw [hk] at hrun hw
  have HW := Lib.hid hw
  have HA := Lib.hid ha
  have hp' : (p : Int) < n1 := by omega
  have hp2 : (p : Int) + 1 < n1 := by omega
  have hn' : (n1 : Int) ≤ 101 := by omega
  clear hk0 h0 h0' hsl hw ha hF hc hE hP hlen hk
  go_enter Tryd.func32, Tryd.ntmps32
  go_wp2
  have hw1 : IntKind.i64.wrap ((p : Int) + 1) = (p : Int) + 1 := IntWalk.i64_in _ (by omega)
  have hw2 : (0 : Int) ≤ (p : Int) + 1 := by omega
  have hw3 : ((p : Int) + 1).toNat = p + 1 := by omega
  go_quiet (fail)
  go_wp2
  go_ret
  exact ⟨_, _, _, rfl, HW.out, HA.out, below_drewN ((Below.refl _ _).alloc (Nat.le_refl _) _) _⟩
/-- The first place, if there is one. -/
def beginL (n : Nat) : List Int := List.replicate (min n 1) 0
set_option maxRecDepth 100000 in
set_option maxHeartbeats 1000000 in
theorem graBegin_is {w : World} {n : Nat} (x : Value) (a' : Option Addr) (c' : Nat) (hn : n ≤ 100) :
    Calls Tryd.prog 38 #[.agg #[x, .slice a' (n + 1) c']] w fun e w' => ∃ g k, e = .returned (.slice (some ⟨g, 0, none⟩) k k) ∧ Ws .i32 w' (some ⟨g, 0, none⟩) k k (beginL n) ∧ w.heap.size ≤ g ∧ g < w'.heap.size ∧ Below w.heap.size w w' := by
  obtain ⟨i0, hi, hz0, hz1, hz2⟩ := info_parts infoI32
  obtain ⟨k, hk⟩ : ∃ k : Nat, k = min n 1 := ⟨_, rfl⟩
  have hmin := fun w ts => run_minG (P := Tryd.prog) w ts 3 .i64 n 1 k (by omega)
  have HK := Lib.hid hk
  clear hk
  go_enter Tryd.func38, Tryd.ntmps38
  go_wp2_with (first
    | (go_at_call 47; ((with_reducible refine (graSize_is _ _ _ hn).mono ?_); rintro e w2 ⟨rfl, hq⟩); have HQ := Lib.hid hq; clear hq)
    | (at_make; refine wpList_make_zeros _ rfl _ _ 38 rfl 21 i0 Tryd.underlying38 hi hz0 hz1 _ _ _ k k rfl rfl rfl (Nat.le_refl _) (by rw [hz2]; have := HK.out; omega) (by unfold maxLen; have := HK.out; omega) ?_; intro w3 hown hw3))
  go_ret
  have hs := HQ.out.size
  simp only [World.size_alloc] at hs
  obtain ⟨b, d, e1, hw⟩ := hown.wsn (m := k) (by simp)
  simp only [Value.slice.injEq] at e1
  obtain ⟨rfl, -, rfl⟩ := e1
  refine ⟨_, _, rfl, ?_, by omega, by simp, ?_⟩
  · unfold beginL
    rw [← HK.out, ← hw3]
    exact hw
  · exact (((Below.refl _ _).alloc (Nat.le_refl _) _).trans (HQ.out.mono (by simp))).alloc (by omega) _
end Go.Proofs.YtggiaopdgijgnaaDoor
