/- A list gone through from its end (slices.Backward), of int32. Conditions: the list can be read. -/
import Derived.Test.YtggiaopdgijgnaaDoorGraU
import Derived.Test.YtggiaopdgijgnaaDoorRngA
import Derived.Test.YtggiaopdgijgnaaDoorRnd
namespace Go.Proofs.YtggiaopdgijgnaaDoor
open Go.RowKit Go.IntWalk Go.Shelf

attribute [local go_sem] Oper.semAt_some

/-- A list's numbers from its end, each with its place. -/
def backL (l : List Int) : List (Nat × Int) := (List.range l.length).reverse.map fun i => (i, byAt l i)
theorem backL_len (l : List Int) : (backL l).length = l.length := by simp [backL]
theorem backL_at {l : List Int} {k : Nat} (h : k < l.length) : (backL l)[k]'(by rw [backL_len]; exact h) = (l.length - 1 - k, byAt l (l.length - 1 - k)) := by
  simp [backL]
theorem backL_take {l : List Int} {k : Nat} (h : k < l.length) : (backL l).take (k + 1) = (backL l).take k ++ [(l.length - 1 - k, byAt l (l.length - 1 - k))] := by
  rw [List.take_succ_eq_append_getElem (by rw [backL_len]; exact h), backL_at h]
def bkV (x : Nat × Int) : Array Value := #[.int .i64 x.1, .int .i32 x.2]
theorem back_is (a : Option Addr) (n c : Nat) (w : World) :
    Calls Tryd.prog 68 #[.slice a n c] w fun e w' => e = .returned (.func (.func 69) #[] #[.pointer (some ⟨w.heap.size, 0, none⟩)]) ∧ w.alloc (.cells #[.slice a n c] 38) = w' := by
  go_enter Tryd.func68, Tryd.ntmps68
  go_wp2
  go_ret
  exact ⟨rfl, rfl⟩
/-- The blocks that the walk through a list reads. -/
def oneB (ba : Nat) (a : Option Addr) (n : Nat) (k : Nat) : Prop := k = ba ∨ (0 < n ∧ ∃ off, a = some ⟨k, off, none⟩)
theorem Ws.ltb {κ : IntKind} {w : World} {a : Option Addr} {n c : Nat} {l : List Int} (h : Ws κ w a n c l) (hn : 0 < n) : ∀ b off, a = some ⟨b, off, none⟩ → b < w.heap.size := by
  intro b off e
  obtain ⟨b', off', e', hc⟩ := h.lie hn
  obtain ⟨rfl, rfl⟩ : b = b' ∧ off = off' := by rw [e] at e'; simpa using e'
  exact cell_lt (hc 0 hn)
theorem Ws.calm {κ : IntKind} {K : Nat → Prop} {B : Nat} {o o' : Option Nat} {w w' : World} {a : Option Addr} {n c : Nat} {l : List Int} (h : Ws κ w a n c l) (hc : Calm K B o o' w w') (hK : ∀ k off, 0 < n → a = some ⟨k, off, none⟩ → (K k ∨ B ≤ k) ∧ o ≠ some k) : Ws κ w' a n c l := by
  refine ⟨h.len, h.cap, h.big, h.nil, fun hn => ?_⟩
  obtain ⟨b, off, e, hcell⟩ := h.lie hn
  have := hK b off hn e
  exact ⟨b, off, e, fun i hi => hc.cell this.1 this.2 (hcell i hi)⟩
set_option maxRecDepth 100000 in
set_option maxHeartbeats 1000000 in
theorem back_seq (m ba n c : Nat) (a : Option Addr) (l : List Int) (w : World) (hm : 1 ≤ m) (hba : ba < w.heap.size) (hca : w.cell? ⟨ba, 0, none⟩ = some (.slice a n c)) (hL : Ws .i32 w a n c l) (hn : n ≤ 1000) :
    SeqA Fence.wide m Tryd.prog 69 #[.pointer (some ⟨ba, 0, none⟩)] bkV (oneB ba a n) (fun xs => xs = backL l) (fun pre => pre <+: backL l) (fun p => p <+: backL l) w := fun L J Jx o W hW hJ hJx hJo hoK hY hJ0 => by
  have hca1 := (hW.cell (p := ⟨ba, 0, none⟩) hba).trans hca
  have hK1 := hL.keep hW
  have hKlt : ∀ q, oneB ba a n q → q < W.heap.size := by
    rintro q (rfl | ⟨h0, off, e⟩)
    · have := hW.size; omega
    · exact hK1.ltb h0 _ _ e
  have hlen := hL.len
  have hn' : (n : Int) ≤ 1000 := by omega
  have HE := Lib.hid (show (backL l).take n = backL l from List.take_of_length_le (by rw [backL_len]; omega))
  have HY := Lib.hid hY
  have HK1 := Lib.hid hK1
  have HLT := Lib.hid hKlt
  have HJ := Lib.hid hJ
  have HLN := Lib.hid hlen
  clear hca hL hK1 hY hKlt hlen hJ
  refine callsIn_of_wp Tryd.func69 rfl trivial ?_ rfl
  simp only [Tryd.ntmps69, List.size_toArray, List.length_cons, List.length_nil, Nat.reduceAdd, Nat.reduceSub, Array.replicate_succ, Array.replicate_zero, List.push_toArray, List.append_toArray, List.nil_append, List.cons_append]
  gi_wp2
  gi_loopw [3] (fun v wr => ∃ j : Nat, j ≤ n ∧ v = .int .i64 ((j : Int) - 1) ∧ ∃ o', J o' ((backL l).take (n - j)) wr ∧ Calm (oneB ba a n) W.heap.size o o' W wr) (fun v _ => (intOf v + 1).toNat)
  case atStart => exact ⟨n, by omega, rfl, o, by rw [Nat.sub_self, List.take_zero]; exact hJ0, Calm.refl _ _ _ _⟩
  case round =>
    obtain ⟨j, hj, rfl, o', hJk, hcal⟩ := hrel
    by_cases hlt : 0 < j
    · obtain ⟨i, rfl⟩ : ∃ i, j = i + 1 := ⟨j - 1, by omega⟩
      have hok : ∀ q, oneB ba a n q → o' ≠ some q := fun q hq => hcal.off (HLT.out q hq) (hoK q hq)
      have hca := hcal.cell (b := ba) (.inl (.inl rfl)) (hoK _ (.inl rfl)) hca1
      obtain ⟨g, off, ea, hc⟩ := (HK1.out.calm hcal fun q f h0 e => ⟨.inl (.inr ⟨h0, f, e⟩), hoK q (.inr ⟨h0, f, e⟩)⟩).lie (by omega)
      have c0 := hc i (by omega)
      rw [ea] at hca
      have HZ := Lib.hid (show (backL l).take (n - i) = (backL l).take (n - (i + 1)) ++ [(i, byAt l i)] from by
        have h1 := backL_take (l := l) (k := n - (i + 1)) (by have := HLN.out; omega)
        rw [show n - (i + 1) + 1 = n - i by omega, HLN.out, show n - 1 - (n - (i + 1)) = i by omega] at h1
        exact h1)
      obtain ⟨fn, tmps, assign, body, hy, hR⟩ := HY.out o' _ (i, byAt l i) wr hJk (by rw [← HZ.out]; exact List.take_prefix _ _)
      have HR := Lib.hid hR
      have HC2 := Lib.hid hcal
      have hin : (i : Int) < n := by omega
      have e1 : IntKind.i64.wrap (((i + 1 : Nat) : Int) - 1 - 1) = (i : Int) - 1 := by rw [IntWalk.i64_in _ (by omega)]; omega
      have e2 : (((i + 1 : Nat) : Int) - 1) = (i : Int) := by omega
      clear hc hR hcal hJk ea hca1 hJ0 hok
      simp only [bkV] at hy
      generalize byAt l i = u at *
      rw [e2]
      gi_wp2_with fail
      refine HR.out.mono ?_
      rintro e W3 ⟨o2, hc2, (⟨rfl, hJ3⟩ | ⟨rfl, hJ3⟩)⟩
      · gi_wp2
        go_roundw
        case rel => exact ⟨i, by omega, rfl, o2, by rw [HZ.out]; exact hJ3, HC2.out.trans hc2⟩
        case measure => simp [intOf]
      · gi_wp2
        refine bodyPost_ret (results_none rfl _ _ _) rfl ?_
        exact ⟨⟨_, rfl⟩, o2, .inr ⟨_, by rw [← HZ.out]; exact List.take_prefix _ _, hJ3⟩⟩
    · obtain rfl : j = 0 := by omega
      gi_wp2
      go_end0
      exact ⟨⟨_, rfl⟩, o', .inl ⟨_, rfl, by rw [Nat.sub_zero, HE.out] at hJk; exact hJk⟩⟩
end Go.Proofs.YtggiaopdgijgnaaDoor
