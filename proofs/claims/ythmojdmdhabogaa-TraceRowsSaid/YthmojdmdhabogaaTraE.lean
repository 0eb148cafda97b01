/- Two lists of marks side by side: what package trace's iterator hands on. Conditions: the lists can be read. -/
import Derived.Test.YthmojdmdhabogaaProg
import Derived.Test.YthmojdmdhabogaaTraD
import Derived.Test.YthmojdmdhabogaaRngA
import Derived.Test.YthmojdmdhabogaaRnd
import Derived.Test.YthmojdmdhabogaaIts
import Derived.StillTailTactics
import Derived.WalkKit
import Derived.Handy
import Derived.WalkSmall
namespace Go.Proofs.Ythmojdmdhabogaa
open Go.RowKit Go.IntWalk Go.Shelf

attribute [local go_sem] Oper.semAt_some

theorem run_min2 {P : Program} (w : World) (ts : Array TypeId) (t : TypeId) (k : IntKind) (x y v : Int) (hv : v = min x y) : (Builtin.min_ ts t #[.int k x, .int k y]).run P w = .ok (.int k v) w := by
  have h : (Builtin.min_ ts t #[.int k x, .int k y]).run P w = .ok (.int k (if y < x then y else x)) w := by
    simp [Builtin.min_, Builtin.min2]
  rw [h, hv]
  congr 2
  split <;> omega
def mkG (m : Mk) : Value := .agg #[.int .i64 m.1, .int .i64 m.2.1, .int .i64 m.2.2]
def pkV (p : Mk × Mk) : Array Value := #[mkG p.1, mkG p.2]
theorem traPairs_is (a a' : Option Addr) (n c n' c' : Nat) (w : World) :
    Calls Try.prog 24 #[.slice a n c, .slice a' n' c'] w fun e w' => e = .returned (.func (.func 34) #[] #[.pointer (some ⟨w.heap.size, 0, none⟩), .pointer (some ⟨w.heap.size + 1, 0, none⟩)]) ∧
      (w.alloc (.cells #[.slice a n c] 22)).alloc (.cells #[.slice a' n' c'] 22) = w' := by
  go_enter Try.func24, Try.ntmps24
  go_wp2
  go_ret
  exact ⟨rfl, rfl⟩
/-- The blocks that the walk through two lists reads. -/
def twoM (ba bb : Nat) (a : Option Addr) (n : Nat) (a' : Option Addr) (n' : Nat) (k : Nat) : Prop := k = ba ∨ k = bb ∨ (0 < n ∧ ∃ off, a = some ⟨k, off, none⟩) ∨ (0 < n' ∧ ∃ off, a' = some ⟨k, off, none⟩)
theorem MkAt.lt {w : World} {a : Option Addr} {n c : Nat} {l : List Mk} (h : MkAt w a n c l) (hn : 0 < n) : ∀ b off, a = some ⟨b, off, none⟩ → b < w.heap.size := by
  intro b off e
  obtain ⟨b', off', e', hc⟩ := h.lie hn
  obtain ⟨rfl, rfl⟩ : b = b' ∧ off = off' := by rw [e] at e'; simpa using e'
  exact cell_lt (hc 0 hn).1
theorem MkAt.calm {K : Nat → Prop} {B : Nat} {o o' : Option Nat} {w w' : World} {a : Option Addr} {n c : Nat} {l : List Mk} (h : MkAt w a n c l) (hc : Calm K B o o' w w') (hK : ∀ k off, 0 < n → a = some ⟨k, off, none⟩ → (K k ∨ B ≤ k) ∧ o ≠ some k) : MkAt w' a n c l := by
  refine ⟨h.len, h.cap, h.big, h.nil, fun hn => ?_⟩
  obtain ⟨b, off, e, hcell⟩ := h.lie hn
  have := hK b off hn e
  refine ⟨b, off, e, fun i hi => ?_⟩
  obtain ⟨c0, c1, c2⟩ := hcell i hi
  exact ⟨hc.cell this.1 this.2 c0, hc.cell this.1 this.2 c1, hc.cell this.1 this.2 c2⟩
theorem twoM_lt {w : World} {ba bb : Nat} {a a' : Option Addr} {n c n' c' : Nat} {l l' : List Mk} (hba : ba < w.heap.size) (hbb : bb < w.heap.size) (h : MkAt w a n c l) (h' : MkAt w a' n' c' l') : ∀ q, twoM ba bb a n a' n' q → q < w.heap.size := by
  rintro q (rfl | rfl | ⟨h0, off, e⟩ | ⟨h0, off, e⟩)
  · exact hba
  · exact hbb
  · exact h.lt h0 _ _ e
  · exact h'.lt h0 _ _ e
theorem zip_take {l l' : List Mk} {k : Nat} (h : k < l.length) (h' : k < l'.length) : (l.zip l').take (k + 1) = (l.zip l').take k ++ [(mkAt l k, mkAt l' k)] := by
  rw [List.take_succ_eq_append_getElem (by simp; omega), List.getElem_zip, mkAt_eq h, mkAt_eq h']

set_option maxRecDepth 100000 in
set_option maxHeartbeats 1000000 in
theorem traPairs_seq (m ba bb n c n' c' : Nat) (a a' : Option Addr) (l l' : List Mk) (w : World) (hm : 1 ≤ m) (hba : ba < w.heap.size) (hbb : bb < w.heap.size)
    (hca : w.cell? ⟨ba, 0, none⟩ = some (.slice a n c)) (hcb : w.cell? ⟨bb, 0, none⟩ = some (.slice a' n' c')) (hL : MkAt w a n c l) (hL' : MkAt w a' n' c' l') :
    SeqA Fence.wide m Try.prog 34 #[.pointer (some ⟨ba, 0, none⟩), .pointer (some ⟨bb, 0, none⟩)] pkV (twoM ba bb a n a' n') (fun xs => xs = l.zip l') (fun pre => pre <+: l.zip l') (fun p => p <+: l.zip l') w := fun L J Jx o W hW hJ hJx hJo hoK hY hJ0 => by
  have hca1 := (hW.cell (p := ⟨ba, 0, none⟩) hba).trans hca
  have hcb1 := (hW.cell (p := ⟨bb, 0, none⟩) hbb).trans hcb
  have hK1 := hL.keep hW
  have hK1' := hL'.keep hW
  have hKlt := twoM_lt (show ba < W.heap.size by have := hW.size; omega) (show bb < W.heap.size by have := hW.size; omega) hK1 hK1'
  have hcap := hL.cap
  have hcap' := hL'.cap
  have hbig := hL.big
  have hbig' := hL'.big
  unfold maxLen at hbig hbig'
  have hlen := hL.len
  have hlen' := hL'.len
  obtain ⟨N, hN⟩ : ∃ N : Nat, (N : Int) = min (n : Int) n' := ⟨min n n', by omega⟩
  have hmin := fun w => run_min2 (P := Try.prog) w #[3, 3] 3 .i64 n n' N hN
  have g1 : N ≤ n := by omega
  have g2 : N ≤ n' := by omega
  have HE := Lib.hid (show (l.zip l').take N = l.zip l' from List.take_of_length_le (by simp; omega))
  have HY := Lib.hid hY
  have HK1 := Lib.hid hK1
  have HK1' := Lib.hid hK1'
  have HLT := Lib.hid hKlt
  have HJ := Lib.hid hJ
  have HLN := Lib.hid (And.intro hlen hlen')
  clear hca hcb hL hL' hK1 hK1' hY hN hKlt hlen hlen' hJ
  refine callsIn_of_wp Try.func34 rfl trivial ?_ rfl
  simp only [Try.ntmps34, List.size_toArray, List.length_cons, List.length_nil, Nat.reduceAdd, Nat.reduceSub, Array.replicate_succ, Array.replicate_zero, List.push_toArray, List.append_toArray, List.nil_append, List.cons_append]
  gi_wp2
  gi_loopw [10] (fun v wr => ∃ k : Nat, k ≤ N ∧ v = .int .i64 k ∧ ∃ o', J o' ((l.zip l').take k) wr ∧ Calm (twoM ba bb a n a' n') W.heap.size o o' W wr) (fun v _ => N - (intOf v).toNat)
  case atStart => exact ⟨0, by omega, rfl, o, by rw [List.take_zero]; exact hJ0, Calm.refl _ _ _ _⟩
  case round =>
    obtain ⟨k, hk, rfl, o', hJk, hcal⟩ := hrel
    by_cases hlt : k < N
    · have hlt' : (k : Int) < N := by omega
      have hok : ∀ q, twoM ba bb a n a' n' q → o' ≠ some q := fun q hq => hcal.off (HLT.out q hq) (hoK q hq)
      have hd : Calm (twoM ba bb a n a' n') W.heap.size o' o' wr wr.drew := ⟨Nat.le_refl _, fun _ _ _ _ => rfl, .inl rfl⟩
      have hgd : wr.grownBy wr.drew none := ⟨rfl, rfl, rfl, Nat.le_refl _, fun _ _ _ => rfl⟩
      have hcalm2 := hcal.trans hd
      have hca := hcalm2.cell (b := ba) (.inl (.inl rfl)) (hoK _ (.inl rfl)) hca1
      have hcb := hcalm2.cell (b := bb) (.inl (.inr (.inl rfl))) (hoK _ (.inr (.inl rfl))) hcb1
      obtain ⟨g, off, ea, hc⟩ := (HK1.out.calm hcalm2 fun q f h0 e => ⟨.inl (.inr (.inr (.inl ⟨h0, f, e⟩))), hoK q (.inr (.inr (.inl ⟨h0, f, e⟩)))⟩).lie (by omega)
      obtain ⟨g', off', eb, hd'⟩ := (HK1'.out.calm hcalm2 fun q f h0 e => ⟨.inl (.inr (.inr (.inr ⟨h0, f, e⟩))), hoK q (.inr (.inr (.inr ⟨h0, f, e⟩)))⟩).lie (by omega)
      obtain ⟨c0, c1, c2⟩ := hc k (by omega)
      obtain ⟨d0, d1, d2⟩ := hd' k (by omega)
      rw [ea] at hca
      rw [eb] at hcb
      have HZ := Lib.hid (zip_take (l := l) (l' := l') (k := k) (by have := HLN.out.1; omega) (by have := HLN.out.2; omega))
      obtain ⟨fn, tmps, assign, body, hy, hR⟩ := HY.out o' _ (mkAt l k, mkAt l' k) wr.drew ((HJ.out o') _ _ _ none hJk hgd (fun _ e => by cases e)) (by rw [← HZ.out]; exact List.take_prefix _ _)
      have HR := Lib.hid hR
      have HC2 := Lib.hid hcalm2
      have HJK := Lib.hid hJk
      have hkn : (k : Int) < n := by omega
      have hkn' : (k : Int) < n' := by omega
      clear hc hd' hR hcalm2 hcal hd hgd hJk ea eb hca1 hcb1 hJ0 hok
      simp only [pkV, mkG] at hy
      generalize (mkAt l k).1 = u0 at *
      generalize (mkAt l k).2.1 = u1 at *
      generalize (mkAt l k).2.2 = u2 at *
      generalize (mkAt l' k).1 = v0 at *
      generalize (mkAt l' k).2.1 = v1 at *
      generalize (mkAt l' k).2.2 = v2 at *
      gi_wp2_with fail
      refine wpIn_wide_tail 9 (by kernel_rfl) (by kernel_rfl) (by kernel_rfl) ?_
      simp only [List.take_succ_cons, List.take_zero, List.drop_succ_cons, List.drop_zero]
      repeat still_step
      refine wpStill_nil ?_
      gi_wp2
      refine HR.out.mono ?_
      rintro e W3 ⟨o2, hc2, (⟨rfl, hJ3⟩ | ⟨rfl, hJ3⟩)⟩
      · gi_wp2
        go_roundw
        case rel => exact ⟨k + 1, by omega, by go_num, o2, by rw [HZ.out]; exact hJ3, HC2.out.trans hc2⟩
        case measure => simp [intOf]; omega
      · gi_wp2
        refine bodyPost_ret (results_none rfl _ _ _) rfl ?_
        exact ⟨⟨_, rfl⟩, o2, .inr ⟨_, by rw [← HZ.out]; exact List.take_prefix _ _, hJ3⟩⟩
    · obtain rfl : k = N := by omega
      gi_wp2
      go_end0
      exact ⟨⟨_, rfl⟩, o', .inl ⟨_, rfl, by rw [← HE.out]; exact hJk⟩⟩
end Go.Proofs.Ythmojdmdhabogaa
