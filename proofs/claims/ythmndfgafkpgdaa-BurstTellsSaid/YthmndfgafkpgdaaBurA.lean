/- What package burst's iterators hand on: the places of the ones among sixteen bits. Conditions: the number is of sixteen bits. -/
import Derived.Test.YthmndfgafkpgdaaProg
import Derived.Test.YthmndfgafkpgdaaBurD
import Derived.Test.YthmndfgafkpgdaaRng
import Derived.Test.YthmndfgafkpgdaaBysA
import Derived.Test.YthmndfgafkpgdaaLayers
import Derived.StillTailTactics
namespace Go.Proofs.Ythmndfgafkpgdaa
open Go.RowKit Go.Shelf

attribute [local go_sem] Oper.semAt_some

set_option maxRecDepth 100000 in
theorem len16_is (x : Int) (w : World) (h0 : 0 ≤ x) (h1 : x ≤ 65535) :
    Calls Try.prog 22 #[.int .u16 x] w fun e w' => e = .returned (.int .i64 (Lib.bitLen x.toNat)) ∧ w = w' := by
  by_cases c2 : 256 ≤ x
  · have d0 : 0 ≤ x / 256 := by omega
    have d1 : x / 256 ≤ 255 := by omega
    have d2 := len8_bd _ d0 d1
    have e := Lib.hid (len_at (x / 256) x.toNat 8 d1 (by omega) (by omega) (by omega))
    go_enter Try.func22, Try.ntmps22
    go_wp2
    go_ret
    exact ⟨ret_int e.out, rfl⟩
  · have d1 : x ≤ 255 := by omega
    have d2 := len8_bd _ h0 d1
    have e := Lib.hid (Lib.len8_of x h0 d1)
    go_enter Try.func22, Try.ntmps22
    go_wp2
    go_ret
    exact ⟨ret_int e.out, rfl⟩

theorem lead16_is (x z : Int) (w : World) (h0 : 0 ≤ x) (h1 : x ≤ 65535) (h : (Lib.bitLen x.toNat : Int) = 16 - z) :
    Calls Try.prog 21 #[.int .u16 x] w fun e w' => e = .returned (.int .i64 z) ∧ w = w' := by
  have c0 : Lib.bitLen x.toNat ≤ 16 := Lib.bitLen_le _ _ (by decide) (by omega)
  have e := Lib.hid h
  clear h
  go_enter Try.func21, Try.ntmps21
  go_wp2_with (go_at_call 22; (with_reducible refine (len16_is x _ h0 h1).mono ?_); rintro e w' ⟨rfl, rfl⟩)
  go_ret
  exact ⟨ret_int (by have := e.out; omega), rfl⟩

theorem burstOnes_is (x : Int) (w : World) :
    Calls Try.prog 17 #[.int .u16 x] w fun e w' => e = .returned (.func (.func 20) #[] #[.pointer (some ⟨w.heap.size, 0, none⟩)]) ∧ w.alloc (.cells #[.int .u16 x] 23) = w' := by
  go_enter Try.func17, Try.ntmps17
  go_wp2
  go_ret
  exact ⟨rfl, rfl⟩

set_option maxRecDepth 100000 in
set_option maxHeartbeats 1000000 in
theorem burstOnes_seq (m b : Nat) (x : Int) (w : World) (hm : 1 ≤ m) (h0 : 0 ≤ x) (h1 : x < 65536) (hb : b < w.heap.size) (hc : w.cell? ⟨b, 0, none⟩ = some (.int .u16 x)) :
    SeqR Fence.wide m Try.prog 20 #[.pointer (some ⟨b, 0, none⟩)] (fun y : Int => .int .i64 y) (fun _ => False) (fun xs => xs = onesOf x) (fun pre => pre <+: onesOf x) (fun p => p <+: onesOf x) w := fun l J Jx o W hW hJ hJx hJo hoK hY hJ0 => by
  have hc' := (hW.cell (p := ⟨b, 0, none⟩) hb).trans hc
  clear hc
  have HY := Lib.hid hY
  clear hY hJ hJx hJo hoK
  refine callsIn_of_wp Try.func20 rfl trivial ?_ rfl
  simp only [Try.ntmps20, List.size_toArray, List.length_cons, List.length_nil, Nat.reduceAdd, Nat.reduceSub, Array.replicate_succ, Array.replicate_zero, List.push_toArray, List.append_toArray, List.nil_append, List.cons_append]
  gi_wp2
  gi_loopw [3] (fun v wr => ∃ j : Nat, j ≤ 16 ∧ v = .int .u16 (x % 2 ^ (16 - j)) ∧ ∃ o', J o' (onesTo x j) wr) (fun v _ => (intOf v).toNat)
  case atStart => exact ⟨0, by omega, by rw [Int.emod_eq_of_lt h0 (by simpa using h1)], o, hJ0⟩
  case round =>
    obtain ⟨j, hj, rfl, o', hJs⟩ := hrel
    by_cases hz : x % 2 ^ (16 - j) = 0
    · have E := Lib.hid (ones_end h0 hj hz)
      rw [hz]
      clear hz
      gi_wp2
      go_end0
      exact ⟨⟨_, rfl⟩, o', .inl ⟨_, rfl, by rw [E.out]; exact hJs⟩⟩
    · obtain ⟨i, hi1, hi2, hlen, hone, hand, hdec⟩ := ones_step h0 hj hz
      have y0 := (mod_two_bd (16 - j) h0).1
      have y1 : x % 2 ^ (16 - j) ≤ 65535 := Int.le_trans (mod_two_bd (16 - j) h0).2 (by omega)
      have HL := Lib.hid hlen
      have HO := Lib.hid hone
      have HA := Lib.hid hand
      have HD := Lib.hid hdec
      have hne : (x % 2 ^ (16 - j) != 0) = true := by simpa using hz
      clear hlen hone hand hdec hz
      generalize x % 2 ^ (16 - j) = y at *
      have hi3 : (i : Int) < 16 := by omega
      obtain ⟨fn, tmps, assign, body, hy, hR⟩ := HY.out o' _ (i : Int) wr hJs (by rw [← HO.out]; exact onesTo_of (by omega))
      gi_wp2_with fail
      refine ⟨trivial, (callsIn_wide.2 (lead16_is y i _ y0 y1 HL.out)).mono ?_⟩
      rintro e w' ⟨rfl, rfl⟩
      gi_wp2
      refine hR.mono ?_
      rintro e W3 ⟨o2, hcalm, (⟨rfl, hJ3⟩ | ⟨rfl, hJ3⟩)⟩
      · gi_wp2
        go_roundw
        case rel => exact ⟨i + 1, by omega, by rw [← HA.out], o2, by rw [HO.out]; exact hJ3⟩
        case measure => have := HA.out; have := HD.out; simp [intOf]; omega
      · gi_wp2
        refine bodyPost_ret (results_none rfl _ _ _) rfl ?_
        exact ⟨⟨_, rfl⟩, o2, .inr ⟨_, by rw [← HO.out]; exact onesTo_of (by omega), hJ3⟩⟩

theorem burstDiffering_is (a a' : Option Addr) (n c n' c' : Nat) (w : World) :
    Calls Try.prog 14 #[.slice a n c, .slice a' n' c'] w fun e w' => e = .returned (.func (.func 19) #[] #[.pointer (some ⟨w.heap.size, 0, none⟩), .pointer (some ⟨w.heap.size + 1, 0, none⟩)]) ∧
      (w.alloc (.cells #[.slice a n c] 22)).alloc (.cells #[.slice a' n' c'] 22) = w' := by
  go_enter Try.func14, Try.ntmps14
  go_wp2
  go_ret
  exact ⟨rfl, rfl⟩

/-- The blocks that the walk through two texts reads. -/
def twoK (ba bb : Nat) (a a' : Option Addr) (n : Nat) (k : Nat) : Prop := k = ba ∨ k = bb ∨ (0 < n ∧ ((∃ off, a = some ⟨k, off, none⟩) ∨ ∃ off, a' = some ⟨k, off, none⟩))
theorem By.calm {K : Nat → Prop} {B : Nat} {o o' : Option Nat} {w w' : World} {a : Option Addr} {n c : Nat} {l : List Int} (h : By w a n c l) (hc : Calm K B o o' w w') (hK : ∀ k off, 0 < n → a = some ⟨k, off, none⟩ → (K k ∨ B ≤ k) ∧ o ≠ some k) : By w' a n c l := by
  refine ⟨h.len, h.cap, h.big, h.nil, h.bd, fun hn => ?_⟩
  obtain ⟨b, off, e, hcell⟩ := h.lie hn
  have := hK b off hn e
  exact ⟨b, off, e, fun i hi => hc.cell this.1 this.2 (hcell i hi)⟩
theorem grown_boxed (w : World) (t : TypeId) (v u : Value) : w.grownBy ((w.alloc (.cells #[v] t)).setCell ⟨w.heap.size, 0, none⟩ u) none := by
  have h1 := World.grownBy_alloc w (.cells #[v] t) none
  have h2 := grownBy_setCell' (w.alloc (.cells #[v] t)) w.heap.size u
  refine ⟨h2.os.trans h1.os, h2.tape.trans h1.tape, h2.output.trans h1.output, Nat.le_trans h1.size h2.size, fun k hk _ => ?_⟩
  rw [h2.block k (by simp; omega) (fun e => by cases e; omega)]
  exact h1.block k hk (by simp)

set_option maxRecDepth 100000 in
set_option maxHeartbeats 1000000 in
theorem burstDiffering_seq (m ba bb n c c' : Nat) (a a' : Option Addr) (l l' : List Int) (w : World) (hm : 4 ≤ m) (hn : n ≤ 1073741824) (hba : ba < w.heap.size) (hbb : bb < w.heap.size)
    (hca : w.cell? ⟨ba, 0, none⟩ = some (.slice a n c)) (hcb : w.cell? ⟨bb, 0, none⟩ = some (.slice a' n c')) (hB : By w a n c l) (hB' : By w a' n c' l') :
    SeqR Fence.wide m Try.prog 19 #[.pointer (some ⟨ba, 0, none⟩), .pointer (some ⟨bb, 0, none⟩)] (fun y : Int => .int .i64 y) (twoK ba bb a a' n)
      (fun xs => xs = diffs l l' n) (fun pre => pre <+: diffs l l' n) (fun p => p <+: diffs l l' n) w := fun L J Jx o W hW hJ hJx hJo hoK hY hJ0 => by
  have hca1 := (hW.cell (p := ⟨ba, 0, none⟩) hba).trans hca
  have hcb1 := (hW.cell (p := ⟨bb, 0, none⟩) hbb).trans hcb
  have hB1 := hB.keep hW (Nat.le_refl _)
  have hB1' := hB'.keep hW (Nat.le_refl _)
  have hoW := hJo o _ _ hJ0
  clear hca hcb hB hB'
  obtain ⟨W1, hW1⟩ : ∃ W1, W.alloc (.cells #[.func (.yield L) #[] #[]] 41) = W1 := ⟨_, rfl⟩
  have hsz := hW.size
  have hb1 := (Below.refl W.heap.size W).alloc (Nat.le_refl _) (.cells #[.func (.yield L) #[] #[]] 41)
  have hca2 := (hb1.cell (p := ⟨ba, 0, none⟩) (by show ba < W.heap.size; omega)).trans hca1
  have hcb2 := (hb1.cell (p := ⟨bb, 0, none⟩) (by show bb < W.heap.size; omega)).trans hcb1
  have hcy : (W.alloc (.cells #[.func (.yield L) #[] #[]] 41)).cell? ⟨W.heap.size, 0, none⟩ = some (.func (.yield L) #[] #[]) := (Boxed.new W _ _).cell
  have hB2 := hB1.keep hb1 (Nat.le_refl _)
  have hB2' := hB1'.keep hb1 (Nat.le_refl _)
  have hKlt : ∀ q, twoK ba bb a a' n q → q < W.heap.size := by
    rintro q (rfl | rfl | ⟨h0, ⟨off, e⟩ | ⟨off, e⟩⟩)
    · omega
    · omega
    · exact hB1.lt h0 _ _ e
    · exact hB1'.lt h0 _ _ e
  have hJ1 := (hJ o).alloc (.cells #[.func (.yield L) #[] #[]] 41) hJ0
  have hw1 : W1.heap.size = W.heap.size + 1 := by rw [← hW1]; simp
  refine callsIn_of_wp_marks Try.func19 rfl trivial ?_ rfl
  simp only [Try.ntmps19, List.size_toArray, List.length_cons, List.length_nil, Nat.reduceAdd, Nat.reduceSub, Array.replicate_succ, Array.replicate_zero, List.push_toArray, List.append_toArray, List.nil_append, List.cons_append]
  rw [hW1] at hca2 hcb2 hcy hB2 hB2' hJ1
  gi_wp2
  clear hW1 hb1 hca1 hcb1 hB1 hB1' hJ0
  refine wpIn_loop (fun ac wr => ∃ (ds : List Deferred) (k : Nat) (o' : Option Nat) (u4 u5 u9 u10 u11 u12 u13 u14 u15 u16 u17 u18 u19 u20 u21 u22 u23 u24 u25 u26 u27 u28 u29 u30 u31 : Value), ac = { tmps := #[.func (.yield L) #[] #[], .pointer (some ⟨ba, 0, none⟩), .pointer (some ⟨bb, 0, none⟩), .pointer (some ⟨W.heap.size, 0, none⟩), u4, u5, .slice a n c, .int .i64 n, .int .i64 k, u9, u10, u11, u12, u13, u14, u15, u16, u17, u18, u19, u20, u21, u22, u23, u24, u25, u26, u27, u28, u29, u30, u31], defers := ds } ∧ k ≤ n ∧
      J o' (diffs l l' k) wr ∧ Calm (twoK ba bb a a' n) W.heap.size o o' W1 wr ∧ Marks W.heap.size o' ds wr) (fun ac _ => n - (intOf (ac.tmps.getD 8 undef)).toNat) ?_ ?_
  · exact ⟨[], 0, o, _, _, _, _, _, _, _, _, _, _, _, _, _, _, _, _, _, _, _, _, _, _, _, _, _, rfl, by omega, hJ1, Calm.refl _ _ _ _, Marks.nil _ _ _⟩
  · rintro _ wr ⟨ds, k, o', u4, u5, u9, u10, u11, u12, u13, u14, u15, u16, u17, u18, u19, u20, u21, u22, u23, u24, u25, u26, u27, u28, u29, u30, u31, rfl, hk, hJk, hcal, hmk⟩
    have hok : ∀ q, twoK ba bb a a' n q → o' ≠ some q := fun q hq => hcal.off (by rw [hw1]; exact Nat.lt_succ_of_lt (hKlt q hq)) (hoK q hq)
    have hoy : o' ≠ some W.heap.size := hcal.off (by omega) (fun e => by have := hoW _ e; omega)
    have hor := hJo o' _ _ hJk
    have hsr := hcal.size
    have hca := hcal.cell (b := ba) (.inl (.inl rfl)) (hoK _ (.inl rfl)) hca2
    have hcb := hcal.cell (b := bb) (.inl (.inr (.inl rfl))) (hoK _ (.inr (.inl rfl))) hcb2
    have hcy3 := hcal.cell (b := W.heap.size) (.inr (Nat.le_refl _)) (fun e => by have := hoW _ e; omega) hcy
    have hBr := hB2.calm hcal fun q off h0 e => ⟨.inl (.inr (.inr ⟨h0, .inl ⟨off, e⟩⟩)), hoK q (.inr (.inr ⟨h0, .inl ⟨off, e⟩⟩))⟩
    have hBr' := hB2'.calm hcal fun q off h0 e => ⟨.inl (.inr (.inr ⟨h0, .inr ⟨off, e⟩⟩)), hoK q (.inr (.inr ⟨h0, .inr ⟨off, e⟩⟩))⟩
    by_cases hlt : k < n
    · have hk1 : ((k : Int) < n) := by omega
      obtain ⟨W2, hW2⟩ : ∃ W2, (wr.alloc (.cells #[.int .i64 0] 3)).setCell ⟨wr.heap.size, 0, none⟩ (.int .i64 k) = W2 := ⟨_, rfl⟩
      have hg2 : wr.grownBy W2 none := by rw [← hW2]; exact grown_boxed _ _ _ _
      have hs2 : W2.heap.size = wr.heap.size + 1 := by rw [← hW2]; simp
      have hcn : W2.cell? ⟨wr.heap.size, 0, none⟩ = some (.int .i64 k) := by rw [← hW2]; exact World.cell?_setCell_same' _ _ _ (by rw [(Boxed.new wr _ _).cell]; rfl)
      have hc12 := Calm.of_grown (K := twoK ba bb a a' n) (B := W.heap.size) (o := o') hg2 (fun _ e => by cases e)
      have hca3 := hc12.cell (b := ba) (.inl (.inl rfl)) (hok _ (.inl rfl)) hca
      have hcb3 := hc12.cell (b := bb) (.inl (.inr (.inl rfl))) (hok _ (.inr (.inl rfl))) hcb
      have hB3 := hBr.calm hc12 fun q off h0 e => ⟨.inl (.inr (.inr ⟨h0, .inl ⟨off, e⟩⟩)), hok q (.inr (.inr ⟨h0, .inl ⟨off, e⟩⟩))⟩
      have hB3' := hBr'.calm hc12 fun q off h0 e => ⟨.inl (.inr (.inr ⟨h0, .inr ⟨off, e⟩⟩)), hok q (.inr (.inr ⟨h0, .inr ⟨off, e⟩⟩))⟩
      have hx1 := hB3.bd.at (i := k) (by have := hB3.len; omega)
      have hx2 := hB3'.bd.at (i := k) (by have := hB3'.len; omega)
      have hcap := hB3.cap
      have hcap' := hB3'.cap
      have hbig := hB3.big
      have hbig' := hB3'.big
      unfold maxLen at hbig hbig'
      obtain ⟨qa, fa, ea, hya⟩ := hB3.lie (by omega)
      obtain ⟨qb, fb, eb, hyb⟩ := hB3'.lie (by omega)
      have ha := hya k hlt
      have hb := hyb k hlt
      rw [ea] at hca3
      rw [eb] at hcb3
      have EA := Lib.hid ea
      have EB := Lib.hid eb
      have HJ2 := Lib.hid ((hJ o') _ _ _ none hJk hg2 (fun _ e => by cases e))
      have HC := Lib.hid (hcal.trans hc12)
      have HM := Lib.hid (hmk.calm hc12)
      have HD := Lib.hid (diffs_succ (l := l) (m := l') (n := k) (by have := hB3.len; omega) (by have := hB3'.len; omega))
      have HY3 := Lib.hid (hc12.cell (b := W.heap.size) (.inr (Nat.le_refl _)) hoy hcy3)
      clear hya hyb hB3 hB3' hca hcb hcy3 hBr hBr' hcal hmk hJk hc12 hg2 ea eb
      have ex : bits .xor .u8 (byAt l k) (byAt l' k) = x8 (byAt l k) (byAt l' k) := bits_u8_xor
      have hx := x8_bd (byAt l k) (byAt l' k)
      generalize byAt l k = xa at *
      generalize byAt l' k = xb' at *
      generalize x8 xa xb' = y at *
      gi_wp2
      clear hW2
      refine wpIn_wide.2 ?_
      go_still_tail 11, (by kernel_rfl)
      have e1 : IntKind.u16.wrap y = y := by simp [IntKind.wrap, IntKind.bits, IntKind.signed]; omega
      have e2 : IntKind.u16.wrap (y * 256) = 256 * y := by simp [IntKind.wrap, IntKind.bits, IntKind.signed]; omega
      rw [e1, e2]
      change wpList _ _ _ _ _ W2.drew
      obtain ⟨W3, hW3⟩ : ∃ W3, W2.drew = W3 := ⟨_, rfl⟩
      have hs3 : W3.heap.size = W2.heap.size := by rw [← hW3]; rfl
      have hg3 : W2.grownBy W3 none := by rw [← hW3]; exact ⟨rfl, rfl, rfl, Nat.le_refl _, fun _ _ _ => rfl⟩
      rw [hW3]
      clear hca3 hcb3 ha hb ex e1 e2 hW3
      go_wp2_with (go_at_call 17; (with_reducible refine (burstOnes_is (256 * y) _).mono ?_); rintro e W4 ⟨rfl, hW4⟩)
      have hs4 : W4.heap.size = W3.heap.size + 1 := by rw [← hW4]; simp
      have hc4 : W4.cell? ⟨W3.heap.size, 0, none⟩ = some (.int .u16 (256 * y)) := by rw [← hW4]; exact (Boxed.new W3 _ _).cell
      have hg4 : W3.grownBy W4 none := by rw [← hW4]; exact World.grownBy_alloc _ _ _
      have hc24 := (Calm.of_grown (K := twoK ba bb a a' n) (B := W.heap.size) (o := o') hg3 (fun _ e => by cases e)).trans (Calm.of_grown (o := o') hg4 (fun _ e => by cases e))
      have HJ4 := Lib.hid ((hJ o') _ _ _ none ((hJ o') _ _ _ none HJ2.out hg3 (fun _ e => by cases e)) hg4 (fun _ e => by cases e))
      have HY4 := hc24.cell (b := W.heap.size) (.inr (Nat.le_refl _)) hoy HY3.out
      have hn4 := hc24.cell (b := wr.heap.size) (.inr (by omega)) (fun e => by have := hor _ e; omega) hcn
      have HM4 := Lib.hid (HM.out.calm hc24)
      have HC4 := Lib.hid (HC.out.trans hc24)
      rw [show W3.heap.size = wr.heap.size + 1 by omega] at hc4
      have hor4 : ∀ q, o' = some q → q < wr.heap.size := hor
      clear hW4 HJ2 HC HM hc24 hg3 hg4 hcn HY3 hcb2 hca2 hcy hB2 hB2' hJ1
      gi_wp2
      refine wpIn_rangeR rfl (by omega) (gf := 20) (lb := #[.pointer (some ⟨wr.heap.size + 1, 0, none⟩)]) rfl trivial (enters_of Try.func20 (by kernel_rfl) rfl)
        (burstOnes_seq (m - 1) (wr.heap.size + 1) (256 * y) W4 (by omega) (by omega) (by omega) (by omega) hc4) (Below.refl _ _) (fun _ h => h.elim) rfl
        (fun o2 pre X => J o2 (diffs l l' k ++ pre.map (fun i => 8 * (k : Int) + i)) X ∧ Calm (twoK ba bb a a' n) W.heap.size o' o2 W4 X)
        (fun cd o2 pre X => (cd = .ret ∧ Jx o2 (diffs l l' k ++ pre.map (fun i => 8 * (k : Int) + i)) X) ∧ Calm (twoK ba bb a a' n) W.heap.size o' o2 W4 X)
        (fun o2 => OwnFrom.and (fun s A B row hs hg hr => hJ o2 _ A B row hs hg (fun r e => ⟨by have := (hr r e).1; omega, (hr r e).2⟩)) (ownFrom_calm (Nat.le_refl _)))
        (fun cd o2 => OwnFrom.and (fun s A B row hs hg hr => ⟨hs.1, hJx o2 _ A B row hs.2 hg (fun r e => ⟨by have := (hr r e).1; omega, (hr r e).2⟩)⟩) (ownFrom_calm (Nat.le_refl _)))
        (fun o2 xs X h => hJo o2 _ X h.1) o' (fun _ h => h.elim) ⟨by simpa using HJ4.out, Calm.refl _ _ _ _⟩
        (fun x => { tmps := #[.func (.yield L) #[] #[], .pointer (some ⟨ba, 0, none⟩), .pointer (some ⟨bb, 0, none⟩), .pointer (some ⟨W.heap.size, 0, none⟩), .pointer (some ⟨wr.heap.size, 0, none⟩), .int .i64 x, .slice a n c, .int .i64 n, .int .i64 k, .bool true, .int .i64 k,
          .slice (some ⟨qa, fa, none⟩) n c, .int .i64 k, .pointer (some ⟨qa, fa + k, none⟩), .int .u8 xa, .slice (some ⟨qb, fb, none⟩) n c', .int .i64 k, .pointer (some ⟨qb, fb + k, none⟩), .int .u8 xb', .int .u8 y, .int .u16 y, .int .u16 (256 * y),
          .func (.func 20) #[] #[.pointer (some ⟨wr.heap.size + 1, 0, none⟩)], .int .i64 x, u24, u25, u26, u27, u28, u29, u30, u31], defers := [] }) ?assign ?body ?done ?stop
      case assign =>
        intro l2 x X Kc hKc
        gi_wp2
        exact hKc
      case body =>
        rintro l2 o2 pre x X ⟨hJX, hcX⟩ hT
        have hyX := hcX.cell (b := W.heap.size) (.inr (Nat.le_refl _)) hoy HY4
        have hnX := hcX.cell (b := wr.heap.size) (.inr (by omega)) (fun e => by have := hor4 _ e; omega) hn4
        have hxb := onesOf_bd (mem_pre hT)
        have h3m : 1 ≤ m - 1 - 1 := by omega
        obtain ⟨fn, tmps, assign, body, hy, hR⟩ := hY o2 _ (8 * (k : Int) + x) X hJX (by
          rw [List.append_assoc]
          refine List.IsPrefix.trans ?_ (diffs_pre (Nat.succ_le_of_lt hlt))
          rw [HD.out]
          refine (List.prefix_append_right_inj _).2 ?_
          have := hT.map (fun i => 8 * (k : Int) + i)
          rwa [List.map_append] at this)
        have HR := Lib.hid hR
        have HcX := Lib.hid hcX
        clear hR hcX hJX hT
        gi_wp2
        refine (round_any HR.out).mono ?_
        rintro e X2 ⟨o3, hc3, (⟨rfl, hJ3⟩ | ⟨rfl, hJ3⟩)⟩
        · gi_wp2
          exact ⟨o3, hc3.weak (fun _ h => h.elim) (by omega), by rw [List.map_append, ← List.append_assoc]; exact hJ3, HcX.out.trans hc3⟩
        · gi_wp2
          exact ⟨o3, hc3.weak (fun _ h => h.elim) (by omega), ⟨rfl, by rw [List.map_append, ← List.append_assoc]; exact hJ3⟩, HcX.out.trans hc3⟩
      case done =>
        rintro D o2 xs X hD rfl ⟨hJX, hcX⟩ hdef hne
        rw [← HD.out] at hJX
        have HMX := Lib.hid (HM4.out.cons hcX (by omega) hD hdef hne)
        have HcX := Lib.hid (HC4.out.trans hcX)
        clear hdef hne hcX
        gi_wp2
        exact ⟨⟨_, k + 1, o2, _, _, _, _, _, _, _, _, _, _, _, _, _, _, _, _, _, _, _, _, _, _, _, _, _, rfl, by omega, hJX, HcX.out, HMX.out⟩, by simp [intOf]; omega⟩
      case stop =>
        rintro D cd o2 pre X hD hSp ⟨⟨rfl, hJX⟩, hcX⟩ hdef hne
        have HMX := Lib.hid (HM4.out.cons hcX (by omega) hD hdef hne)
        have HP := Lib.hid (show diffs l l' k ++ pre.map (fun i => 8 * (k : Int) + i) <+: diffs l l' n by
          refine List.IsPrefix.trans ?_ (diffs_pre (Nat.succ_le_of_lt hlt))
          rw [HD.out]
          exact (List.prefix_append_right_inj _).2 (List.IsPrefix.map _ hSp))
        clear hdef hne hcX hSp
        gi_wp2
        refine leaves_marks (o := o2) (B := W.heap.size) (X := fun X => Jx o2 (diffs l l' k ++ pre.map (fun i => 8 * (k : Int) + i)) X) (fun X D hx hD hh => (hJx o2).putObj _ hx hD hh rfl) (fun X hx => ?_) _ X hJX HMX.out
        exact ⟨_, results_none rfl _ _ _, ⟨_, rfl⟩, o2, .inr ⟨_, HP.out, hx⟩⟩
    · obtain rfl : k = n := by omega
      gi_wp2
      refine leaves_marks (o := o') (B := W.heap.size) (X := fun W' => J o' (diffs l l' k) W') (fun X D hx hD hh => (hJ o').putObj _ hx hD hh rfl) (fun X hx => ?_) ds wr hJk hmk
      exact ⟨_, results_none rfl _ _ _, ⟨_, rfl⟩, o', .inl ⟨_, rfl, hx⟩⟩
end Go.Proofs.Ythmndfgafkpgdaa
