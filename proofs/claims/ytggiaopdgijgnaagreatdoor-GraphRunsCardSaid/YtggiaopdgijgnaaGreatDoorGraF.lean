/- Package graph: the same ways the other way round. Conditions: ways lie in memory; no more than 60 places. -/
import Derived.Test.YtggiaopdgijgnaaGreatDoorGraA
import Derived.Test.YtggiaopdgijgnaaGreatDoorFree
import Derived.BigRegion
import Derived.Deep.RegionLaw
import Derived.Deep.DeepCutAuto
namespace Go.Proofs.YtggiaopdgijgnaaGreatDoor
open Go.RowKit Go.IntWalk

theorem BlkAt.al {b : Nat} {T : TypeId} {cs : Array Value} {w : World} (h : BlkAt b T cs w) (o : Obj) : BlkAt b T cs (w.alloc o) := h.keep ((Below.refl _ _).alloc (Nat.le_refl _) o)
theorem BlkAt.dr {b : Nat} {T : TypeId} {cs : Array Value} {w : World} (h : BlkAt b T cs w) : BlkAt b T cs w.drew := h
theorem BlkAt.type_eq {b : Nat} {T T' : TypeId} {cs cs' : Array Value} {w : World} (h : BlkAt b T cs w) (h' : BlkAt b T' cs' w) : T = T' := by
  have e := Option.some.inj (h.symm.trans h')
  injection e
theorem Ar.ne_blk {κ : IntKind} {T T' : TypeId} {b b' n : Nat} {f : Nat → Int} {cs : Array Value} {w : World} (h : Ar κ T b n f w) (h' : BlkAt b' T' cs w) (hT : T ≠ T') : b ≠ b' := fun e => by
  subst e
  exact hT (BlkAt.type_eq h h')
/-- Where numbers lie is a block of numbers. -/
def I32At (a : Option Addr) (w : World) : Prop := ∀ b off, a = some ⟨b, off, none⟩ → ∃ cs, BlkAt b 21 cs w
theorem I32At.keep {a : Option Addr} {w w' : World} (h : I32At a w) (k : Below w.heap.size w w') : I32At a w' := fun b off e => by
  obtain ⟨cs, h1⟩ := h b off e
  exact ⟨cs, h1.keep k⟩
theorem size_dr (w : World) : w.drew.heap.size = w.heap.size := rfl
/-! ### What its numbers are -/
def turnA (F : List Int) (k i : Nat) : Int := ((F.take k).count ((i : Int) - 2) : Nat)
def turnE (F : List Int) (k i : Nat) : Int := if i < k + 2 then (Gra.under F ((i : Int) - 1) : Nat) else (F.count ((i : Int) - 2) : Nat)
def turnF (F : List Int) (t i : Nat) : Int := (Gra.under F ((i : Int) - 1) + (F.take t).count ((i : Int) - 1) : Nat)
theorem turnA_next {F : List Int} {k j : Nat} (hk : k < F.length) (e : F[k] = (j : Int)) (i : Nat) : upn (turnA F k) (j + 2) (turnA F k (j + 2) + 1) i = turnA F (k + 1) i := by
  have h := Gra.count_step F ((i : Int) - 2) hk
  unfold upn turnA
  by_cases q : i = j + 2
  · subst q
    rw [if_pos rfl, h, if_pos (by omega)]
    omega
  · rw [if_neg q, h, if_neg (by omega)]
    omega
theorem turnA_all (F : List Int) (h : ∀ x ∈ F, 0 ≤ x) (i : Nat) : turnA F F.length i = turnE F 0 i := by
  unfold turnA turnE
  rw [List.take_length]
  by_cases q : i < 2
  · rw [if_pos (by omega), Gra.under_none fun x hx => by have := h x hx; omega, List.count_eq_zero.2 fun hx => by have := h _ hx; omega]
  · rw [if_neg (by omega)]
theorem turnE_next (F : List Int) (k i : Nat) : upn (turnE F k) (k + 2) (turnE F k (k + 2) + turnE F k (k + 1)) i = turnE F (k + 1) i := by
  have h := Gra.under_succ F k
  unfold upn turnE
  by_cases q : i = k + 2
  · subst q
    rw [if_pos rfl, if_neg (by omega), if_pos (by omega), if_pos (by omega), show (((k + 2 : Nat) : Int) - 2) = k by omega, show (((k + 1 : Nat) : Int) - 1) = k by omega, show (((k + 2 : Nat) : Int) - 1) = (k : Int) + 1 by omega, h]
    omega
  · rw [if_neg q]
    by_cases r : i < k + 2
    · rw [if_pos r, if_pos (by omega)]
    · rw [if_neg r, if_neg (by omega)]
theorem turnE_all (F : List Int) {n i : Nat} (h : i < n + 2) : turnE F n i = turnF F 0 i := by
  unfold turnE turnF
  rw [if_pos h]
  simp
theorem turnF_next {F : List Int} {t j : Nat} (hk : t < F.length) (e : F[t] = (j : Int)) (i : Nat) : upn (turnF F t) (j + 1) (turnF F t (j + 1) + 1) i = turnF F (t + 1) i := by
  have h := Gra.count_step F ((i : Int) - 1) hk
  unfold upn turnF
  by_cases q : i = j + 1
  · subst q
    rw [if_pos rfl, h, if_pos (by omega)]
    omega
  · rw [if_neg q, h, if_neg (by omega)]
    omega
theorem turnF_pos (F : List Int) (t j : Nat) : turnF F t (j + 1) = (Gra.posn F t (j : Int) : Nat) := by
  unfold turnF Gra.posn
  rw [show (((j + 1 : Nat) : Int) - 1) = j by omega]
theorem turnF_all (F : List Int) (i : Nat) : turnF F F.length i = (Gra.under F (i : Int) : Nat) := by
  have h := Gra.under_succ F ((i : Int) - 1)
  rw [show (i : Int) - 1 + 1 = i by omega] at h
  unfold turnF
  rw [List.take_length, ← h]
theorem turnE_bd (F : List Int) (k i : Nat) : 0 ≤ turnE F k i ∧ turnE F k i ≤ F.length := by
  unfold turnE
  split
  · have := Gra.under_le F ((i : Int) - 1); omega
  · have := List.count_le_length (a := (i : Int) - 2) (l := F); omega
theorem turnA_bd (F : List Int) (k i : Nat) : 0 ≤ turnA F k i ∧ turnA F k i ≤ F.length := by
  unfold turnA
  have := List.count_le_length (a := (i : Int) - 2) (l := F.take k)
  rw [List.length_take] at this
  omega
theorem HK_below {w wc wr : World} {be bt : Nat} (h : Below w.heap.size w wc) (hK : Keeps (fun j => j = be ∨ j = bt) wc wr) (h1 : w.heap.size ≤ be) (h2 : w.heap.size ≤ bt) : Below w.heap.size w wr :=
  hK.below h h.size fun j e => by omega
theorem turned_done {w : World} {bt be m n : Nat} {L : List (List Int)} {tf : Nat → Int} {T : TypeId} (hE : Ar .i32 T be (n + 2) (turnF L.flatten L.flatten.length) w) (hT : Ar .i32 T bt m tf w) (hP : Gra.Put L tf L.length 0) (hm : L.flatten.length = m) (hn : L.length = n) (hb : m ≤ 200) (hb2 : n ≤ 60) :
    ∃ L', WayG w (some ⟨bt, 0, none⟩) m m (some ⟨be, 0, none⟩) (n + 1) (n + 2) L' ∧ L'.length = n ∧ ∀ q, q < n → ∀ x, x ∈ el L' q ↔ ∃ p : Nat, p < L.length ∧ x = p ∧ (q : Int) ∈ el L p := by
  have hle : ∀ q : Int, Gra.under L.flatten q ≤ m := fun q => by rw [← hm]; exact Gra.under_le _ _
  obtain ⟨L', hL'⟩ : ∃ L', ((List.range n).map fun q : Nat => (((List.range m).map tf).drop (Gra.under L.flatten (q : Int))).take (Gra.under L.flatten ((q : Int) + 1) - Gra.under L.flatten (q : Int))) = L' := ⟨_, rfl⟩
  have hlen : L'.length = n := by rw [← hL']; simp
  have hel : ∀ q, q < n → el L' q = (((List.range m).map tf).drop (Gra.under L.flatten (q : Int))).take (Gra.under L.flatten ((q : Int) + 1) - Gra.under L.flatten (q : Int)) := fun q hq => by
    rw [← hL']
    unfold el
    rw [List.getD_eq_getElem?_getD, List.getElem?_map, List.getElem?_range hq]
    rfl
  refine ⟨L', ⟨⟨(List.range m).map tf, (List.range (n + 1)).map fun i : Nat => (Gra.under L.flatten (i : Int) : Int), hT.ws (by unfold maxLen; omega), ⟨by simp, by omega, by unfold maxLen; omega, fun e => (nomatch e), fun _ => ⟨be, 0, rfl, fun i hi => ?_⟩⟩, fun p hp => ?_⟩, by rw [hlen]⟩, hlen, fun q hq x => ?_⟩
  · rw [Nat.zero_add, hE.cell (by omega), turnF_all]
    congr 2
    unfold byAt
    rw [List.getD_eq_getElem?_getD, List.getElem?_map, List.getElem?_range hi]
    rfl
  · rw [hlen] at hp
    have e : ∀ i, i < n + 1 → byAt ((List.range (n + 1)).map fun i : Nat => (Gra.under L.flatten (i : Int) : Int)) i = (Gra.under L.flatten (i : Int) : Nat) := fun i hi => by
      unfold byAt
      rw [List.getD_eq_getElem?_getD, List.getElem?_map, List.getElem?_range hi]
      rfl
    refine ⟨_, _, e p (by omega), e (p + 1) (by omega), Gra.under_mono _ (by omega), hle _, ?_⟩
    rw [hel p hp]
    rfl
  · rw [hel q hq, ← show ((∃ p : Nat, ∃ hp : p < L.length, x = p ∧ (q : Int) ∈ L[p]) ↔ ∃ p : Nat, p < L.length ∧ x = p ∧ (q : Int) ∈ el L p) from
      ⟨fun ⟨p, hp, h1, h2⟩ => ⟨p, hp, h1, by rw [← el_eq hp]; exact h2⟩, fun ⟨p, hp, h1, h2⟩ => ⟨p, hp, h1, by rw [el_eq hp]; exact h2⟩⟩, ← hP.mem]
    have h1 := Gra.under_mono L.flatten (show (q : Int) ≤ (q : Int) + 1 by omega)
    have h2 := hle ((q : Int) + 1)
    generalize Gra.under L.flatten (q : Int) = lo at *
    generalize Gra.under L.flatten ((q : Int) + 1) = hi at *
    rw [List.mem_iff_getElem?]
    constructor
    · rintro ⟨j, hj⟩
      rw [List.getElem?_take] at hj
      by_cases hjl : j < hi - lo
      · rw [if_pos hjl, List.getElem?_drop, List.getElem?_map, List.getElem?_range (by omega)] at hj
        exact ⟨lo + j, by omega, by omega, by simpa using hj⟩
      · rw [if_neg hjl] at hj; cases hj
    · rintro ⟨i, i1, i2, rfl⟩
      refine ⟨i - lo, ?_⟩
      rw [List.getElem?_take, if_pos (by omega), List.getElem?_drop, List.getElem?_map, List.getElem?_range (by omega), show lo + (i - lo) = i by omega]
      rfl
/-- What turned makes at first. -/
def TurnR (w : World) (n m : Nat) (s3 : Value) (wx : World) : Prop := ∃ bx bt be, s3 = .pointer (some ⟨bx, 0, none⟩) ∧ BlkAt bx 60 #[.slice (some ⟨bt, 0, none⟩) m m, .slice (some ⟨be, 0, none⟩) (n + 2) (n + 2)] wx ∧ Ar .i32 21 bt m (fun _ => 0) wx ∧ Ar .i32 21 be (n + 2) (fun _ => 0) wx ∧ bt ≠ be ∧ w.heap.size ≤ bx ∧ w.heap.size ≤ bt ∧ w.heap.size ≤ be ∧ Below w.heap.size w wx
set_option maxRecDepth 100000 in
set_option maxHeartbeats 4000000 in
theorem graTurned_is {w : World} {a a' : Option Addr} {m c n c' : Nat} {L : List (List Int)} (h : WaysAt w a m c a' (n + 1) c' L) (hn : n ≤ 60) (hm : m ≤ 200) (hL : ∀ x ∈ L.flatten, 0 ≤ x ∧ x < n) :
    Calls Tryz.prog 35 #[.agg #[.slice a m c, .slice a' (n + 1) c']] w fun e w' => ∃ v, e = .returned v ∧
      (∃ a m c a' n1 c' L', v = .agg #[.slice a m c, .slice a' n1 c'] ∧ WayG w' a m c a' n1 c' L' ∧ L'.length = n ∧ m ≤ 200 ∧ (∀ q, q < n → ∀ x, x ∈ el L' q ↔ ∃ p : Nat, p < L.length ∧ x = p ∧ (q : Int) ∈ el L p) ∧ I32At a w' ∧ I32At a' w') ∧ Below w.heap.size w w' := by
  obtain ⟨i0, hi, hz0, hz1, hz2⟩ := info_parts infoI32
  have hmk := run_zeros (P := Tryz.prog) 23 21 i0 Tryz.underlying23 hi hz0 hz1 m (by rw [hz2]; omega) (by unfold maxLen; omega) m rfl
  have hmk2 := run_zeros (P := Tryz.prog) 23 21 i0 Tryz.underlying23 hi hz0 hz1 (n + 2) (by rw [hz2]; omega) (by unfold maxLen; omega) (n + 2) (by omega)
  have hLn : L.length = n := by have := h.len; omega
  have H := Lib.hid h
  have HL := Lib.hid hL
  have HLn := Lib.hid hLn
  have hn' : (n : Int) ≤ 60 := by omega
  have hm' : (m : Int) ≤ 200 := by omega
  clear h hL hLn
  go_enter Tryz.func35, Tryz.ntmps35
  go_upto_region 1 with (fail)
  obtain ⟨W0, hW0⟩ : ∃ W0, (w.alloc (.cells #[.slice a m c, .slice a' (n + 1) c'] 60)).alloc (.cells #[.slice none 0 0, .slice none 0 0] 60) = W0 := ⟨_, rfl⟩
  have hx : BlkAt w.heap.size 60 #[.slice a m c, .slice a' (n + 1) c'] W0 := hW0 ▸ (BlkAt.new w _ _).al _
  have hr : BlkAt (w.heap.size + 1) 60 #[.slice none 0 0, .slice none 0 0] W0 := hW0 ▸ BlkAt.newb _ _ _ (by simp)
  have HX := Lib.hid hx
  have HR := Lib.hid hr
  have HB0 := Lib.hid (show Below w.heap.size w W0 from hW0 ▸ ((Below.refl _ _).alloc (Nat.le_refl _) _).alloc (by simp) _)
  rw [hW0]
  have hlt := hr.lt
  clear hW0 hr
  go_cut [3] (fun s3 wx => TurnR W0 n m s3 wx)
  case first =>
    have hw1 : IntKind.i64.wrap ((n : Int) + 2) = (n : Int) + 2 := IntWalk.i64_in _ (by omega)
    clear hx
    refine wp_region_free (fun w' => Below W0.drew.heap.size W0.drew w') [(0, 0, 11, 2), (1, 1, 12, 1024), (2, 2, 13, 2048), (3, 4, 14, 4096), (4, 0, 15, 2), (5, 16, 16, 16384), (6, 32, 17, 32768), (7, 64, 18, 65536), (8, 136, 19, 139264), (9, 0, 4, 0), (10, 1023, 0, 262152)] 10 [(0, 10), (1, 11), (2, 12), (3, 13), (4, 14), (5, 15), (6, 16), (7, 17), (8, 18), (9, 3)] [(0, []), (1, [(0, 10)]), (2, [(1, 11)]), (3, [(2, 12)]), (4, []), (5, [(4, 14)]), (6, [(5, 15)]), (7, [(6, 16)]), (8, [(3, 13), (7, 17)]), (9, [])] [(false, 10, 2047)] [3, 7, 9]
      (fun i v w' => match i with
        | 0 => v = .pointer (some ⟨w.heap.size, 0, none⟩)
        | 1 => v = .slice a m c
        | 2 => v = .int .i64 m
        | 3 => ∃ b, v = .slice (some ⟨b, 0, none⟩) m m ∧ Ar .i32 21 b m (fun _ => 0) w' ∧ W0.heap.size ≤ b
        | 4 => v = .agg #[.slice a m c, .slice a' (n + 1) c']
        | 5 => v = .int .i64 n
        | 6 => v = .int .i64 ((n : Int) + 2)
        | 7 => ∃ b, v = .slice (some ⟨b, 0, none⟩) (n + 2) (n + 2) ∧ Ar .i32 21 b (n + 2) (fun _ => 0) w' ∧ W0.heap.size ≤ b
        | 8 => ∃ b b', v = .agg #[.slice (some ⟨b, 0, none⟩) m m, .slice (some ⟨b', 0, none⟩) (n + 2) (n + 2)] ∧ Ar .i32 21 b m (fun _ => 0) w' ∧ Ar .i32 21 b' (n + 2) (fun _ => 0) w' ∧ b ≠ b' ∧ W0.heap.size ≤ b ∧ W0.heap.size ≤ b'
        | 9 => ∃ b, v = .pointer (some ⟨b, 0, none⟩) ∧ BlkAt b 60 #[.slice none 0 0, .slice none 0 0] w' ∧ W0.heap.size ≤ b
        | _ => True) (by kernel_rfl) (by kernel_rfl) (by kernel_rfl) (by kernel_rfl) (by kernel_rfl) (fun _ h => h) ?_ ?_ ?_
    · intro i v w1 w2 h hb
      match i, h with
      | 0, h | 1, h | 2, h | 4, h | 5, h | 6, h => exact h
      | 3, ⟨b, e, h, h'⟩ | 7, ⟨b, e, h, h'⟩ => exact ⟨b, e, h.keep hb, h'⟩
      | 8, ⟨b, b', e, h1, h2, h3⟩ => exact ⟨b, b', e, h1.keep hb, h2.keep hb, h3⟩
      | 9, ⟨b, e, h, h'⟩ => exact ⟨b, e, h.keep hb, h'⟩
      | _ + 10, _ => trivial
    · refine ⟨?_, ?_, ?_, ?_, ?_, ?_, ?_, ?_, ?_, ?_, trivial⟩
      · intro o ho vals w1 hb hd hne
        cases ho
        exact .val (v := .pointer (some ⟨w.heap.size, 0, none⟩)) (w' := w1) (by simp [frA, execOp, Act.put, Act.eval, go_sem]) ⟨rfl, Below.refl _ _, fun q => by simp at q⟩
      · intro o ho vals w1 hb hd hne
        cases ho
        have e0 : vals 0 = _ := hd (0, 10) (.head _)
        have g0 := (BlkAt.keep (w := W0.drew) HX.out hb).cell 0
        exact .val (v := .slice a m c) (w' := w1) (by simp [frA, execOp, Act.put, Act.eval, go_sem, e0, g0]) ⟨rfl, Below.refl _ _, fun q => by simp at q⟩
      · intro o ho vals w1 hb hd hne
        cases ho
        have e0 : vals 1 = _ := hd (1, 11) (.head _)
        exact .val (v := .int .i64 m) (w' := w1) (by simp [frA, execOp, Act.put, Act.eval, go_sem, e0]) ⟨rfl, Below.refl _ _, fun q => by simp at q⟩
      · intro o ho vals w1 hb hd hne
        cases ho
        have e0 : vals 2 = _ := hd (2, 12) (.head _)
        exact .val (v := .slice (some ⟨w1.heap.size, 0, none⟩) m m) (by simp [frA, execOp, Act.put, Act.eval, go_sem, e0, hmk]) ⟨⟨_, rfl, Ar.zeros w1 rfl, hb.size⟩, (Below.refl _ _).alloc (Nat.le_refl _) _, fun _ => ⟨_, rfl, Nat.le_refl _, by simp⟩⟩
      · intro o ho vals w1 hb hd hne
        cases ho
        have g0 := (BlkAt.keep (w := W0.drew) HX.out hb).cell 0
        have g1 := (BlkAt.keep (w := W0.drew) HX.out hb).cell 1
        exact .val (v := .agg #[.slice a m c, .slice a' (n + 1) c']) (w' := w1) (by simp [frA, execOp, Act.put, Act.eval, go_sem, g0, g1]) ⟨rfl, Below.refl _ _, fun q => by simp at q⟩
      · intro o ho vals w1 hb hd hne
        cases ho
        have e0 : vals 4 = _ := hd (4, 14) (.head _)
        refine .call (f := 47) (vs := #[.agg #[.slice a m c, .slice a' (n + 1) c']]) (by simp [frA, execOp, Act.put, Act.eval, go_sem, e0]) ((graSize_is (n := n) _ _ _ (by omega)).mono ?_)
        rintro e w' ⟨rfl, hq⟩
        exact ⟨_, rfl, rfl, hq, fun q => by simp at q⟩
      · intro o ho vals w1 hb hd hne
        cases ho
        have e0 : vals 5 = _ := hd (5, 15) (.head _)
        exact .val (v := .int .i64 ((n : Int) + 2)) (w' := w1) (by simp [frA, execOp, Act.put, Act.eval, go_sem, e0, hw1]) ⟨rfl, Below.refl _ _, fun q => by simp at q⟩
      · intro o ho vals w1 hb hd hne
        cases ho
        have e0 : vals 6 = _ := hd (6, 16) (.head _)
        exact .val (v := .slice (some ⟨w1.heap.size, 0, none⟩) (n + 2) (n + 2)) (by simp [frA, execOp, Act.put, Act.eval, go_sem, e0, hmk2]) ⟨⟨_, rfl, Ar.zeros w1 rfl, hb.size⟩, (Below.refl _ _).alloc (Nat.le_refl _) _, fun _ => ⟨_, rfl, Nat.le_refl _, by simp⟩⟩
      · intro o ho vals w1 hb hd hne
        cases ho
        obtain ⟨b, e3, h3, g3⟩ := hd (3, 13) (.head _)
        obtain ⟨b', e7, h7, g7⟩ := hd (7, 17) (.tail _ (.head _))
        have hne := hne (3, 13) (.head _) (7, 17) (.tail _ (.head _)) (by simp) (by simp) (by simp)
        simp only at e3 e7 hne
        rw [e3, e7] at hne
        exact .val (v := .agg #[.slice (some ⟨b, 0, none⟩) m m, .slice (some ⟨b', 0, none⟩) (n + 2) (n + 2)]) (w' := w1) (by simp [frA, execOp, Act.put, Act.eval, go_sem, e3, e7]) ⟨⟨b, b', rfl, h3, h7, fun e => hne (by rw [e]; rfl), g3, g7⟩, Below.refl _ _, fun q => by simp at q⟩
      · intro o ho vals w1 hb hd hne
        cases ho
        exact .val (v := .pointer (some ⟨w1.heap.size, 0, none⟩)) (by simp [execOp, go_sem]) ⟨⟨_, rfl, BlkAt.new _ _ _, hb.size⟩, (Below.refl _ _).alloc (Nat.le_refl _) _, fun _ => ⟨_, rfl, Nat.le_refl _, by simp⟩⟩
    · intro vals a1 w1 hI
      have e := hI.frame (by kernel_rfl) (by kernel_rfl)
      subst e
      have e0 : vals 0 = _ := hI.psi 0 (by omega) (by decide)
      have e1 : vals 1 = _ := hI.psi 1 (by omega) (by decide)
      have e2 : vals 2 = _ := hI.psi 2 (by omega) (by decide)
      have e4 : vals 4 = _ := hI.psi 4 (by omega) (by decide)
      have e5 : vals 5 = _ := hI.psi 5 (by omega) (by decide)
      have e6 : vals 6 = _ := hI.psi 6 (by omega) (by decide)
      obtain ⟨b, b', e8, h1, h2, h3, h4, h5⟩ := hI.psi 8 (by omega) (by decide)
      obtain ⟨bx, e9, h6, h7⟩ := hI.psi 9 (by omega) (by decide)
      have HI := Lib.hid hI
      generalize vals 3 = v3 at *
      generalize vals 7 = v7 at *
      have f0 := h6.free 0
      have f1 := h6.free 1
      have c0 := h6.cell 0
      have c1 := h6.cell 1
      refine SeqH.step rfl rfl fun K hK => ?_
      simp only [frA, List.foldl, e0, e1, e2, e4, e5, e6, e8, e9]
      go_simp
      refine hK _ _ ?_ (SeqH.done (NoPanic.normal ?_))
      · exact (HI.out.below.setCell (p := ⟨bx, 0, none⟩) h7 _).setCell (p := ⟨bx, 1, none⟩) h7 _
      · go_wp2_with fail
        go_meet
        have hbx : ∀ {b n T f}, Ar .i32 T b n f w1 → T ≠ 60 → b ≠ bx := fun h hT e => by
          subst e
          exact hT (BlkAt.type_eq h h6)
        have hb0 : Below W0.heap.size W0 w1 := (Below.refl _ _).drew.trans HI.out.below
        have hs := HB0.out.size
        have hk2 : Keeps (fun j => j = bx) w1 ((w1.setCell ⟨bx, 0, none⟩ (.slice (some ⟨b, 0, none⟩) m m)).setCell ⟨bx, 1, none⟩ (.slice (some ⟨b', 0, none⟩) (n + 2) (n + 2))) := (Keeps.set1 _ _ _ _).trans (Keeps.set1 _ _ _ _)
        exact ⟨bx, b, b', rfl, ((h6.set 0 _).set 1 _).eq rfl, h1.kept hk2 (hbx h1 (by decide)), h2.kept hk2 (hbx h2 (by decide)), h3, h7, h4, h5, hk2.below hb0 hb0.size fun j e => by subst e; exact h7⟩
  case rest =>
    obtain ⟨bx, bt, be, rfl, hX, hT, hE, hne, l1, l2, l3, hB⟩ := hcut
    have hxc := HX.out.keep hB
    have hrc := (BlkAt.keep HR.out hB)
    have HXC := Lib.hid hxc
    have HRC := Lib.hid hrc
    have HX2 := Lib.hid hX
    have HTc := Lib.hid hT
    have HBc := Lib.hid (HB0.out.trans (hB.mono HB0.out.size))
    have hbe : be ≠ bx := Ar.ne_blk hE hX (by decide)
    have hbt : bt ≠ bx := Ar.ne_blk hT hX (by decide)
    have HNE := Lib.hid (show (be ≠ bx ∧ bt ≠ bx) ∧ (be ≠ w.heap.size ∧ bt ≠ w.heap.size) ∧ (be ≠ w.heap.size + 1 ∧ bt ≠ w.heap.size + 1) ∧ bt ≠ be from ⟨⟨hbe, hbt⟩, ⟨by omega, by omega⟩, ⟨by omega, by omega⟩, hne⟩)
    have HLO := Lib.hid (show w.heap.size ≤ be ∧ w.heap.size ≤ bt ∧ w.heap.size + 1 < bx from by omega)
    have hE0 := Lib.hid (show Ar .i32 21 be (n + 2) (turnA L.flatten 0) wc from hE.eq fun i _ => by simp [turnA])
    obtain ⟨F, hF⟩ : ∃ F, L.flatten = F := ⟨_, rfl⟩
    have HFE := Lib.hid hF
    rw [hF] at HL hE0
    have HFL := Lib.hid (show F.length = m from hF ▸ H.out.tos.len)
    have x0 := hxc.cell 0
    have x1 := hxc.cell 1
    clear hxc hrc hX hT hE hB hne hbe hbt l1 l2 l3 HX HR hF hmk hmk2
    have HL0 := Lib.hid (fun x hx => (HL.out x hx).1)
    have HBK := Lib.hid (fun wr (hK : Keeps (fun j => j = be ∨ j = bt) wc wr) => HK_below HBc.out hK HLO.out.1 HLO.out.2.1)
    go_wp2
    go_loopw [22, 5] (fun i _ wr => ∃ k : Nat, k ≤ m ∧ i = .int .i64 k ∧ Ar .i32 21 be (n + 2) (turnA F k) wr ∧ Keeps (fun j => j = be) wc wr) (fun i _ _ => m - (intOf i).toNat)
    case atStart => exact ⟨0, by omega, rfl, hE0.out, Keeps.refl _ _⟩
    case round =>
      obtain ⟨k, hk, rfl, hA, hK⟩ := hrel
      have HA := Lib.hid hA
      have HK := Lib.hid hK
      have hx2 := HX2.out.kept hK (fun e => HNE.out.1.1 e.symm)
      by_cases hlt : k < m
      · have hlt' : (k : Int) < m := by omega
        obtain ⟨g, off, rfl, hc⟩ := (H.out.tos.keep (HBK.out _ (HK.out.mono fun j _ e => .inl e))).lie (by omega)
        have c0 := hc k hlt
        rw [HFE.out] at c0
        have hkl : k < F.length := by rw [HFL.out]; exact hlt
        obtain ⟨q, hq⟩ : ∃ q, byAt F k = q := ⟨_, rfl⟩
        rw [hq] at c0
        have hFk : F[k] = q := by rw [byAt_eq hkl]; exact hq
        have hqb := HL.out q (by rw [← hFk]; exact List.getElem_mem _)
        obtain ⟨j, rfl⟩ : ∃ j : Nat, q = j := ⟨q.toNat, by omega⟩
        have hjn : j < n := by omega
        have ce := hA.cell (i := j + 2) (by omega)
        have fe := hA.free (j + 2)
        have hN := turnA_next hkl hFk
        have hbd := turnA_bd F k (j + 2)
        rw [HFL.out] at hbd
        obtain ⟨v, hv⟩ : ∃ v, turnA F k (j + 2) = v := ⟨_, rfl⟩
        rw [hv] at ce hbd
        simp only [hv] at hN
        have HN := Lib.hid hN
        obtain ⟨v0, v1⟩ := hbd
        have e0 := hx2.cell 1
        have hj' : (j : Int) < n := by omega
        have e3 : ((j : Int) + 2).toNat = j + 2 := by omega
        clear hA hK hc hq hFk hqb hN hv hx2 hjn x0 x1
        go_wp2
        go_roundw
        case rel => exact ⟨k + 1, by omega, by go_num, (HA.out.set (j + 2) (v + 1)).eq fun i _ => HN.out i, HK.out.trans (Keeps.set1 _ _ _ _)⟩
        case measure => simp [intOf]; omega
      · obtain rfl : m = k := by omega
        have HA2 := Lib.hid (show Ar .i32 21 be (n + 2) (turnE F 0) wr from hA.eq fun i _ => by rw [← turnA_all F HL0.out i, HFL.out])
        have hxc := HXC.out.kept hK (fun e => HNE.out.2.1.1 e.symm)
        have x0 := hxc.cell 0
        have x1 := hxc.cell 1
        clear hA hxc
        have HK1 := Lib.hid hK
        clear hK hx2
        have hz := HK1.out.size
        have HN1 := Lib.hid (show w.heap.size < wc.heap.size from HXC.out.lt)
        go_wp2_with (go_at_call 47; ((with_reducible refine (graSize_is (n := n) _ _ _ (by omega)).mono ?_); rintro e w2 ⟨rfl, hq⟩); have HQ := Lib.hid hq; clear hq)
        have HK2 := Lib.hid (HK1.out.trans (Keeps.of_below _ HQ.out))
        have HA3 := Lib.hid (HA2.out.keep HQ.out)
        clear x0 x1
        go_loopw [37, 6] (fun i _ wr => ∃ k : Nat, k ≤ n ∧ i = .int .i64 k ∧ Ar .i32 21 be (n + 2) (turnE F k) wr ∧ Keeps (fun j => j = be) wc wr) (fun i _ _ => n - (intOf i).toNat)
        case atStart => exact ⟨0, by omega, rfl, HA3.out, HK2.out⟩
        case round =>
          obtain ⟨k, hk, rfl, hA, hK⟩ := hrel
          have HA := Lib.hid hA
          have HK := Lib.hid hK
          by_cases hlt : k < n
          · have hlt' : (k : Int) < n := by omega
            have hx2 := HX2.out.kept hK (fun e => HNE.out.1.1 e.symm)
            have e0 := hx2.cell 1
            have c2 := hA.cell (i := k + 2) (by omega)
            have c1 := hA.cell (i := k + 1) (by omega)
            have f2 := hA.free (k + 2)
            have hN := turnE_next F k
            have b1 := turnE_bd F k (k + 1)
            have b2 := turnE_bd F k (k + 2)
            rw [HFL.out] at b1 b2
            obtain ⟨v1, hv1⟩ : ∃ v, turnE F k (k + 1) = v := ⟨_, rfl⟩
            obtain ⟨v2, hv2⟩ : ∃ v, turnE F k (k + 2) = v := ⟨_, rfl⟩
            rw [hv1] at c1 b1
            rw [hv2] at c2 b2
            simp only [hv1, hv2] at hN
            have HN := Lib.hid hN
            obtain ⟨b10, b11⟩ := b1
            obtain ⟨b20, b21⟩ := b2
            have w1 : IntKind.i64.wrap ((k : Int) + 2) = (k : Int) + 2 := IntWalk.i64_in _ (by omega)
            have w2' : IntKind.i64.wrap ((k : Int) + 1) = (k : Int) + 1 := IntWalk.i64_in _ (by omega)
            have w3 : IntKind.i32.wrap (v2 + v1) = v2 + v1 := IntWalk.i32_in _ (by omega)
            have z1 : (0 : Int) ≤ (k : Int) + 1 := by omega
            have z2 : (0 : Int) ≤ (k : Int) + 2 := by omega
            have t1 : ((k : Int) + 1).toNat = k + 1 := by omega
            have t2 : ((k : Int) + 2).toNat = k + 2 := by omega
            have q1 : (k : Int) + 1 < (n : Int) + 2 := by omega
            have q2 : (k : Int) + 2 < (n : Int) + 2 := by omega
            clear hA hK hx2 hN hv1 hv2
            go_wp2
            go_still_tail 14, (by kernel_rfl)
            go_wp2
            go_roundw
            case rel => exact ⟨k + 1, by omega, by go_num, (HA.out.set (k + 2) (v2 + v1)).eq fun i _ => HN.out i, (HK.out.trans (Keeps.set1 _ _ _ _)).trans (Keeps.of_below _ (Below.refl _ _).drew)⟩
            case measure => simp [intOf]; omega
          · obtain rfl : n = k := by omega
            have HA4 := Lib.hid (show Ar .i32 21 be (n + 2) (turnF F (Gra.offs L 0)) wr from hA.eq fun i hi => turnE_all F hi)
            have HT4 := Lib.hid (HTc.out.kept hK fun e => HNE.out.2.2.2 e)
            have HK4 := Lib.hid hK
            have hxc := HXC.out.kept hK (fun e => HNE.out.2.1.1 e.symm)
            have x0 := hxc.cell 0
            have x1 := hxc.cell 1
            clear hA hK hxc
            go_wp2_with (go_at_call 47; ((with_reducible refine (graSize_is (n := n) _ _ _ (by omega)).mono ?_); rintro e w4 ⟨rfl, hq⟩); have HQ4 := Lib.hid hq; clear hq)
            clear x0 x1
            have HA5 := Lib.hid (HA4.out.keep HQ4.out)
            have HT5 := Lib.hid (HT4.out.keep HQ4.out)
            have HK5 := Lib.hid ((HK4.out.trans (Keeps.of_below _ HQ4.out)).mono (G := fun j => j = be ∨ j = bt) fun j _ e => .inl e)
            go_loopw [57] (fun i wr => ∃ p : Nat, p ≤ n ∧ i = .int .i64 p ∧ Ar .i32 21 be (n + 2) (turnF F (Gra.offs L p)) wr ∧ (∃ tf, Ar .i32 21 bt m tf wr ∧ Gra.Put L tf p 0) ∧ Keeps (fun j => j = be ∨ j = bt) wc wr) (fun i _ => n - (intOf i).toNat)
            case atStart => exact ⟨0, by omega, rfl, HA5.out, ⟨_, HT5.out, Gra.Put.zero _ _⟩, HK5.out⟩
            case round =>
              obtain ⟨p, hp, rfl, hA, ⟨tf, hT, hP⟩, hK⟩ := hrel
              have HA := Lib.hid hA
              have HT := Lib.hid hT
              have HP := Lib.hid hP
              have HK := Lib.hid hK
              by_cases hlt : p < n
              · have hlt' : (p : Int) < n := by omega
                have hpL : p < L.length := by rw [HLn.out]; exact hlt
                have HPL := Lib.hid hpL
                have hxc := HXC.out.kept hK (fun e => e.elim (fun e => HNE.out.2.1.1 e.symm) fun e => HNE.out.2.1.2 e.symm)
                have x0 := hxc.cell 0
                have x1 := hxc.cell 1
                have hO := graOf_is (w := wr) H.out.g (HBK.out _ hK) (by rw [HLn.out]; omega) hpL
                have HO := Lib.hid hO
                obtain ⟨Lp, hLp⟩ : ∃ l, el L p = l := ⟨_, rfl⟩
                rw [hLp] at HO
                have HLp := Lib.hid hLp
                clear hA hT hP hK hlt hpL hxc hO hLp
                go_wp2_with (go_at_call 27; ((with_reducible refine HO.out.mono ?_); rintro e w5 ⟨b, k, d, rfl, hw5, -, hq⟩); have HW5 := Lib.hid hw5; have HQ5 := Lib.hid hq; clear hw5 hq)
                clear x0 x1
                have hkl := HW5.out.len
                have hk60 : k ≤ 200 := by
                  have h1 := Gra.offs_succ HPL.out
                  have h2 := Gra.offs_mono (L := L) (show p + 1 ≤ L.length from HPL.out)
                  rw [Gra.offs_all, H.out.tos.len] at h2
                  rw [el_eq HPL.out, HLp.out, hkl] at h1
                  omega
                have hk60' : (k : Int) ≤ 200 := by omega
                have HKL := Lib.hid hkl
                have HA6 := Lib.hid (HA.out.keep HQ5.out)
                have HT6 := Lib.hid (HT.out.keep HQ5.out)
                have HK6 := Lib.hid (HK.out.trans (Keeps.of_below _ HQ5.out))
                clear hkl hk60
                go_loopw [64, 9] (fun i _ wr => ∃ j : Nat, j ≤ k ∧ i = .int .i64 j ∧ Ar .i32 21 be (n + 2) (turnF F (Gra.offs L p + j)) wr ∧ (∃ tf, Ar .i32 21 bt m tf wr ∧ Gra.Put L tf p j) ∧ Keeps (fun j => j = be ∨ j = bt) wc wr) (fun i _ _ => k - (intOf i).toNat)
                case atStart => exact ⟨0, by omega, rfl, HA6.out, ⟨_, HT6.out, HP.out⟩, HK6.out⟩
                case round =>
                  obtain ⟨j, hj, rfl, hA, ⟨tg, hT, hP⟩, hK⟩ := hrel
                  have HA7 := Lib.hid hA
                  have HT7 := Lib.hid hT
                  have HP7 := Lib.hid hP
                  have HK7 := Lib.hid hK
                  by_cases hlt : j < k
                  · have hlt' : (j : Int) < k := by omega
                    obtain ⟨g, off, rfl, hc⟩ := (HW5.out.keep (HBK.out _ hK)).lie (by omega)
                    have c0 := hc j hlt
                    have hjl : j < Lp.length := by rw [HKL.out]; exact hlt
                    have hLe : L[p]'HPL.out = Lp := by rw [el_eq HPL.out]; exact HLp.out
                    have hjL : j < (L[p]'HPL.out).length := by rw [hLe]; exact hjl
                    have hfa1 := Gra.flat_at HPL.out hjL
                    rw [HFE.out] at hfa1
                    obtain ⟨ht, hfa⟩ := List.getElem?_eq_some_iff.1 hfa1
                    obtain ⟨q, hq⟩ : ∃ q, byAt Lp j = q := ⟨_, rfl⟩
                    have hqe : (L[p]'HPL.out)[j]'hjL = q := by
                      rw [← hq, ← byAt_eq hjl]
                      congr 1
                    rw [hqe] at hfa
                    rw [hq] at c0
                    have hqb := HL.out q (by rw [← hfa]; exact List.getElem_mem _)
                    obtain ⟨r, rfl⟩ : ∃ r : Nat, q = r := ⟨q.toNat, by omega⟩
                    have hrn : r < n := by omega
                    have ce := hA.cell (i := r + 1) (by omega)
                    have fe := hA.free (r + 1)
                    have hN := turnF_next ht hfa
                    rw [turnF_pos] at ce
                    simp only [turnF_pos] at hN
                    have hpl := Gra.posn_lt ht hfa
                    have hul := Gra.under_le F ((r : Int) + 1)
                    rw [HFL.out] at hul
                    obtain ⟨x, hx⟩ : ∃ x, Gra.posn F (Gra.offs L p + j) (r : Int) = x := ⟨_, rfl⟩
                    rw [hx] at ce hpl
                    simp only [hx] at hN
                    have hxm : x < m := by omega
                    have ft := hT.free x
                    have ct := hT.cell hxm
                    have HN := Lib.hid hN
                    have HPn := Lib.hid (show Gra.Put L (upn tg x (p : Int)) p (j + 1) from by
                      have h9 := hP.next HPL.out hjL
                      rw [HFE.out, hqe, hx] at h9
                      exact h9)
                    have hx2 := HX2.out.kept hK (fun e => e.elim (fun e => HNE.out.1.1 e.symm) fun e => HNE.out.1.2 e.symm)
                    have e0 := hx2.cell 0
                    have e1 := hx2.cell 1
                    have hr' : (r : Int) < n := by omega
                    have hx' : (x : Int) < m := by omega
                    have w1 : IntKind.i32.wrap ((r : Int) + 1) = (r : Int) + 1 := IntWalk.i32_in _ (by omega)
                    have w2' : IntKind.i32.wrap (p : Int) = (p : Int) := IntWalk.i32_in _ (by omega)
                    have z1 : (0 : Int) ≤ (r : Int) + 1 := by omega
                    have t1 : ((r : Int) + 1).toNat = r + 1 := by omega
                    have q1 : (r : Int) + 1 < (n : Int) + 2 := by omega
                    have HPN := Lib.hid hrn
                    have hbb : ¬ be = bt := fun e => HNE.out.2.2.2 e.symm
                    have hbb2 : ¬ bt = be := HNE.out.2.2.2
                    have ne1 : ¬ bx = bt := fun e => HNE.out.1.2 e.symm
                    have ne2 : ¬ bx = be := fun e => HNE.out.1.1 e.symm
                    clear hA hT hP hK hlt hc hfa1 hN hpl hul hx hx2 hxm hqb hrn
                    clear hqe hq hfa ht hjL hLe hjl
                    go_wp2
                    go_still_tail 11, (by kernel_rfl)
                    go_wp2
                    go_roundw
                    case rel =>
                      have k1 := Keeps.set1 wr bt x (.int .i32 (p : Int))
                      have k2 := (Keeps.set1 (wr.setCell ⟨bt, x, none⟩ (.int .i32 (p : Int))) be (r + 1) (.int .i32 ((x : Int) + 1)))
                      have kd : Keeps (fun _ => False) ((wr.setCell ⟨bt, x, none⟩ (.int .i32 (p : Int))).setCell ⟨be, r + 1, none⟩ (.int .i32 ((x : Int) + 1))) ((wr.setCell ⟨bt, x, none⟩ (.int .i32 (p : Int))).setCell ⟨be, r + 1, none⟩ (.int .i32 ((x : Int) + 1))).drew := Keeps.of_below _ (Below.refl _ _).drew
                      refine ⟨j + 1, by omega, by go_num, ?_, ⟨upn tg x (p : Int), ?_, HPn.out⟩, ((HK7.out.trans (k1.mono fun j _ e => .inr e)).trans (k2.mono fun j _ e => .inl e)).next kd fun j _ e => e.elim⟩
                      · exact (((HA7.out.kept k1 fun e => HNE.out.2.2.2 e.symm).set (r + 1) ((x : Int) + 1)).eq fun i _ => HN.out i).kept kd id
                      · exact (((HT7.out.set x (p : Int)).kept k2 HNE.out.2.2.2)).kept kd id
                    case measure => simp [intOf]; omega
                  · obtain rfl : k = j := by omega
                    have e9 : Gra.offs L (p + 1) = Gra.offs L p + k := by rw [Gra.offs_succ HPL.out, el_eq HPL.out, HLp.out, HKL.out]
                    have HP9 := Lib.hid (show Gra.Put L tg (p + 1) 0 from Gra.Put.line HPL.out (by rw [el_eq HPL.out, HLp.out, HKL.out]; exact hP))
                    have HE9 := Lib.hid e9
                    clear hA hT hP hK hlt e9
                    go_wp2
                    go_roundw
                    case rel => exact ⟨p + 1, by omega, by go_num, by rw [HE9.out]; exact HA7.out, ⟨tg, HT7.out, HP9.out⟩, HK7.out⟩
                    case measure => simp [intOf]; omega
              · obtain rfl : n = p := by omega
                have hx2 := HX2.out.kept hK (fun e => e.elim (fun e => HNE.out.1.1 e.symm) fun e => HNE.out.1.2 e.symm)
                have e0 := hx2.cell 0
                have e1 := hx2.cell 1
                have f1 := hx2.free 1
                have hxc := HXC.out.kept hK (fun e => e.elim (fun e => HNE.out.2.1.1 e.symm) fun e => HNE.out.2.1.2 e.symm)
                have x0 := hxc.cell 0
                have x1 := hxc.cell 1
                have hrc := HRC.out.kept hK (fun e => e.elim (fun e => HNE.out.2.2.1.1 e.symm) fun e => HNE.out.2.2.1.2 e.symm)
                have y0 := hrc.cell 0
                have y1 := hrc.cell 1
                have g0 := hrc.free 0
                have g1 := hrc.free 1
                have hrun := fun w => run_cut_to (P := Tryz.prog) 23 Tryz.underlying23 (s := 1) (fun w => Tryz.sizeOf21 w) (some ⟨be, 0, none⟩) (n + 2) (n + 2) (n + 1) (by omega) w
                simp only [sliced_to] at hrun
                have nb1 : ¬ bx = w.heap.size + 1 := fun e => by have := HLO.out.2.2; omega
                have nb2 : ¬ w.heap.size + 1 = bx := fun e => by have := HLO.out.2.2; omega
                have HA := Lib.hid hA
                have HT := Lib.hid hT
                have HP := Lib.hid hP
                have HK := Lib.hid hK
                clear hA hT hP hK hx2 hxc hrc
                go_wp2
                have HRr := HRC.out.kept HK.out (fun e => e.elim (fun e => HNE.out.2.2.1.1 e.symm) fun e => HNE.out.2.2.1.2 e.symm)
                refine bodyPost_ret (v := .agg #[.slice (some ⟨bt, 0, none⟩) m m, .slice (some ⟨be, 0, none⟩) (n + 1) (n + 2)]) (by simp [results, Tryz.results35, go_sem, y0, y1]) rfl ?_
                have kx := Keeps.set1 wr bx 1 (.slice (some ⟨be, 0, none⟩) (n + 1) (n + 2))
                have kall : Keeps (fun j => j = bx ∨ j = w.heap.size + 1) wr (((wr.setCell ⟨bx, 1, none⟩ (.slice (some ⟨be, 0, none⟩) (n + 1) (n + 2))).setCell ⟨w.heap.size + 1, 0, none⟩ (.slice (some ⟨bt, 0, none⟩) m m)).setCell ⟨w.heap.size + 1, 1, none⟩ (.slice (some ⟨be, 0, none⟩) (n + 1) (n + 2))) :=
                  ((kx.mono fun j _ e => .inl e).trans ((Keeps.set1 _ _ _ _).mono fun j _ e => .inr e)).trans ((Keeps.set1 _ _ _ _).mono fun j _ e => .inr e)
                have hE := HA.out.kept kall fun e => e.elim HNE.out.1.1 HNE.out.2.2.1.1
                have hT := HT.out.kept kall fun e => e.elim HNE.out.1.2 HNE.out.2.2.1.2
                have hd := turned_done (L := L) (n := n) (by rw [HFE.out]; rw [show Gra.offs L n = F.length by rw [← HLn.out, Gra.offs_all, HFE.out]] at hE; exact hE) hT (by rw [HLn.out]; exact HP.out) H.out.tos.len HLn.out hm hn
                obtain ⟨L', hd1, hd2, hd3⟩ := hd
                exact ⟨_, rfl, ⟨_, _, _, _, _, _, L', rfl, hd1, hd2, hm, hd3, (fun b off q => by
                  simp only [Option.some.injEq, Addr.mk.injEq] at q
                  rw [← q.1]; exact ⟨_, hT⟩), fun b off q => by
                  simp only [Option.some.injEq, Addr.mk.injEq] at q
                  rw [← q.1]; exact ⟨_, hE⟩⟩, kall.below (HBK.out _ HK.out) (HBK.out _ HK.out).size fun j e => by have := HLO.out; omega⟩
end Go.Proofs.YtggiaopdgijgnaaGreatDoor
