/- Package graph: spansOf, ahead, Backs. Conditions: words lie in memory; no more than 60. -/
import Derived.Test.YtggiaopdgijgnaaGreatDoorGraG
import Derived.Test.YtggiaopdgijgnaaGreatDoorGraP
namespace Go.Proofs.YtggiaopdgijgnaaGreatDoor
open Go.RowKit

open Go.RowKit Go.IntWalk

/-- Numbers by place: of the first k of a list. -/
def plA (O : List Nat) (g : Nat → Nat) : Nat → Nat → Int
  | 0 => fun _ => 0
  | k + 1 => upn (plA O g k) (O.getD k 0) (g k : Nat)
theorem plA_on {O : List Nat} (hn : O.Nodup) (g : Nat → Nat) : ∀ {k : Nat}, k ≤ O.length → ∀ {i : Nat} (_ : i < k) (hO : i < O.length), plA O g k O[i] = (g i : Nat)
  | 0, _, i, hi, _ => by omega
  | k + 1, hk, i, hi, hO => by
    have hk' : k < O.length := hk
    have e : O.getD k 0 = O[k] := by simp [List.getD, hk']
    show upn (plA O g k) (O.getD k 0) (g k : Nat) O[i] = _
    rw [e]
    by_cases q : i = k
    · subst q; rw [upn_at]
    · rw [upn_off _ _ fun h => by
        have := (List.pairwise_iff_getElem.1 hn) i k hO hk' (by omega)
        exact this h]
      exact plA_on hn g (by omega) (by omega) hO
/-- What is free behind each number, k of them having their place. -/
def freeF (nr S : Nat → Nat) (k a : Nat) : Nat := if a < k then Gra.atF nr S a + 1 + Gra.Sm (Gra.addF nr S a) 1 (k - 1) else 0
theorem freeF_zero (nr S : Nat → Nat) (a : Nat) : freeF nr S 0 a = 0 := if_neg (by omega)
theorem freeF_next {K k : Nat} {nr S : Nat → Nat} (hlt : ∀ k, 0 < k → k < K → nr k < k) (h0 : nr 0 = 0) (hk : k < K) :
    freeF nr S k (nr k) = Gra.atF nr S k ∧ ∀ a, (upn (upn (freeF nr S k) (nr k) (Gra.atF nr S k + S k + 1)) k (Gra.atF nr S k + 1)) a = freeF nr S (k + 1) a := by
  rcases Nat.eq_zero_or_pos k with hz | hz
  · subst hz
    refine ⟨by rw [freeF_zero, Gra.atF_zero], fun a => ?_⟩
    unfold upn freeF
    by_cases e : a = 0
    · subst e
      rw [if_pos rfl, if_pos (by omega), Gra.atF_zero]
      rfl
    · rw [if_neg e, h0, if_neg e, if_neg (by omega), if_neg (by omega)]
  · have h1 := hlt k hz hk
    have h2 := Gra.atF_pos (S := S) hz h1
    have h3 : ∀ a, Gra.Sm (Gra.addF nr S a) 1 (k + 1 - 1) = Gra.Sm (Gra.addF nr S a) 1 (k - 1) + Gra.addF nr S a k := fun a => by
      have := Gra.Sm_last (Gra.addF nr S a) (k - 1) 1
      rw [show k - 1 + 1 = k by omega, show 1 + (k - 1) = k by omega] at this
      rw [show k + 1 - 1 = k by omega]
      exact this
    refine ⟨by unfold freeF; rw [if_pos h1]; exact h2.symm, fun a => ?_⟩
    unfold upn freeF
    rw [h3 a]
    by_cases e : a = k
    · subst e
      rw [if_pos rfl, if_pos (by omega)]
      have h4 : Gra.Sm (Gra.addF nr S a) 1 (a - 1) = 0 := Gra.Sm_zero fun j hj1 hj2 => if_neg (by have := hlt j (by omega) (by omega); omega)
      have h5 : Gra.addF nr S a a = 0 := if_neg (by omega)
      omega
    · rw [if_neg e]
      by_cases e2 : a = nr k
      · subst e2
        have h5 : Gra.addF nr S (nr k) k = S k + 1 := if_pos rfl
        rw [if_pos rfl, if_pos (by omega)]
        omega
      · have h5 : Gra.addF nr S a k = 0 := if_neg fun q => e2 q.symm
        rw [if_neg e2]
        by_cases q : a < k
        · rw [if_pos q, if_pos (by omega)]; omega
        · rw [if_neg q, if_neg (by omega)]
/-- What spansOf makes for its answer. -/
def SpaR (n : Nat) (W : World) (s8 : Value) (wx : World) : Prop := ∃ bs bat bla, s8 = .pointer (some ⟨bs, 0, none⟩) ∧ BlkAt bs 72 #[.slice (some ⟨bat, 0, none⟩) n n, .slice (some ⟨bla, 0, none⟩) n n] wx ∧ Ar .i32 21 bat n (fun _ => 0) wx ∧ Ar .i32 21 bla n (fun _ => 0) wx ∧ bat ≠ bla ∧ W.heap.size ≤ bs ∧ W.heap.size ≤ bat ∧ W.heap.size ≤ bla ∧ Below W.heap.size W wx
/-- Who stands above whom, as spansOf finds it. -/
def SpaV (l : List Int) (T : Gra.Tr) (par nr S : Nat → Nat) : Prop := (∃ near, NeaV l T par near ∧ ∀ j, j < T.ord.length → near j = (nr j : Nat)) ∧ ∀ a, a < T.ord.length → S a = Gra.Sm (Gra.addF nr S a) 1 (T.ord.length - 1)
theorem NeaV.lt {l : List Int} {T : Gra.Tr} {par : Nat → Nat} {near : Nat → Int} (h : NeaV l T par near) (D : 0 < T.ord.length → Gra.Deep T.ord.length (Gra.NumE (nxN l) T) par) : ∀ k, 0 < k → k < T.ord.length → (near k).toNat < k := fun k h0 hk => by
  obtain ⟨low, h1, h2, -⟩ := h
  obtain ⟨sd, hs, hn⟩ := Gra.near_done (D (by omega)) h1 h2
  exact hn.lt (D (by omega)) hs h0 hk
set_option maxRecDepth 100000 in
set_option maxHeartbeats 8000000 in
theorem graSpansOf_is {l : List Int} {w0 w : World} {a : Option Addr} {m c : Nat} {a' : Option Addr} {c' base : Nat} {v : Value} {T : Gra.Tr} {par : Nat → Nat} (hwa : WaysAt w0 a m c a' (l.length + 1) c' (wayL l l.length)) (hwn : WayN w0 a m c a' c' l.length (nxN l)) (hT : TripV w0 base l.length v T)
    (hP : PureT (fun _ => true) (nxN l) (beginN l.length) T) (hD : 0 < T.ord.length → Gra.DfsI (nxN l) T par) (hold : Below w0.heap.size w0 w) (hn : l.length ≤ 60) :
    Calls Tryz.prog 32 #[.agg #[.slice a m c, .slice a' (l.length + 1) c'], v] w fun e w' => ∃ bat bla nr S, e = .returned (.agg #[.slice (some ⟨bat, 0, none⟩) l.length l.length, .slice (some ⟨bla, 0, none⟩) l.length l.length]) ∧ Ar .i32 21 bat l.length (plA T.ord (Gra.atF nr S) T.ord.length) w' ∧ Ar .i32 21 bla l.length (plA T.ord (fun k => Gra.atF nr S k + S k) T.ord.length) w' ∧ SpaV l T par nr S ∧ Below w.heap.size w w' := by
  obtain ⟨i0, hi, hz0, hz1, hz2⟩ := info_parts infoI32
  have hmkg := fun (n : Nat) (h : n ≤ 60) => run_zeros (P := Tryz.prog) 23 21 i0 Tryz.underlying23 hi hz0 hz1 n (by rw [hz2]; omega) (by unfold maxLen; omega) n rfl
  have h1 := Gra.GoP.came (mv := fun _ => true) (N := nxN l) (l0 := beginN l.length) hP.2 hP.1
  have hxl : ∀ x ∈ T.ord, x < l.length := fun x hx => came_lt ((h1.1 x).1 ((h1.2.2 x).1 hx))
  have hKl : T.ord.length ≤ l.length := Gra.nodup_lt h1.2.1 hxl
  have HNE := Lib.hid (fun w2 (hk : Below w0.heap.size w0 w2) => graNearest_is hwa hwn hT hP hD hk hn)
  obtain ⟨bc, bf, bo0, ov, rfl, hset, hord, hfr, -, -, -, -⟩ := hT
  obtain ⟨ao, co, rfl, hows⟩ := hord.wsn (m := T.ord.length) (by simp)
  obtain ⟨K, hK⟩ : ∃ K, T.ord.length = K := ⟨_, rfl⟩
  have hKn : K ≤ 60 := by omega
  have hmk := hmkg K hKn
  have hmk2 := hmkg l.length hn
  have HORD := Lib.hid hows
  have HND := Lib.hid (And.intro h1.2.1 (And.intro hxl hKl))
  have HD := Lib.hid hD
  have HOLD := Lib.hid hold
  have HN := Lib.hid hn
  have HK := Lib.hid hK
  have hn' : (l.length : Int) ≤ 60 := by omega
  have hK' : (K : Int) ≤ 60 := by omega
  rw [hK] at HNE HORD ⊢
  clear hwa hwn hset hord hfr hows h1 hxl hKl hD hold hn hK hP hi hz0 hz1 hz2 hmkg
  have HZ := Lib.hid (show Below w.heap.size w (((w.alloc (.cells #[.slice a m c, .slice a' (l.length + 1) c'] 60)).alloc (.cells #[.slice (some ⟨bc, 0, none⟩) (szS l.length) (szS l.length), .slice ao K co, .slice (some ⟨bf, 0, none⟩) l.length l.length] 58)).alloc (.cells #[.slice none 0 0, .slice none 0 0] 72)) from (((Below.refl _ _).alloc (Nat.le_refl _) _).alloc (by simp) _).alloc (by simp; omega) _)
  go_enter Tryz.func32, Tryz.ntmps32
  go_wp2_with (go_at_call 52; ((with_reducible refine (HNE.out _ (HOLD.out.trans (HZ.out.mono HOLD.out.size))).mono ?_); rintro e w1 ⟨bn, near, rfl, hAn, hV, hbn, hq⟩); have HAN := Lib.hid hAn; have HV := Lib.hid hV; have HBN := Lib.hid hbn; have HQ := Lib.hid hq; clear hAn hV hbn hq)
  obtain ⟨W0, hW0⟩ : ∃ W0, ((w.alloc (.cells #[.slice a m c, .slice a' (l.length + 1) c'] 60)).alloc (.cells #[.slice (some ⟨bc, 0, none⟩) (szS l.length) (szS l.length), .slice ao K co, .slice (some ⟨bf, 0, none⟩) l.length l.length] 58)).alloc (.cells #[.slice none 0 0, .slice none 0 0] 72) = W0 := ⟨_, rfl⟩
  have hX : BlkAt w.heap.size 60 #[.slice a m c, .slice a' (l.length + 1) c'] W0 := hW0 ▸ ((BlkAt.new w _ _).al _).al _
  have hTB : BlkAt (w.heap.size + 1) 58 #[.slice (some ⟨bc, 0, none⟩) (szS l.length) (szS l.length), .slice ao K co, .slice (some ⟨bf, 0, none⟩) l.length l.length] W0 := hW0 ▸ (BlkAt.newb _ _ _ (by simp)).al _
  have hRB : BlkAt (w.heap.size + 1 + 1) 72 #[.slice none 0 0, .slice none 0 0] W0 := hW0 ▸ BlkAt.newb _ _ _ (by simp)
  have hq := HQ.out
  have hbn := HBN.out
  have hz0 := HZ.out
  rw [hW0] at hq hbn hz0
  have hs0 : W0.heap.size = w.heap.size + 3 := by rw [← hW0]; simp
  obtain ⟨W2, hW2⟩ : ∃ W2, w1.alloc (.cells (fnArr K fun _ => .int .i32 0) 21) = W2 := ⟨_, rfl⟩
  obtain ⟨bo, hbo⟩ : ∃ b, w1.heap.size = b := ⟨_, rfl⟩
  have hk12 : Below w1.heap.size w1 W2 := hW2 ▸ (Below.refl _ _).alloc (Nat.le_refl _) _
  have hk02 : Below W0.heap.size W0 W2 := hq.trans (hk12.mono hq.size)
  have HX := Lib.hid (hX.keep hk02)
  have HTB := Lib.hid (hTB.keep hk02)
  have HRB := Lib.hid (hRB.keep hk02)
  have HA2 := Lib.hid (show Ar .i32 21 bo K (fun _ => 0) W2 from by rw [← hW2]; exact Ar.zeros w1 hbo)
  have HN2 := Lib.hid (HAN.out.keep hk12)
  have HB2 := Lib.hid (hz0.trans (hk02.mono hz0.size))
  have HLE := Lib.hid (show w.heap.size + 3 ≤ bn ∧ bn < bo ∧ bo + 1 = W2.heap.size from ⟨by omega, by have := HAN.out.lt; omega, by rw [← hW2, ← hbo]; simp⟩)
  rw [hW2]
  rw [hbo]
  obtain ⟨nr, hnr⟩ : ∃ nr : Nat → Nat, nr = fun j => (near j).toNat := ⟨_, rfl⟩
  have hVV := HV.out
  have hlt0 := hVV.lt fun h => (HD.out h).deep
  obtain ⟨low9, hv1, hv2, hv3⟩ := hVV
  have HNR := Lib.hid (show (∀ j, j < K → near j = (nr j : Nat)) ∧ (∀ j, j < K → nr j < K) ∧ (∀ k, 0 < k → k < K → nr k < k) ∧ (0 < K → nr 0 = 0) from by
    rw [HK.out] at hv1 hv3 hlt0
    subst hnr
    refine ⟨fun j hj => by have := hv1.lt j hj; simp only; omega, fun j hj => by have := hv1.lt j hj; simp only; omega, hlt0, fun h => by have := hv3 h; simp only; omega⟩)
  clear hW0 hX hTB hRB hq hbn hz0 hs0 hW2 hbo hk12 hk02 hlt0 hv1 hv2 hv3 hnr HQ HBN HZ HAN HNE
  have hN2 : Ar .i32 21 bn K (fun j => (nr j : Nat)) W2 := HN2.out.eq fun i hi => HNR.out.1 i hi
  have HN3 := Lib.hid hN2
  clear hN2 HN2
  have hwK : IntKind.i64.wrap ((K : Int) - 1) = (K : Int) - 1 := IntWalk.i64_in _ (by omega)
  go_loopw [7] (fun v wr => ∃ (j : Nat) (o : Nat → Nat), j ≤ K ∧ v = .int .i64 ((j : Int) - 1) ∧ Gra.CntI K nr o (j - 1) ∧ Ar .i32 21 bo K (fun a => (o a : Nat)) wr ∧ Keeps (fun q => q = bo) W2 wr) (fun v _ => (intOf v + 1).toNat)
  case atStart => exact ⟨K, fun _ => 0, Nat.le_refl _, rfl, Gra.CntI.start nr, HA2.out, Keeps.refl _ _⟩
  case round =>
    obtain ⟨j, o, hj, rfl, hC, hA, hKp⟩ := hrel
    have hNN := HN3.out.kept hKp (by have := HLE.out; omega)
    by_cases hlt : 2 ≤ j
    · obtain ⟨k, rfl⟩ : ∃ k, j = k + 1 := ⟨j - 1, by omega⟩
      rw [show k + 1 - 1 = k by omega] at hC
      have ek : (((k + 1 : Nat) : Int) - 1) = (k : Int) := by omega
      rw [ek]
      have hkK : k < K := by omega
      have hkK' : (k : Int) < K := by omega
      have hk0' : (0 : Int) < k := by omega
      have hnkK := HNR.out.2.1 k hkK
      have hnk := HNR.out.2.2.1 k (by omega) hkK
      obtain ⟨p, hp⟩ : ∃ p, nr k = p := ⟨_, rfl⟩
      have hpK' : (p : Int) < K := by omega
      have c0 := hNN.cell hkK
      have c1 := hA.cell (i := p) (by omega)
      have c2 := hA.cell hkK
      have f1 := hA.free p
      have hst := hC.step (by omega) hkK hnk
      have hb1 := hC.bd p (by omega)
      have hb2 := hC.bd k hkK
      rw [hp] at c0 hst
      obtain ⟨op, hop⟩ : ∃ x, o p = x := ⟨_, rfl⟩
      obtain ⟨ok, hok⟩ : ∃ x, o k = x := ⟨_, rfl⟩
      rw [hop] at c1 hb1 hst
      rw [hok] at c2 hb2 hst
      have w1' : IntKind.i32.wrap ((ok : Int) + 1) = (ok : Int) + 1 := IntWalk.i32_in _ (by omega)
      have w2' : IntKind.i32.wrap ((op : Int) + ((ok : Int) + 1)) = (op : Int) + ((ok : Int) + 1) := IntWalk.i32_in _ (by omega)
      have w3' : IntKind.i64.wrap ((k : Int) - 1) = (k : Int) - 1 := IntWalk.i64_in _ (by omega)
      have HH := Lib.hid (And.intro hst (And.intro hA hKp))
      clear hC hA hKp hNN hlt hnkK hnk hst hp hop hok ek
      go_wp2
      go_still_tail 14, (by kernel_rfl)
      go_wp2
      go_roundw
      case rel =>
        obtain ⟨hst, hA, hKp⟩ := HH.out
        refine ⟨k, _, by omega, by go_num, hst, ?_, ?_⟩
        · refine (hA.set p ((op : Int) + ((ok : Int) + 1))).eq fun i _ => ?_
          unfold upn
          split
          · omega
          · rfl
        · exact (hKp.trans (Keeps.set1 _ _ _ _)).trans (Keeps.of_below _ (Below.refl _ _).drew)
      case measure => simp [intOf]
    · skip
      obtain ⟨W4, hW4⟩ : ∃ W4, W4 = wr := ⟨_, rfl⟩
      subst hW4
      rw [show j - 1 = 0 by omega] at hC
      have hj1 : ¬ (0 : Int) < ((j : Int) - 1) := by omega
      have HSV := Lib.hid (show ∀ a, a < K → o a = Gra.Sm (Gra.addF nr o a) 1 (K - 1) from fun a ha => by
        have := hC.val a ha
        rwa [Nat.zero_add, Nat.sub_zero] at this)
      have HBD := Lib.hid hC.bd
      have hX4 := HX.out.kept hKp (by have := HLE.out; omega)
      have HX4 := Lib.hid hX4
      have HTB4 := Lib.hid (HTB.out.kept hKp (by have := HLE.out; omega))
      have HRB4 := Lib.hid (HRB.out.kept hKp (by have := HLE.out; omega))
      have HN4 := Lib.hid hNN
      have HO4 := Lib.hid hA
      have HB4 := Lib.hid (hKp.below HB2.out HB2.out.size fun q e => by have := HLE.out; omega)
      have HLE4 := Lib.hid (show w.heap.size + 3 ≤ bn ∧ bn < bo ∧ bo < W4.heap.size from ⟨HLE.out.1, HLE.out.2.1, hA.lt⟩)
      clear hC hA hKp hNN hX4 hlt HX HTB HRB HA2 HN3 HB2
      go_upto_region 7 with (fail)
      go_cut [8] (fun s8 wx => SpaR l.length W4 s8 wx)
      case first =>
        refine wp_region_free (fun _ => True) [(0, 0, 40, 4), (1, 1, 41, 549755813888), (2, 2, 42, 1099511627776), (3, 0, 43, 4), (4, 10, 44, 4398046511104), (5, 16, 45, 8796093022208), (6, 36, 46, 19791209299968), (7, 0, 9, 0), (8, 255, 0, 35184372089088)] 8 [(0, 39), (1, 40), (2, 41), (3, 42), (4, 43), (5, 44), (6, 45), (7, 8)] [(0, []), (1, [(0, 39)]), (2, [(1, 40)]), (3, []), (4, [(3, 42)]), (5, [(4, 43)]), (6, [(2, 41), (5, 44)]), (7, [])] [(false, 8, 511)] [2, 5, 7]
          (fun i v w' => match i with
            | 0 | 3 => v = .agg #[.slice a m c, .slice a' (l.length + 1) c']
            | 1 | 4 => v = .int .i64 l.length
            | 2 | 5 => ∃ b, v = .slice (some ⟨b, 0, none⟩) l.length l.length ∧ Ar .i32 21 b l.length (fun _ => 0) w' ∧ W4.heap.size ≤ b
            | 6 => ∃ b b', v = .agg #[.slice (some ⟨b, 0, none⟩) l.length l.length, .slice (some ⟨b', 0, none⟩) l.length l.length] ∧ Ar .i32 21 b l.length (fun _ => 0) w' ∧ Ar .i32 21 b' l.length (fun _ => 0) w' ∧ b ≠ b' ∧ W4.heap.size ≤ b ∧ W4.heap.size ≤ b'
            | 7 => ∃ b, v = .pointer (some ⟨b, 0, none⟩) ∧ BlkAt b 72 #[.slice none 0 0, .slice none 0 0] w' ∧ W4.heap.size ≤ b
            | _ => True) (by kernel_rfl) (by kernel_rfl) (by kernel_rfl) (by kernel_rfl) (by kernel_rfl) (fun _ _ => trivial) ?_ ?_ ?_
        · intro i v w1 w2 h hb
          match i, h with
          | 0, h | 1, h | 3, h | 4, h => exact h
          | 2, ⟨b, e, h, h'⟩ | 5, ⟨b, e, h, h'⟩ => exact ⟨b, e, h.keep hb, h'⟩
          | 6, ⟨b, b', e, h1, h2, h3⟩ => exact ⟨b, b', e, h1.keep hb, h2.keep hb, h3⟩
          | 7, ⟨b, e, h, h'⟩ => exact ⟨b, e, h.keep hb, h'⟩
          | _ + 8, _ => trivial
        · refine ⟨?_, ?_, ?_, ?_, ?_, ?_, ?_, ?_, trivial⟩
          · intro o ho vals w1 hb hd hne
            cases ho
            have g0 := (BlkAt.keep (w := W4.drew) HX4.out hb).cell 0
            have g1 := (BlkAt.keep (w := W4.drew) HX4.out hb).cell 1
            exact .val (v := .agg #[.slice a m c, .slice a' (l.length + 1) c']) (w' := w1) (by simp [frA, execOp, Act.put, Act.eval, go_sem, g0, g1]) ⟨rfl, Below.refl _ _, fun q => by simp at q⟩
          · intro o ho vals w1 hb hd hne
            cases ho
            have e0 : vals 0 = _ := hd (0, 39) (.head _)
            refine .call (f := 47) (vs := #[.agg #[.slice a m c, .slice a' (l.length + 1) c']]) (by simp [frA, execOp, Act.put, Act.eval, go_sem, e0]) ((graSize_is (n := l.length) _ _ _ (by omega)).mono ?_)
            rintro e w' ⟨rfl, hq⟩
            exact ⟨_, rfl, rfl, hq, fun q => by simp at q⟩
          · intro o ho vals w1 hb hd hne
            cases ho
            have e0 : vals 1 = _ := hd (1, 40) (.head _)
            exact .val (v := .slice (some ⟨w1.heap.size, 0, none⟩) l.length l.length) (by simp [frA, execOp, Act.put, Act.eval, go_sem, e0, hmk2]) ⟨⟨_, rfl, Ar.zeros w1 rfl, hb.size⟩, (Below.refl _ _).alloc (Nat.le_refl _) _, fun _ => ⟨_, rfl, Nat.le_refl _, by simp⟩⟩
          · intro o ho vals w1 hb hd hne
            cases ho
            have g0 := (BlkAt.keep (w := W4.drew) HX4.out hb).cell 0
            have g1 := (BlkAt.keep (w := W4.drew) HX4.out hb).cell 1
            exact .val (v := .agg #[.slice a m c, .slice a' (l.length + 1) c']) (w' := w1) (by simp [frA, execOp, Act.put, Act.eval, go_sem, g0, g1]) ⟨rfl, Below.refl _ _, fun q => by simp at q⟩
          · intro o ho vals w1 hb hd hne
            cases ho
            have e0 : vals 3 = _ := hd (3, 42) (.head _)
            refine .call (f := 47) (vs := #[.agg #[.slice a m c, .slice a' (l.length + 1) c']]) (by simp [frA, execOp, Act.put, Act.eval, go_sem, e0]) ((graSize_is (n := l.length) _ _ _ (by omega)).mono ?_)
            rintro e w' ⟨rfl, hq⟩
            exact ⟨_, rfl, rfl, hq, fun q => by simp at q⟩
          · intro o ho vals w1 hb hd hne
            cases ho
            have e0 : vals 4 = _ := hd (4, 43) (.head _)
            exact .val (v := .slice (some ⟨w1.heap.size, 0, none⟩) l.length l.length) (by simp [frA, execOp, Act.put, Act.eval, go_sem, e0, hmk2]) ⟨⟨_, rfl, Ar.zeros w1 rfl, hb.size⟩, (Below.refl _ _).alloc (Nat.le_refl _) _, fun _ => ⟨_, rfl, Nat.le_refl _, by simp⟩⟩
          · intro o ho vals w1 hb hd hne
            cases ho
            obtain ⟨b, e3, h3, g3⟩ := hd (2, 41) (.head _)
            obtain ⟨b', e7, h7, g7⟩ := hd (5, 44) (.tail _ (.head _))
            have hne := hne (2, 41) (.head _) (5, 44) (.tail _ (.head _)) (by simp) (by simp) (by simp)
            simp only at e3 e7 hne
            rw [e3, e7] at hne
            exact .val (v := .agg #[.slice (some ⟨b, 0, none⟩) l.length l.length, .slice (some ⟨b', 0, none⟩) l.length l.length]) (w' := w1) (by simp [frA, execOp, Act.put, Act.eval, go_sem, e3, e7]) ⟨⟨b, b', rfl, h3, h7, fun e => hne (by rw [e]), g3, g7⟩, Below.refl _ _, fun q => by simp at q⟩
          · intro o ho vals w1 hb hd hne
            cases ho
            exact .val (v := .pointer (some ⟨w1.heap.size, 0, none⟩)) (by simp [execOp, go_sem]) ⟨⟨_, rfl, BlkAt.new _ _ _, hb.size⟩, (Below.refl _ _).alloc (Nat.le_refl _) _, fun _ => ⟨_, rfl, Nat.le_refl _, by simp⟩⟩
        · intro vals ax w1 hI
          have e := hI.frame (by kernel_rfl) (by kernel_rfl)
          subst e
          have e0 : vals 0 = _ := hI.psi 0 (by omega) (by decide)
          have e1 : vals 1 = _ := hI.psi 1 (by omega) (by decide)
          have e3 : vals 3 = _ := hI.psi 3 (by omega) (by decide)
          have e4 : vals 4 = _ := hI.psi 4 (by omega) (by decide)
          obtain ⟨bat, bla, e6, h1, h2, h3, h4, h5⟩ := hI.psi 6 (by omega) (by decide)
          obtain ⟨bs, e7, h6, h7⟩ := hI.psi 7 (by omega) (by decide)
          have HI := Lib.hid hI
          generalize vals 2 = v2 at *
          generalize vals 5 = v5 at *
          have f0 := h6.free 0
          have f1 := h6.free 1
          have y0 := h6.cell 0
          have y1 := h6.cell 1
          have HH := Lib.hid (And.intro h1 (And.intro h2 (And.intro h3 (And.intro h4 (And.intro h5 (And.intro h6 h7))))))
          clear h1 h2 h3 h4 h5 h6 h7 hI
          refine SeqH.step rfl rfl fun KK hKK => ?_
          simp only [frA, List.foldl, e0, e1, e3, e4, e6, e7]
          go_simp
          refine hKK _ _ trivial (SeqH.done (NoPanic.normal ?_))
          go_wp2_with fail
          go_meet
          obtain ⟨h1, h2, h3, h4, h5, h6, h7⟩ := HH.out
          have kx : Keeps (fun j => j = bs) w1 ((w1.setCell ⟨bs, 0, none⟩ (.slice (some ⟨bat, 0, none⟩) l.length l.length)).setCell ⟨bs, 1, none⟩ (.slice (some ⟨bla, 0, none⟩) l.length l.length)) := (Keeps.set1 _ _ _ _).trans (Keeps.set1 _ _ _ _)
          have hb0 : Below W4.heap.size W4 w1 := (Below.refl _ _).drew.trans HI.out.below
          exact ⟨bs, bat, bla, rfl, ((h6.set 0 _).set 1 _).eq rfl, h1.kept kx (h1.ne_blk h6 (by decide)), h2.kept kx (h2.ne_blk h6 (by decide)), h3, h7, h4, h5, kx.below hb0 hb0.size fun j e => by subst e; exact h7⟩
      case rest =>
        obtain ⟨bs, bat, bla, rfl, hbs, hat, hla, hne, l1, l2, l3, hB⟩ := hcut
        obtain ⟨W5, hW5⟩ : ∃ W5, W5 = wc := ⟨_, rfl⟩
        subst hW5
        have HBS := Lib.hid hbs
        have HAT := Lib.hid hat
        have HLA := Lib.hid hla
        have HTB5 := Lib.hid (HTB4.out.keep hB)
        have HRB5 := Lib.hid (HRB4.out.keep hB)
        have HN5 := Lib.hid (HN4.out.keep hB)
        have HO5 := Lib.hid (HO4.out.keep hB)
        have HB5 := Lib.hid (HB4.out.trans (hB.mono HB4.out.size))
        have HLE5 := Lib.hid (show bo < bs ∧ bo < bat ∧ bo < bla ∧ bat ≠ bla ∧ bat ≠ bs ∧ bla ≠ bs ∧ bs < W5.heap.size ∧ bat < W5.heap.size ∧ bla < W5.heap.size from ⟨by have := HLE4.out; omega, by have := HLE4.out; omega, by have := HLE4.out; omega, hne, hat.ne_blk hbs (by decide), hla.ne_blk hbs (by decide), hbs.lt, hat.lt, hla.lt⟩)
        have t1 := (BlkAt.al HTB5.out (.cells (fnArr K fun _ => .int .i32 0) 21)).cell 1
        clear hbs hat hla hne l1 l2 l3 hB HTB4 HRB4 HN4 HO4 HB4 HX4
        go_wp2
        obtain ⟨bfr, hbfr⟩ : ∃ b, W5.heap.size = b := ⟨_, rfl⟩
        obtain ⟨W6, hW6⟩ : ∃ W6, W5.alloc (.cells (fnArr K fun _ => .int .i32 0) 21) = W6 := ⟨_, rfl⟩
        have hk56 : Below W5.heap.size W5 W6 := hW6 ▸ (Below.refl _ _).alloc (Nat.le_refl _) _
        have HFR := Lib.hid (show Ar .i32 21 bfr K (fun _ => 0) W6 from by rw [← hW6]; exact Ar.zeros W5 hbfr)
        have HBS6 := Lib.hid (HBS.out.keep hk56)
        have HAT6 := Lib.hid (HAT.out.keep hk56)
        have HLA6 := Lib.hid (HLA.out.keep hk56)
        have HTB6 := Lib.hid (HTB5.out.keep hk56)
        have HRB6 := Lib.hid (HRB5.out.keep hk56)
        have HN6 := Lib.hid (HN5.out.keep hk56)
        have HO6 := Lib.hid (HO5.out.keep hk56)
        have HB6 := Lib.hid (HB5.out.trans (hk56.mono HB5.out.size))
        have HLE6 := Lib.hid (show bfr = W5.heap.size ∧ bs < bfr ∧ bat < bfr ∧ bla < bfr from ⟨hbfr.symm, by have := HLE5.out; omega, by have := HLE5.out; omega, by have := HLE5.out; omega⟩)
        rw [hW6, hbfr]
        clear t1 hbfr hW6 hk56 HBS HAT HLA HTB5 HRB5 HN5 HO5 HB5
        have HATB := Lib.hid (show ∀ k, k < K → Gra.atF nr o k + o k ≤ 60 from fun k hk => by
          have h1 := Gra.at_bd (K := K) HNR.out.2.2.1 HSV.out hk
          have h2 := HBD.out 0 (by omega)
          omega)
        go_loopw [52, 10, 11] (fun v _ _ wr => ∃ i : Nat, i ≤ K ∧ v = .int .i64 i ∧ Ar .i32 21 bat l.length (plA T.ord (Gra.atF nr o) i) wr ∧ Ar .i32 21 bla l.length (plA T.ord (fun k => Gra.atF nr o k + o k) i) wr ∧ Ar .i32 21 bfr K (fun a => (freeF nr o i a : Nat)) wr ∧ Keeps (fun q => q = bat ∨ q = bla ∨ q = bfr) W6 wr) (fun v _ _ _ => K - (intOf v).toNat)
        case atStart => exact ⟨0, by omega, rfl, HAT6.out, HLA6.out, HFR.out.eq fun i _ => by rw [freeF_zero]; rfl, Keeps.refl _ _⟩
        case round =>
          obtain ⟨k, hk, rfl, hA, hL, hF, hKp⟩ := hrel
          have hn3 : ∀ {q}, q ≤ bo → ¬ (q = bat ∨ q = bla ∨ q = bfr) := fun h e => by have := HLE5.out; have := HLE6.out; omega
          by_cases hlt : k < K
          · have hlt' : (k : Int) < K := by omega
            have hlt9 := hlt
            have hle5 := HLE5.out
            have hle6 := HLE6.out
            have hbs := HBS6.out.kept hKp (fun e => by omega)
            have hNN := HN6.out.kept hKp (hn3 (by have := HLE4.out; omega))
            have hOO := HO6.out.kept hKp (hn3 (Nat.le_refl _))
            have hkO : k < T.ord.length := by rw [HK.out]; exact hlt
            have hold : Below w0.heap.size w0 wr := hKp.below (HOLD.out.trans (HB6.out.mono HOLD.out.size)) (by have := HOLD.out.size; have := HB6.out.size; omega) fun q e => by have := HOLD.out.size; have := HLE4.out; omega
            obtain ⟨g', off, rfl, hc⟩ := (HORD.out.keep hold).lie (by omega)
            have c0 := hc k hlt
            obtain ⟨P, hP⟩ : ∃ P, T.ord[k] = P := ⟨_, rfl⟩
            have hbq : byAt (T.ord.map Int.ofNat) k = (P : Int) := by
              rw [← byAt_eq (by rw [List.length_map]; exact hkO), List.getElem_map, hP]; rfl
            rw [hbq] at c0
            have hPn : P < l.length := HND.out.2.1 P (by rw [← hP]; exact List.getElem_mem _)
            have hPn' : (P : Int) < l.length := by omega
            have hPg : T.ord.getD k 0 = P := by rw [← hP]; simp [List.getD, hkO]
            have hpK := HNR.out.2.1 k hlt
            obtain ⟨p, hp⟩ : ∃ p, nr k = p := ⟨_, rfl⟩
            have hnext := freeF_next (K := K) (S := o) HNR.out.2.2.1 (HNR.out.2.2.2 (by omega)) hlt
            have hab := HATB.out k hlt
            rw [hp] at hpK hnext
            have hpK' : (p : Int) < K := by omega
            obtain ⟨A, hAe⟩ : ∃ x, Gra.atF nr o k = x := ⟨_, rfl⟩
            obtain ⟨Sk, hSe⟩ : ∃ x, o k = x := ⟨_, rfl⟩
            rw [hAe, hSe] at hnext hab
            have d0 := hbs.cell 0
            have d1 := hbs.cell 1
            have e0 := hNN.cell hlt
            rw [hp] at e0
            have e1 := hF.cell hpK
            rw [hnext.1] at e1
            have e2 := hA.cell hPn
            have f2 := hA.free P
            obtain ⟨v2, hv2⟩ : ∃ x, plA T.ord (Gra.atF nr o) k P = x := ⟨_, rfl⟩
            rw [hv2] at e2
            have n1 : ¬ bs = bat := fun e => hle5.2.2.2.2.1 e.symm
            have n2 : ¬ bs = bla := fun e => hle5.2.2.2.2.2.1 e.symm
            have n3 : ¬ bs = bfr := by omega
            have n4 : ¬ bat = bla := hle5.2.2.2.1
            have n5 : ¬ bla = bat := fun e => hle5.2.2.2.1 e.symm
            have n6 : ¬ bat = bfr := by omega
            have n7 : ¬ bla = bfr := by omega
            have n8 : ¬ bfr = bat := by omega
            have n9 : ¬ bfr = bla := by omega
            have m1 : ¬ bn = bat := by have := HLE4.out; omega
            have m2 : ¬ bn = bla := by have := HLE4.out; omega
            have m3 : ¬ bo = bat := by omega
            have m4 : ¬ bo = bla := by omega
            have HH := Lib.hid (And.intro hbs (And.intro hNN (And.intro hOO (And.intro hA (And.intro hL (And.intro hF (And.intro hKp (And.intro hnext (And.intro hpK (And.intro hp (And.intro hAe (And.intro hSe hPg))))))))))))
            have HPN := Lib.hid hPn
            clear hA hL hF hKp hn3 hle5 hle6 hbs hNN hOO hkO hold hc hP hbq hPg hp hnext hAe hSe hv2 hPn hpK
            go_wp2
            go_still_tail 11, (by kernel_rfl)
            go_wp2
            obtain ⟨X1, hX1⟩ : ∃ X1, (wr.setCell ⟨bat, P, none⟩ (.int .i32 (A : Int))).drew = X1 := ⟨_, rfl⟩
            rw [hX1]
            obtain ⟨hbs, hNN, hOO, hA, hL, hF, hKp, hnext, hpK, hp, hAe, hSe, hPg⟩ := HH.out
            have k1 : Keeps (fun q => q = bat) wr X1 := by rw [← hX1]; exact (Keeps.set1 _ _ _ _).trans (Keeps.of_below _ (Below.refl _ _).drew)
            have hA1 : Ar .i32 21 bat l.length (upn (plA T.ord (Gra.atF nr o) k) P (A : Int)) X1 := by rw [← hX1]; exact hA.set P (A : Int)
            have hbs1 := hbs.kept k1 n1
            have hNN1 := hNN.kept k1 m1
            have hOO1 := hOO.kept k1 m3
            have hL1 := hL.kept k1 n5
            have hF1 := hF.kept k1 n8
            have hKp1 : Keeps (fun q => q = bat ∨ q = bla ∨ q = bfr) W6 X1 := hKp.trans (k1.mono fun q _ e => .inl e)
            have d0 := hbs1.cell 0
            have d1 := hbs1.cell 1
            have e2 := hA1.cell HPN.out
            rw [upn_at] at e2
            have e3 := hOO1.cell hlt9
            rw [hSe] at e3
            have e4 := hL1.cell HPN.out
            have f4 := hL1.free P
            obtain ⟨v4, hv4⟩ : ∃ x, plA T.ord (fun k => Gra.atF nr o k + o k) k P = x := ⟨_, rfl⟩
            rw [hv4] at e4
            have w13 : IntKind.i32.wrap ((A : Int) + (Sk : Int)) = (A : Int) + (Sk : Int) := IntWalk.i32_in _ (by omega)
            have H1 := Lib.hid (And.intro hA1 (And.intro hbs1 (And.intro hNN1 (And.intro hOO1 (And.intro hL1 (And.intro hF1 hKp1))))))
            clear hX1 k1 hA1 hbs1 hNN1 hOO1 hL1 hF1 hKp1 hv4 hbs hNN hOO hA hL hF hKp hnext hpK hp hAe hSe hPg f2
            go_still_tail 14, (by kernel_rfl)
            go_wp2
            obtain ⟨X2, hX2⟩ : ∃ X2, (X1.setCell ⟨bla, P, none⟩ (.int .i32 ((A : Int) + (Sk : Int)))).drew = X2 := ⟨_, rfl⟩
            rw [hX2]
            obtain ⟨hA1, hbs1, hNN1, hOO1, hL1, hF1, hKp1⟩ := H1.out
            have k2 : Keeps (fun q => q = bla) X1 X2 := by rw [← hX2]; exact (Keeps.set1 _ _ _ _).trans (Keeps.of_below _ (Below.refl _ _).drew)
            have hL2 : Ar .i32 21 bla l.length (upn (plA T.ord (fun k => Gra.atF nr o k + o k) k) P ((A : Int) + (Sk : Int))) X2 := by rw [← hX2]; exact hL1.set P _
            have hA2 := hA1.kept k2 n4
            have hbs2 := hbs1.kept k2 n2
            have hNN2 := hNN1.kept k2 m2
            have hF2 := hF1.kept k2 n9
            have hKp2 : Keeps (fun q => q = bat ∨ q = bla ∨ q = bfr) W6 X2 := hKp1.trans (k2.mono fun q _ e => .inr (.inl e))
            have d0 := hbs2.cell 0
            have d1 := hbs2.cell 1
            have e0 := hNN2.cell hlt9
            rw [HH.out.2.2.2.2.2.2.2.2.2.1] at e0
            have e5 := hL2.cell HPN.out
            rw [upn_at] at e5
            have e6 := hF2.cell HH.out.2.2.2.2.2.2.2.2.1
            have f6 := hF2.free p
            obtain ⟨v6, hv6⟩ : ∃ x, ((freeF nr o k p : Nat) : Int) = x := ⟨_, rfl⟩
            rw [hv6] at e6
            have w14 : IntKind.i32.wrap ((A : Int) + (Sk : Int) + 1) = (A : Int) + (Sk : Int) + 1 := IntWalk.i32_in _ (by omega)
            have e7 := hA2.cell HPN.out
            rw [upn_at] at e7
            have hF3 := hF2.set p ((A : Int) + (Sk : Int) + 1)
            have e8 := hF3.cell hlt9
            have f8 := hF3.free k
            have f9 := hF2.free k
            obtain ⟨v8, hv8⟩ : ∃ x, upn (fun a => ((freeF nr o k a : Nat) : Int)) p ((A : Int) + (Sk : Int) + 1) k = x := ⟨_, rfl⟩
            rw [hv8] at e8
            have w15 : IntKind.i32.wrap ((A : Int) + 1) = (A : Int) + 1 := IntWalk.i32_in _ (by omega)
            have H2 := Lib.hid (And.intro hA2 (And.intro hbs2 (And.intro hL2 (And.intro hF2 hKp2))))
            clear hX2 k2 hL2 hA2 hbs2 hNN2 hF2 hF3 hKp2 hv6 hv8 hA1 hbs1 hNN1 hOO1 hL1 hF1 hKp1 e1 e2 e3 e4 f4
            go_still_tail 12, (by kernel_rfl)
            go_wp2
            go_roundw
            case rel =>
              obtain ⟨hA2, hbs2, hL2, hF2, hKp2⟩ := H2.out
              obtain ⟨-, -, -, -, -, -, -, hnext, -, -, hAe, hSe, hPg⟩ := HH.out
              have k3 := Keeps.set1 X2 bfr p (.int .i32 ((A : Int) + (Sk : Int) + 1))
              have k4 := Keeps.set1 (X2.setCell ⟨bfr, p, none⟩ (.int .i32 ((A : Int) + (Sk : Int) + 1))) bfr k (.int .i32 ((A : Int) + 1))
              have k5 : Keeps (fun q => q = bfr) X2 ((X2.setCell ⟨bfr, p, none⟩ (.int .i32 ((A : Int) + (Sk : Int) + 1))).setCell ⟨bfr, k, none⟩ (.int .i32 ((A : Int) + 1))) := k3.trans k4
              have hF4 := ((hF2.set p ((A : Int) + (Sk : Int) + 1)).set k ((A : Int) + 1)).eq (g := fun a => ((freeF nr o (k + 1) a : Nat) : Int)) fun i _ => by
                rw [← hnext.2 i]
                unfold upn
                dsimp only
                split
                · omega
                · split
                  · omega
                  · rfl
              have hA4 := (hA2.kept k5 n6).eq (g := plA T.ord (Gra.atF nr o) (k + 1)) fun i _ => by
                show _ = upn (plA T.ord (Gra.atF nr o) k) (T.ord.getD k 0) (Gra.atF nr o k : Nat) i
                rw [hPg, hAe]
              have hL4 := (hL2.kept k5 n7).eq (g := plA T.ord (fun k => Gra.atF nr o k + o k) (k + 1)) fun i _ => by
                show _ = upn (plA T.ord (fun k => Gra.atF nr o k + o k) k) (T.ord.getD k 0) ((Gra.atF nr o k + o k : Nat) : Int) i
                rw [hPg, hAe, hSe]
                rfl
              have hKp5 := (hKp2.trans (k5.mono fun q _ e => .inr (.inr e))).next (Keeps.of_below (fun _ => False) (Below.refl _ _).drew) fun q _ e => e.elim
              exact ⟨k + 1, by omega, by go_num, hA4, hL4, hF4, hKp5⟩
            case measure => simp [intOf]; omega
          · obtain rfl : k = K := by omega
            have hbs := HBS6.out.kept hKp (fun e => by have := HLE5.out; have := HLE6.out; omega)
            have hrb := HRB6.out.kept hKp (hn3 (by have := HLE4.out; omega))
            have d0 := hbs.cell 0
            have d1 := hbs.cell 1
            have y0 := hrb.cell 0
            have y1 := hrb.cell 1
            have g0 := hrb.free 0
            have g1 := hrb.free 1
            have nb : ¬ bs = w.heap.size + 1 + 1 := by have := HLE4.out; have := HLE5.out; omega
            have nb2 : ¬ w.heap.size + 1 + 1 = bs := fun e => nb e.symm
            have HH := Lib.hid (And.intro hA (And.intro hL hKp))
            clear hA hL hF hKp hbs hrb hn3 hlt
            go_wp2
            refine bodyPost_ret (v := .agg #[.slice (some ⟨bat, 0, none⟩) l.length l.length, .slice (some ⟨bla, 0, none⟩) l.length l.length]) (by simp [results, Tryz.results32, go_sem, y0, y1]) rfl ?_
            obtain ⟨hA, hL, hKp⟩ := HH.out
            have hle := HLE4.out
            have hle5 := HLE5.out
            have hle6 := HLE6.out
            have kx : Keeps (fun q => q = w.heap.size + 1 + 1) wr ((wr.setCell ⟨w.heap.size + 1 + 1, 0, none⟩ (.slice (some ⟨bat, 0, none⟩) l.length l.length)).setCell ⟨w.heap.size + 1 + 1, 1, none⟩ (.slice (some ⟨bla, 0, none⟩) l.length l.length)) := (Keeps.set1 _ _ _ _).trans (Keeps.set1 _ _ _ _)
            have hb : Below w.heap.size w wr := hKp.below HB6.out HB6.out.size fun q e => by omega
            have hkk := HK.out
            refine ⟨bat, bla, nr, o, rfl, hA.kept kx (by omega), hL.kept kx (by omega), ⟨⟨near, HV.out, fun j hj => HNR.out.1 j (by omega)⟩, by rw [hkk]; exact HSV.out⟩, kx.below hb hb.size fun q e => by omega⟩

open Go.RowKit Go.IntWalk

set_option maxRecDepth 100000 in
set_option maxHeartbeats 1000000 in
theorem graSAhead_is {bat bla n x y : Nat} {f g : Nat → Int} {w : World} (hf : Ar .i32 21 bat n f w) (hg : Ar .i32 21 bla n g w) (hn : n ≤ 60) (hx : x < n) (hy : y < n) :
    Calls Tryz.prog 34 #[.agg #[.slice (some ⟨bat, 0, none⟩) n n, .slice (some ⟨bla, 0, none⟩) n n], .int .i64 x, .int .i64 y] w fun e w' => e = .returned (.bool (decide (f x ≤ f y) && decide (f y ≤ g x))) ∧ Below w.heap.size w w' := by
  have ha := (Below.refl w.heap.size w).alloc (Nat.le_refl _) (.cells #[.slice (some ⟨bat, 0, none⟩) n n, .slice (some ⟨bla, 0, none⟩) n n] 72)
  have c1 := (hf.keep ha).cell hx
  have c2 := (hf.keep ha).cell hy
  have c3 := (hg.keep ha).cell hx
  obtain ⟨u, hu⟩ : ∃ v, f x = v := ⟨_, rfl⟩
  obtain ⟨v, hv⟩ : ∃ v, f y = v := ⟨_, rfl⟩
  obtain ⟨z, hz⟩ : ∃ v, g x = v := ⟨_, rfl⟩
  rw [hu] at c1 ⊢
  rw [hv] at c2 ⊢
  rw [hz] at c3 ⊢
  have hx' : (x : Int) < n := by omega
  have hy' : (y : Int) < n := by omega
  have hn' : (n : Int) ≤ 60 := by omega
  clear hf hg ha hu hv hz hx hy
  by_cases h : u ≤ v
  · have hd : decide (u ≤ v) = true := decide_eq_true h
    have HH := Lib.hid h
    go_enter Tryz.func34, Tryz.ntmps34
    go_wp2
    go_quiet (fail)
    go_wp2
    go_ret
    exact ⟨by rw [decide_eq_true HH.out]; simp, below_drewN ((Below.refl _ _).alloc (Nat.le_refl _) _) _⟩
  · have hd : decide (u ≤ v) = false := decide_eq_false h
    have HH := Lib.hid h
    clear h
    go_enter Tryz.func34, Tryz.ntmps34
    go_wp2
    go_quiet (fail)
    go_wp2
    go_ret
    exact ⟨by rw [decide_eq_false (show ¬ u ≤ v by have := HH.out; omega)]; simp, below_drewN ((Below.refl _ _).alloc (Nat.le_refl _) _) _⟩
theorem fw_num {l : List Int} {T : Gra.Tr} {par : Nat → Nat} (hD : Gra.DfsI (nxN l) T par) (hc : ∀ x, x ∈ T.ord ↔ Gra.Came (nxN l) (fun _ => true) (beginN l.length) x) (hb : beginN l.length = [0]) {i j : Nat} (hi : i < T.ord.length) (hj : j < T.ord.length) :
    Gra.Fw (Gra.NumE (nxN l) T) (· ≠ i) 0 j ↔ Gra.Came (nxN l) (fun p => decide ((p : Int) ≠ (el T.ord i : Nat))) (beginN l.length) (el T.ord j) := by
  have hne : ∀ {a : Nat}, a < T.ord.length → (a ≠ i ↔ ((el T.ord a : Nat) : Int) ≠ (el T.ord i : Nat)) := fun {a} ha => by
    constructor
    · intro h e
      exact h (Gra.el_inj hD.nd ha hi (by omega))
    · intro h e
      exact h (by rw [e])
  constructor
  · intro h
    have key : ∀ {a b : Nat}, Gra.Fw (Gra.NumE (nxN l) T) (· ≠ i) a b → a < T.ord.length → Gra.Came (nxN l) (fun p => decide ((p : Int) ≠ (el T.ord i : Nat))) (beginN l.length) (el T.ord a) → Gra.Came (nxN l) (fun p => decide ((p : Int) ≠ (el T.ord i : Nat))) (beginN l.length) (el T.ord b) := fun h => by
      induction h with
      | nil _ => intro _ h; exact h
      | cons _ e hw ih =>
        intro _ hca
        exact ih e.2.1 (.next hca e.2.2 (decide_eq_true ((hne e.2.1).1 hw.fst)))
    refine key h hD.pos (.start ?_ (decide_eq_true ((hne hD.pos).1 h.fst)))
    rw [hb, hD.root]
    simp
  · intro h
    have key : ∀ z, Gra.Came (nxN l) (fun p => decide ((p : Int) ≠ (el T.ord i : Nat))) (beginN l.length) z → ∃ a, a < T.ord.length ∧ el T.ord a = z ∧ Gra.Fw (Gra.NumE (nxN l) T) (· ≠ i) 0 a := fun z h => by
      induction h with
      | start h hm =>
        rw [hb] at h
        obtain rfl := List.mem_singleton.1 h
        have h1 := of_decide_eq_true hm
        refine ⟨0, hD.pos, hD.root, .nil ((hne hD.pos).2 ?_)⟩
        rw [hD.root]
        exact h1
      | @next p q hp hq hm ih =>
        obtain ⟨a, ha, rfl, hw⟩ := ih
        have h1 := of_decide_eq_true hm
        have hqo : q ∈ T.ord := (hc q).2 (.next ((hc _).1 (by rw [← el_eq ha]; exact List.getElem_mem _)) hq rfl)
        obtain ⟨b, hbl, hbe⟩ := List.mem_iff_getElem.1 hqo
        have hbe2 : el T.ord b = q := by rw [← el_eq hbl]; exact hbe
        refine ⟨b, hbl, hbe2, hw.snoc ⟨ha, hbl, by rw [hbe2]; exact hq⟩ ((hne hbl).2 ?_)⟩
        rw [hbe2]
        exact h1
    obtain ⟨a, ha, he, hw⟩ := key _ h
    rw [Gra.el_inj hD.nd ha hj he] at hw
    exact hw
theorem spa_ahead {l : List Int} {T : Gra.Tr} {par nr S : Nat → Nat} (hP : PureT (fun _ => true) (nxN l) (beginN l.length) T) (hD : Gra.DfsI (nxN l) T par) (hV : SpaV l T par nr S) {x y : Nat} (hx : x ∈ T.ord) (hy : y ∈ T.ord) :
    (decide (plA T.ord (Gra.atF nr S) T.ord.length x ≤ plA T.ord (Gra.atF nr S) T.ord.length y) && decide (plA T.ord (Gra.atF nr S) T.ord.length y ≤ plA T.ord (fun k => Gra.atF nr S k + S k) T.ord.length x)) = aheadB l x y := by
  have h1 := Gra.GoP.came (mv := fun _ => true) (N := nxN l) (l0 := beginN l.length) hP.2 hP.1
  have hc : ∀ x, x ∈ T.ord ↔ Gra.Came (nxN l) (fun _ => true) (beginN l.length) x := fun x => (h1.2.2 x).trans (h1.1 x)
  have hyn : y < l.length := came_lt ((hc y).1 hy)
  have hb : beginN l.length = [0] := by unfold beginN; rw [Nat.min_eq_right (by omega)]; rfl
  obtain ⟨i, hi, rfl⟩ := List.mem_iff_getElem.1 hx
  obtain ⟨j, hj, rfl⟩ := List.mem_iff_getElem.1 hy
  rw [plA_on hD.nd _ (Nat.le_refl _) hi hi, plA_on hD.nd _ (Nat.le_refl _) hj hj, plA_on hD.nd _ (Nat.le_refl _) hi hi]
  obtain ⟨⟨near, hN, hnr⟩, hS⟩ := hV
  have hlt : ∀ k, 0 < k → k < T.ord.length → nr k < k := fun k h0 hk => by
    have h2 := hN.lt (fun _ => hD.deep) k h0 hk
    have h3 := hnr k hk
    omega
  obtain ⟨low, hk1, hk2, -⟩ := hN
  obtain ⟨sd, hs, hn⟩ := Gra.near_done hD.deep hk1 hk2
  have hdom := hn.anc hD.deep hs hj i
  have hanc : Gra.Anc (fun j => (near j).toNat) i j ↔ Gra.Anc nr i j :=
    ⟨fun h => h.congr (fun k h0 hk => hn.lt hD.deep hs h0 (by omega)) (fun k h0 hk => by have := hnr k (by omega); show nr k = (near k).toNat; omega), fun h => h.congr (fun k h0 hk => hlt k h0 (by omega)) (fun k h0 hk => by have := hnr k (by omega); show (near k).toNat = nr k; omega)⟩
  have hat := Gra.at_iff (K := T.ord.length) hlt hS (Nat.le_refl (i + j)) hi hj
  have hfw := fw_num hD hc hb hi hj
  rw [← el_eq hi, ← el_eq hj] at hfw
  have hac : aheadB l (T.ord[i] : Nat) (T.ord[j] : Nat) = !cameB (nxN l) (fun p => decide ((p : Int) ≠ (T.ord[i] : Nat))) (beginN l.length) T.ord[j] := by
    unfold aheadB
    rw [hasB_nat _ hyn, hasB_nat _ hyn, cameB_iff.2 ((hc _).1 hy), Bool.true_and]
  rw [hac, Bool.eq_iff_iff, Bool.and_eq_true, decide_eq_true_iff, decide_eq_true_iff, Bool.not_eq_true', ← Bool.not_eq_true, cameB_iff, ← hfw]
  have h9 : ¬ Gra.Fw (Gra.NumE (nxN l) T) (· ≠ i) 0 j ↔ Gra.Anc nr i j := hdom.trans hanc
  rw [h9, hat]
  omega
/-- Ways back, as Backs tells them. -/
def fixK : Kd (Int × Int) where
  k := 2
  enc x := [.int .i64 x.1, .int .i64 x.2]
  len _ := rfl
  ones _ v hv := by
    simp only [List.mem_cons, List.not_mem_nil, or_false] at hv
    rcases hv with rfl | rfl <;> rfl
  pos := by decide
noncomputable def backsP (l : List Int) (p : Nat) : List (Int × Int) := ((nxN l p).filter fun (q : Nat) => aheadB l (q : Int) (p : Int)).map fun (q : Nat) => ((p : Int), (q : Int))
noncomputable def backsL (l : List Int) : List (Int × Int) := ((List.range l.length).filter (cameB (nxN l) (fun _ => true) (beginN l.length))).flatMap (backsP l)
theorem flatMapP_len {α : Type} {N : Nat → List α} {D : Nat} (h : ∀ p, (N p).length ≤ D) : ∀ O : List Nat, (O.flatMap N).length ≤ O.length * D
  | [] => by simp
  | x :: O => by
    have h1 := flatMapP_len h O
    have h2 := h x
    rw [List.flatMap_cons, List.length_append, List.length_cons, Nat.add_mul]
    omega
theorem infoFix : (Tryz.prog.info? 49).map (fun i => (i.zero, i.size, i.bytes)) = some (some (.agg #[.int .i64 0, .int .i64 0]), 2, 16) := by kernel_rfl
theorem dfs_pure {l : List Int} {T : Gra.Tr} (hP : PureT (fun _ => true) (nxN l) (beginN l.length) T) : ∃ par, 0 < T.ord.length → Gra.DfsI (nxN l) T par := by
  by_cases h : 0 < T.ord.length
  · have h1 := Gra.GoP.came (mv := fun _ => true) (N := nxN l) (l0 := beginN l.length) hP.2 hP.1
    have hx : T.ord[0] < l.length := came_lt ((h1.1 _).1 ((h1.2.2 _).1 (List.getElem_mem _)))
    have hb : beginN l.length = [0] := by unfold beginN; rw [Nat.min_eq_right (by omega)]; rfl
    have h2 := hP.2
    rw [hb] at h2
    obtain ⟨par, hp⟩ := Gra.dfs_end (N := nxN l) (T := T) h2 hP.1
    exact ⟨par, fun _ => hp⟩
  · exact ⟨fun _ => 0, fun q => absurd q h⟩
set_option maxRecDepth 100000 in
set_option maxHeartbeats 4000000 in
theorem graBacks_is {l : List Int} {a : Option Addr} {c : Nat} {w : World} (h : Ws .u32 w a l.length c l) (hn : l.length ≤ 60) (hs : ShapesLaid w) (hb : ∀ i, i < l.length → 0 ≤ byAt l i ∧ byAt l i < 4294967296) :
    Calls Tryz.prog 16 #[.slice a l.length c] w fun e w' => ∃ v, e = .returned v ∧ OwnEl fixK w' w.heap.size 49 v (backsL l) ∧ Below w.heap.size w w' := by
  have HRd := Lib.hid (graRead_is h hn hs hb)
  have HN := Lib.hid hn
  clear h hs hb hn
  go_enter Tryz.func16, Tryz.ntmps16
  go_upto_region 4 with (first
    | (go_at_call 21; ((with_reducible refine (HRd.out).mono ?_); rintro e w2 ⟨v, rfl, hv, hq⟩); obtain ⟨a1, m1, c1, a2, c2, rfl, hwa, hwn⟩ := hv.ways; have HWN := Lib.hid hwn; have HWA := Lib.hid hwa; have HQ1 := Lib.hid hq; clear hwn hwa hq hv HRd)
    | (go_at_call 22; ((with_reducible refine (graAll_is HWN.out ((Below.refl _ _).alloc (Nat.le_refl _) _) HN.out).mono ?_); rintro e w3 ⟨v, T, rfl, hv, ht, hq⟩); have HP := Lib.hid ht; have k23 := ((Below.refl w2.heap.size w2).alloc (Nat.le_refl _) _).trans (hq.mono (by simp)); have HQ3 := Lib.hid (And.intro hq k23); clear ht hq; obtain ⟨bc, bf, bo, ov, rfl, hset, hord, hfr, hlo⟩ := hv; obtain ⟨ao, co, rfl, -⟩ := hord.wsn (m := T.ord.length) (by simp); obtain ⟨par, hpar⟩ := dfs_pure HP.out; have HD := Lib.hid hpar; have HSET := Lib.hid hset; have HSP := Lib.hid (fun w9 hk => graSpansOf_is (w := w9) (HWA.out.keep k23) (HWN.out.keep k23) ⟨bc, bf, bo, _, rfl, hset, hord, hfr, hlo⟩ HP.out hpar hk HN.out); have hb2 := ((BlkAt.new w2 60 #[.slice a1 m1 c1, .slice a2 (l.length + 1) c2]).keep HQ3.out.1).al (.cells #[.slice (some ⟨bc, 0, none⟩) (szS l.length) (szS l.length), .slice ao T.ord.length co, .slice (some ⟨bf, 0, none⟩) l.length l.length] 58); have y0 := hb2.cell 0; have y1 := hb2.cell 1; have HB2 := Lib.hid hb2; clear hb2 hset hord hfr hlo hpar k23)
    | (go_at_call 32; ((with_reducible refine (HSP.out _ ((Below.refl _ _).alloc (Nat.le_refl _) _)).mono ?_); rintro e w4 ⟨bat, bla, nr, S, rfl, hat, hla, hsv, hq⟩); have HAT := Lib.hid hat; have HLA := Lib.hid hla; have HSV := Lib.hid hsv; have HQ4 := Lib.hid hq; clear hat hla hsv hq))
  obtain ⟨W7, hW7⟩ : ∃ W7, w4.alloc (.cells #[.slice (some ⟨bat, 0, none⟩) l.length l.length, .slice (some ⟨bla, 0, none⟩) l.length l.length] 72) = W7 := ⟨_, rfl⟩
  have k47 : Below w4.heap.size w4 W7 := hW7 ▸ (Below.refl _ _).alloc (Nat.le_refl _) _
  have k3a : Below w3.heap.size w3 (w3.alloc (.cells #[.slice (some ⟨bc, 0, none⟩) (szS l.length) (szS l.length), .slice ao T.ord.length co, .slice (some ⟨bf, 0, none⟩) l.length l.length] 58)) := (Below.refl _ _).alloc (Nat.le_refl _) _
  have k37 : Below w3.heap.size w3 W7 := k3a.trans ((HQ4.out.trans (k47.mono HQ4.out.size)).mono k3a.size)
  have k27 : Below w2.heap.size w2 W7 := HQ3.out.2.trans (k37.mono HQ3.out.2.size)
  have k07 : Below w.heap.size w W7 := HQ1.out.trans (k27.mono HQ1.out.size)
  have k4a7 := HQ4.out.trans (k47.mono HQ4.out.size)
  have HX2 := Lib.hid (HB2.out.keep k4a7)
  have HX3 := Lib.hid ((BlkAt.new w3 58 #[.slice (some ⟨bc, 0, none⟩) (szS l.length) (szS l.length), .slice ao T.ord.length co, .slice (some ⟨bf, 0, none⟩) l.length l.length]).keep k4a7)
  have HX4 := Lib.hid (show BlkAt w4.heap.size 72 #[.slice (some ⟨bat, 0, none⟩) l.length l.length, .slice (some ⟨bla, 0, none⟩) l.length l.length] W7 from hW7 ▸ BlkAt.new _ _ _)
  have HSC := Lib.hid (HSET.out.keep k37)
  have HAT7 := Lib.hid (HAT.out.keep k47)
  have HLA7 := Lib.hid (HLA.out.keep k47)
  have HK := Lib.hid (And.intro k07 k27)
  rw [hW7]
  have z0 := HX3.out.cell 0
  rw [HP.out.came] at HSC
  have hn' : (l.length : Int) ≤ 60 := by have := HN.out; omega
  clear y0 y1 hW7 k47 k3a k37 k27 k07 k4a7 HB2 HSET HAT HLA HQ1 HQ3 HQ4 HSP
  generalize hb5 : w2.heap.size = b5 at *
  have HB5 := Lib.hid hb5
  clear hb5
  generalize w3.heap.size = b6 at *
  generalize w4.heap.size = b7 at *
  go_wp2_with (go_at_call 33; ((with_reducible refine (graPlaces_is HSC.out HN.out).mono ?_); rintro e w8 ⟨v8, rfl, hv8, hq8⟩); obtain ⟨a8, c8, rfl, hws8⟩ := hv8.ws; have HW8 := Lib.hid hws8; have HQ8 := Lib.hid hq8; clear hv8 hq8 hws8)
  obtain ⟨PN, hPN⟩ : ∃ PN, (List.range l.length).filter (cameB (nxN l) (fun _ => true) (beginN l.length)) = PN := ⟨_, rfl⟩
  have hpl : plc (cameB (nxN l) (fun _ => true) (beginN l.length)) l.length = PN.map Int.ofNat := by rw [← hPN]; rfl
  rw [hpl] at HW8 ⊢
  have hlm : (PN.map Int.ofNat).length = PN.length := List.length_map ..
  rw [hlm] at HW8 ⊢
  have hPl : PN.length ≤ 60 := by rw [← hPN]; exact Nat.le_trans (List.length_filter_le _ _) (by rw [List.length_range]; exact HN.out)
  have HPM := Lib.hid (show ∀ p ∈ PN, p < l.length ∧ p ∈ T.ord from fun p hp => by
    rw [← hPN, List.mem_filter, List.mem_range] at hp
    have h1 := Gra.GoP.came (mv := fun _ => true) (N := nxN l) (l0 := beginN l.length) HP.out.2 HP.out.1
    exact ⟨hp.1, (h1.2.2 p).2 ((h1.1 p).2 (cameB_iff.1 hp.2))⟩)
  have HPN := Lib.hid hPN
  obtain ⟨kp, hkp⟩ : ∃ k, PN.length = k := ⟨_, rfl⟩
  rw [hkp] at hPl HW8 ⊢
  have HKP := Lib.hid hkp
  have hkp' : (kp : Int) ≤ 60 := by omega
  have HK8 := Lib.hid (show Below w.heap.size w w8 ∧ Below w2.heap.size w2 w8 from ⟨HK.out.1.trans (HQ8.out.mono HK.out.1.size), by
    have h1 := HK.out.2
    rw [← HB5.out] at h1
    exact h1.trans (HQ8.out.mono h1.size)⟩)
  have HX28 := Lib.hid (HX2.out.keep HQ8.out)
  have HX48 := Lib.hid (HX4.out.keep HQ8.out)
  have HAT8 := Lib.hid (HAT7.out.keep HQ8.out)
  have HLA8 := Lib.hid (HLA7.out.keep HQ8.out)
  clear hPN hpl hlm hkp z0
  go_loopw [22, 6] (fun v v6 wr => ∃ i : Nat, i ≤ kp ∧ v = .int .i64 i ∧ OwnEl fixK wr w8.heap.size 49 v6 ((PN.take i).flatMap (backsP l)) ∧ Below w8.heap.size w8 wr) (fun v _ _ => kp - (intOf v).toNat)
  case atStart => exact ⟨0, by omega, rfl, OwnEl.nil fixK _ _ _, Below.refl _ _⟩
  case round =>
    obtain ⟨i, hi, rfl, hO, hB⟩ := hrel
    have HO := Lib.hid hO
    have HB := Lib.hid hB
    by_cases hlt : i < kp
    · have hlt' : (i : Int) < kp := by omega
      obtain ⟨g, off, rfl, hc⟩ := (HW8.out.keep hB).lie (by omega)
      have c0 := hc i hlt
      have hil : i < PN.length := by rw [HKP.out]; exact hlt
      obtain ⟨p, hp⟩ : ∃ p, PN[i] = p := ⟨_, rfl⟩
      have hbq : byAt (PN.map Int.ofNat) i = (p : Int) := by
        rw [← byAt_eq (by rw [List.length_map]; exact hil), List.getElem_map, hp]; rfl
      rw [hbq] at c0
      have hpm := HPM.out p (by rw [← hp]; exact List.getElem_mem _)
      have hpn := hpm.1
      have x0 := (HX28.out.keep hB).cell 0
      have x1 := (HX28.out.keep hB).cell 1
      obtain ⟨LL, hL1, hL2, hL3⟩ := HWN.out.ex
      have hOf := graOf_is (w := wr) hL1 (HK8.out.2.trans (hB.mono HK8.out.2.size)) (by rw [hL2]; have := HN.out; omega) (p := p) (by omega)
      rw [hL3 p hpn] at hOf
      have HOF := Lib.hid hOf
      have HTK := Lib.hid (show PN.take (i + 1) = PN.take i ++ [p] from by rw [List.take_succ_eq_append_getElem hil, hp])
      have HPP := Lib.hid hpm
      clear hO hB hc hil hp hbq hpm hpn hL1 hL2 hL3 hOf hlt
      go_wp2_with (go_at_call 27; ((with_reducible refine HOF.out.mono ?_); rintro e w9 ⟨b, kk, d, rfl, hw9, -, hq⟩); have HW9 := Lib.hid hw9; have HQ9 := Lib.hid hq; clear hw9 hq)
      have hkl := HW9.out.len
      rw [List.length_map] at hkl
      have hkk : kk ≤ 200 := by have := HWN.out.few p; omega
      have hkk' : (kk : Int) ≤ 200 := by omega
      have HKL := Lib.hid hkl
      clear x0 x1 c0 hkl
      go_loopw [30, 6] (fun v v6 wr => ∃ j : Nat, j ≤ kk ∧ v = .int .i64 j ∧ OwnEl fixK wr w8.heap.size 49 v6 ((PN.take i).flatMap (backsP l) ++ (((nxN l p).take j).filter fun (q : Nat) => aheadB l (q : Int) (p : Int)).map fun (q : Nat) => ((p : Int), (q : Int))) ∧ Below w8.heap.size w8 wr) (fun v _ _ => kk - (intOf v).toNat)
      case atStart => exact ⟨0, by omega, rfl, by simpa using HO.out.keep HQ9.out, HB.out.trans (HQ9.out.mono HB.out.size)⟩
      case round =>
        obtain ⟨j, hj, rfl, hO, hB⟩ := hrel
        have HO2 := Lib.hid hO
        have HBB := Lib.hid hB
        by_cases hlt : j < kk
        · have hlt' : (j : Int) < kk := by omega
          have hold : Below w2.heap.size w2 wr := HK8.out.2.trans (hB.mono HK8.out.2.size)
          obtain ⟨g2, off2, rfl, hc⟩ := (HW9.out.keep hold).lie (by omega)
          have c0 := hc j hlt
          have hjl : j < (nxN l p).length := by rw [HKL.out]; exact hlt
          obtain ⟨q, hq⟩ : ∃ q, (nxN l p)[j] = q := ⟨_, rfl⟩
          have hbq : byAt ((nxN l p).map Int.ofNat) j = (q : Int) := by
            rw [← byAt_eq (by rw [List.length_map]; exact hjl), List.getElem_map, hq]; rfl
          rw [hbq] at c0
          have hqm : q ∈ nxN l p := by rw [← hq]; exact List.getElem_mem _
          have hqn : q < l.length := nxN_in hqm
          have hqo : q ∈ T.ord := by
            have h1 := Gra.GoP.came (mv := fun _ => true) (N := nxN l) (l0 := beginN l.length) HP.out.2 HP.out.1
            exact (h1.2.2 q).2 ((h1.1 q).2 (.next ((h1.1 p).1 ((h1.2.2 p).1 HPP.out.2)) hqm rfl))
          have hw : IntKind.i64.wrap (q : Int) = (q : Int) := IntWalk.i64_in _ (by have := HN.out; omega)
          have s0 := (HX48.out.keep hB).cell 0
          have s1 := (HX48.out.keep hB).cell 1
          have hah := graSAhead_is (w := wr) (HAT8.out.keep hB) (HLA8.out.keep hB) HN.out hqn HPP.out.1
          rw [spa_ahead HP.out (HD.out (List.length_pos_of_mem hqo)) HSV.out hqo HPP.out.2] at hah
          obtain ⟨v, hv⟩ : ∃ v, aheadB l (q : Int) (p : Int) = v := ⟨_, rfl⟩
          rw [hv] at hah
          have HAH := Lib.hid hah
          have HTA := Lib.hid (show ((nxN l p).take (j + 1)).filter (fun (q : Nat) => aheadB l (q : Int) (p : Int)) = ((nxN l p).take j).filter (fun (q : Nat) => aheadB l (q : Int) (p : Int)) ++ if v = true then [q] else [] from by
            rw [List.take_succ_eq_append_getElem hjl, List.filter_append, hq]
            congr 1
            by_cases e : v = true
            · rw [if_pos e]; simp [hv, e]
            · rw [if_neg e]; simp [hv, e])
          have HSZ := Lib.hid (show w8.heap.size ≤ wr.heap.size from hB.size)
          clear hO hB hold hc hjl hq hbq hqm hqn hqo hah hv hlt
          cases v with
          | false =>
            go_wp2_with (go_at_call 34; ((with_reducible refine HAH.out.mono ?_); rintro e w10 ⟨rfl, hq10⟩); have HQ10 := Lib.hid hq10; clear hq10)
            go_roundw
            case rel => exact ⟨j + 1, by omega, by go_num, by rw [HTA.out]; simpa using HO2.out.keep HQ10.out, HBB.out.trans (HQ10.out.mono HBB.out.size)⟩
            case measure => simp [intOf]; omega
          | true =>
            obtain ⟨i0, hi0, hz0, hz1, hz2⟩ := info_parts infoFix
            have HIO := Lib.hid (And.intro hi0 (And.intro hz0 (And.intro hz1 hz2)))
            have HLEN := Lib.hid (show ((PN.take i).flatMap (backsP l) ++ (((nxN l p).take j).filter fun (q : Nat) => aheadB l (q : Int) (p : Int)).map fun (q : Nat) => ((p : Int), (q : Int))).length ≤ 100000 from by
              have h1 := flatMapP_len (N := backsP l) (D := 200) (fun x => by
                unfold backsP
                rw [List.length_map]
                exact Nat.le_trans (List.length_filter_le _ _) (HWN.out.few x)) (PN.take i)
              have h2 : (PN.take i).length ≤ 60 := by rw [List.length_take]; omega
              have h3 := Nat.mul_le_mul_right 200 h2
              have h4 : (((nxN l p).take j).filter fun (q : Nat) => aheadB l (q : Int) (p : Int)).length ≤ 200 := Nat.le_trans (List.length_filter_le _ _) (by rw [List.length_take]; omega)
              rw [List.length_append, List.length_map]
              omega)
            clear hi0 hz0 hz1 hz2
            have hwp : IntKind.i64.wrap (q : Int) = (q : Int) := hw
            go_wp2_with (first
              | (go_at_call 34; ((with_reducible refine HAH.out.mono ?_); rintro e w10 ⟨rfl, hq10⟩); have HQ10 := Lib.hid hq10; clear hq10)
              | (at_builtin; refine wpList_append_el (K := fixK) rfl _ _ 46 rfl w8.heap.size 49 i0 (.agg #[.int .i64 0, .int .i64 0]) Tryz.underlying46 HIO.out.1 HIO.out.2.1 HIO.out.2.2.1 (by have := HIO.out.2.2.2; omega) rfl rfl ((HO2.out.keep HQ10.out).keep ((Below.refl _ _).alloc (Nat.le_refl _) _)) rfl (u := ((p : Int), (q : Int))) ⟨_, BlkAt.new _ _ _⟩ (by have := HLEN.out; omega) (by have := HQ10.out.size; have := HSZ.out; simp; omega) ?_; intro v' w11 hown hgr hnx; have HOWN := Lib.hid hown; have HGR := Lib.hid hgr; clear hown hgr hnx))
            go_roundw
            case rel =>
              have hz10 := HQ10.out.size
              have hsz := HSZ.out
              have k1 : Below w8.heap.size w10 w11 := ((Below.refl _ _).alloc (by omega) _).grown HGR.out (by simp; omega) fun z e => (HO2.out.lt z e).1
              refine ⟨j + 1, by omega, by go_num, ?_, (HBB.out.trans (HQ10.out.mono HBB.out.size)).trans k1⟩
              rw [HTA.out, if_pos trivial, List.map_append, ← List.append_assoc]
              exact HOWN.out
            case measure => simp [intOf]; omega
        · obtain rfl : j = kk := by omega
          clear hO hB hlt
          go_wp2
          go_roundw
          case rel =>
            refine ⟨i + 1, by omega, by go_num, ?_, HBB.out⟩
            rw [HTK.out, List.flatMap_append]
            have h1 := HO2.out
            rw [show (nxN l p).take j = nxN l p from List.take_of_length_le (by rw [HKL.out]; omega)] at h1
            simpa [backsP] using h1
          case measure => simp [intOf]; omega
    · obtain rfl : i = kp := by omega
      clear hO hB hlt
      go_wp2
      go_ret
      have hs := HK8.out.1.size
      refine ⟨_, rfl, ?_, HK8.out.1.trans (HB.out.mono hs)⟩
      unfold backsL
      rw [HPN.out]
      have h1 := HO.out
      rw [List.take_of_length_le (by rw [HKP.out]; omega)] at h1
      exact h1.mono hs

end Go.Proofs.YtggiaopdgijgnaaGreatDoor
