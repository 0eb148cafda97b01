/- Package graph's nearest: who stands nearest ahead of each place that a walk came to. Conditions: the ways of words; no more than 60 places. -/
import Derived.Test.YtggiaopdgijgnaaGreatDoorGraS
import Derived.Test.YtggiaopdgijgnaaGreatDoorFree
import Derived.Test.YtggiaopdgijgnaaGreatDoorGraP
namespace Go.Proofs.YtggiaopdgijgnaaGreatDoor
open Go.RowKit Go.IntWalk

theorem Gra.ShI.lowU {m : Nat} {par : Nat → Nat} {low first behind near : Nat → Int} {t1 t2 i : Nat} {x : Int} {R : List Nat} {L : Nat → List Nat} (h : Gra.ShI m par low t1 t2 R first behind near L) (h1 : i ≤ t1) (h2 : i ≤ t2) : Gra.ShI m par (upn low i x) t1 t2 R first behind near L := by
  refine ⟨h.lst, fun p hp j hj => ?_, h.rem, fun j hj hm => ?_⟩
  · have := h.mem p hp j hj
    rw [upn_off _ _ (by omega)]
    exact this
  · rw [upn_off low x (show j ≠ i by omega)]
    rcases h.one j hj hm with h3 | h3
    · refine .inl ?_
      obtain ⟨h4, h5⟩ := h3
      unfold Gra.One1
      rw [upn_off low x (show j ≠ i by omega)]
      refine ⟨h4, ?_⟩
      rcases h5 with ⟨h5, h6⟩ | ⟨u, u1, u2, u3, u4, u5, u6⟩
      · refine .inl ⟨h5, fun v hv hlt => ?_⟩
        have := h4 v hv hlt
        rw [upn_off low x (show v ≠ i by omega)]
        exact h6 v hv hlt
      · have := h4 u u2 u3
        refine .inr ⟨u, u1, u2, u3, u4, by rw [upn_off low x (show u ≠ i by omega)]; exact u5, fun v hv hlt => ?_⟩
        have := h4 v hv hlt
        rw [upn_off low x (show u ≠ i by omega), upn_off low x (show v ≠ i by omega)]
        exact u6 v hv hlt
    · exact .inr h3
/-- What nearest makes at first. -/
def Nea1 (l : List Int) (T : Gra.Tr) (W : World) (s5 s6 : Value) (wx : World) : Prop := ∃ bn bk a m c a' c' N', s5 = .slice (some ⟨bn, 0, none⟩) l.length l.length ∧ s6 = .pointer (some ⟨bk, 0, none⟩) ∧ Ar .i32 21 bn l.length (numA T.ord T.ord.length) wx ∧
  BlkAt bk 60 #[.slice a m c, .slice a' (l.length + 1) c'] wx ∧ WayN wx a m c a' c' l.length N' ∧ (∀ p q, q ∈ N' p ↔ q ∈ backN l p) ∧ W.heap.size ≤ bn ∧ W.heap.size ≤ bk ∧ Below W.heap.size W wx
/-- What it makes next. -/
def Nea2 (K : Nat) (W : World) (s8 s9 s10 : Value) (wx : World) : Prop := ∃ bnr bF bl bo bb bs b1 b2, s8 = .slice (some ⟨bnr, 0, none⟩) K K ∧ s9 = .pointer (some ⟨bF, 0, none⟩) ∧ s10 = .pointer (some ⟨bs, 0, none⟩) ∧
  Ar .i32 21 bnr K (fun _ => 0) wx ∧ FoAt bF bl bo bb K (fun j => (j : Int)) (fun _ => -1) (fun j => (j : Int)) (.slice none 0 0) wx ∧ BlkAt bs 119 #[.slice (some ⟨b1, 0, none⟩) K K, .slice (some ⟨b2, 0, none⟩) K K] wx ∧ ShAt b1 b2 K (fun _ => -1) (fun _ => 0) wx ∧
  (bnr ≠ bl ∧ bnr ≠ bo ∧ bnr ≠ bb ∧ bnr ≠ b1 ∧ bnr ≠ b2 ∧ b1 ≠ bl ∧ b1 ≠ bo ∧ b1 ≠ bb ∧ b2 ≠ bl ∧ b2 ≠ bo ∧ b2 ≠ bb) ∧ (W.heap.size ≤ bnr ∧ W.heap.size ≤ bF ∧ W.heap.size ≤ bl ∧ W.heap.size ≤ bo ∧ W.heap.size ≤ bb ∧ W.heap.size ≤ bs ∧ W.heap.size ≤ b1 ∧ W.heap.size ≤ b2) ∧ Below W.heap.size W wx
/-- The blocks that nearest writes. -/
def FsetN (bF bl bo bb b1 b2 bnr q : Nat) : Prop := q = bF ∨ q = bl ∨ q = bo ∨ q = bb ∨ q = b1 ∨ q = b2 ∨ q = bnr
/-- What holds of nearest's memory, all numbers above t being told of. -/
def NeaS (N : Nat → List Nat) (T : Gra.Tr) (par : Nat → Nat) (K base bF bl bo bb b1 b2 bnr t : Nat) (W3 wr : World) : Prop := ∃ low over best pv pl first behind near L, LeaI bF bl bo bb K base t par low over best pv pl wr ∧ ShAt b1 b2 K first behind wr ∧ Ar .i32 21 bnr K near wr ∧
  Gra.LowI K (Gra.NumE N T) t low ∧ Gra.ShI K par low t t [] first behind near L ∧ (∀ j, j < K → 0 ≤ near j ∧ near j < K ∧ (j = 0 → near j = 0)) ∧ Keeps (FsetN bF bl bo bb b1 b2 bnr) W3 wr
theorem Gra.LowK.seen {m k : Nat} {E : Nat → Nat → Prop} {par : Nat → Nat} {low : Nat → Int} {s s' : Nat → Prop} (h : Gra.LowK m E par k low s) (e : ∀ y, s' y → s y) : Gra.LowK m E par k low s' := ⟨h.un, h.sd, h.me, fun y hy => h.cov y (e y hy)⟩
theorem LeaI.keep {bF bl bo bb n base t : Nat} {par : Nat → Nat} {low over best : Nat → Int} {pv : Value} {pl : List Int} {w w' : World} (h : LeaI bF bl bo bb n base t par low over best pv pl w) (k : Below w.heap.size w w') : LeaI bF bl bo bb n base t par low over best pv pl w' :=
  ⟨h.fo.keep k, h.ow.keep k, h.fi, by have := h.lt; have := k.size; omega⟩
/-- What holds while the least one of k is found. -/
def NeaP (N : Nat → List Nat) (T : Gra.Tr) (par : Nat → Nat) (K base bF bl bo bb b1 b2 bnr k : Nat) (W3 : World) (first behind near : Nat → Int) (L : Nat → List Nat) (seen : Nat → Prop) (wr : World) : Prop := ∃ low over best pv pl, LeaI bF bl bo bb K base k par low over best pv pl wr ∧ ShAt b1 b2 K first behind wr ∧ Ar .i32 21 bnr K near wr ∧
  Gra.LowK K (Gra.NumE N T) par k low seen ∧ Gra.ShI K par low k k [] first behind near L ∧ Keeps (FsetN bF bl bo bb b1 b2 bnr) W3 wr
theorem NeaP.seen {N : Nat → List Nat} {T : Gra.Tr} {par : Nat → Nat} {K base bF bl bo bb b1 b2 bnr k : Nat} {W3 : World} {first behind near : Nat → Int} {L : Nat → List Nat} {s s' : Nat → Prop} {wr : World} (h : NeaP N T par K base bF bl bo bb b1 b2 bnr k W3 first behind near L s wr) (e : ∀ y, s' y → s y) : NeaP N T par K base bF bl bo bb b1 b2 bnr k W3 first behind near L s' wr := by
  obtain ⟨low, over, best, pv, pl, h1, h2, h3, h4, h5⟩ := h
  exact ⟨low, over, best, pv, pl, h1, h2, h3, h4.seen e, h5⟩
/-- What holds while those that were held by one are told. -/
def NeaB (par : Nat → Nat) (K base bF bl bo bb b1 b2 bnr k pk : Nat) (low first behind : Nat → Int) (L : Nat → List Nat) (W3 : World) (g : Nat) (v : Value) (wr : World) : Prop := ∃ (R : List Nat) (vx : Int) (near over best : Nat → Int) (pv : Value) (pl : List Int), v = .int .i32 vx ∧ Gra.Lst behind vx R ∧ LeaI bF bl bo bb K base (k - 1) par low over best pv pl wr ∧
  ShAt b1 b2 K first behind wr ∧ Ar .i32 21 bnr K near wr ∧ Gra.ShI K par low (k - 1) (k - 1) R first behind near L ∧ (∀ j, j < K → 0 ≤ near j ∧ near j < K ∧ (j = 0 → near j = 0)) ∧ (∀ j ∈ R, low j = (pk : Nat)) ∧ (∀ j ∈ R, Gra.Anc par pk j) ∧ Keeps (FsetN bF bl bo bb b1 b2 bnr) W3 wr ∧ R.length ≤ g
/-- How memory may go on within a region that asks for the least one. -/
def NeaRl (bF bl bo bb K : Nat) (pv : Value) (w w' : World) : Prop := Keeps (fun z => z = bF ∨ z = bo ∨ z = bb ∨ pv.ownBlock = some z) w w' ∧ (w.cell? ⟨bF, 0, none⟩ = some (.slice (some ⟨bl, 0, none⟩) K K) → w'.cell? ⟨bF, 0, none⟩ = some (.slice (some ⟨bl, 0, none⟩) K K))
theorem neaOk (bF bl bo bb K : Nat) (pv : Value) : RelOk (NeaRl bF bl bo bb K pv) := ⟨fun _ => ⟨Keeps.refl _ _, id⟩, fun h k => ⟨h.1.trans k.1, fun e => k.2 (h.2 e)⟩, fun h => h.1.size⟩
/-- What nearest answers: Lengauer's and Tarjan's. -/
def NeaV (l : List Int) (T : Gra.Tr) (par : Nat → Nat) (near : Nat → Int) : Prop := ∃ low, Gra.NearK T.ord.length par low T.ord.length near ∧ Gra.LowI T.ord.length (Gra.NumE (nxN l) T) 0 low ∧ (0 < T.ord.length → near 0 = 0)
set_option maxRecDepth 100000 in
set_option maxHeartbeats 8000000 in
theorem graNearest_is {l : List Int} {w0 w : World} {a : Option Addr} {m c : Nat} {a' : Option Addr} {c' base : Nat} {v : Value} {T : Gra.Tr} {par : Nat → Nat} (hwa : WaysAt w0 a m c a' (l.length + 1) c' (wayL l l.length)) (hwn : WayN w0 a m c a' c' l.length (nxN l)) (hT : TripV w0 base l.length v T)
    (hP : PureT (fun _ => true) (nxN l) (beginN l.length) T) (hD : 0 < T.ord.length → Gra.DfsI (nxN l) T par) (hold : Below w0.heap.size w0 w) (hn : l.length ≤ 60) :
    Calls Tryz.prog 52 #[.agg #[.slice a m c, .slice a' (l.length + 1) c'], v] w fun e w' => ∃ b near, e = .returned (.slice (some ⟨b, 0, none⟩) T.ord.length T.ord.length) ∧ Ar .i32 21 b T.ord.length near w' ∧ NeaV l T par near ∧ w.heap.size ≤ b ∧ Below w.heap.size w w' := by
  obtain ⟨i0, hi, hz0, hz1, hz2⟩ := info_parts infoI32
  have h1 := Gra.GoP.came (mv := fun _ => true) (N := nxN l) (l0 := beginN l.length) hP.2 hP.1
  have hxl : ∀ x ∈ T.ord, x < l.length := fun x hx => came_lt ((h1.1 x).1 ((h1.2.2 x).1 hx))
  have hKl : T.ord.length ≤ l.length := Gra.nodup_lt h1.2.1 hxl
  obtain ⟨bc, bf, bo0, ov, rfl, hset, hord, hfr, -, -, -, -⟩ := hT
  obtain ⟨ao, co, rfl, hows⟩ := hord.wsn (m := T.ord.length) (by simp)
  have HAO := Lib.hid (fun b off (q : ao = some ⟨b, off, none⟩) => (hord.lt b (by subst q; simp [Value.ownBlock])).2)
  obtain ⟨K, hK⟩ : ∃ K, T.ord.length = K := ⟨_, rfl⟩
  have hmk := run_zeros (P := Tryz.prog) 23 21 i0 Tryz.underlying23 hi hz0 hz1 K (by rw [hz2]; omega) (by unfold maxLen; omega) K rfl
  have HWA := Lib.hid hwa
  have HWN := Lib.hid hwn
  have HFR := Lib.hid hfr
  have HORD := Lib.hid hows
  have HND := Lib.hid (And.intro h1.2.1 (And.intro hxl hKl))
  have HD := Lib.hid hD
  have HOLD := Lib.hid hold
  have HN := Lib.hid hn
  have HK := Lib.hid hK
  have HP := Lib.hid hP
  rw [hK]
  clear hwa hwn hset hord hfr hows h1 hxl hKl hD hold hn hK hP hi hz0 hz1 hz2
  go_enter Tryz.func52, Tryz.ntmps52
  go_upto_region 1 with (fail)
  obtain ⟨W0, hW0⟩ : ∃ W0, (w.alloc (.cells #[.slice a m c, .slice a' (l.length + 1) c'] 60)).alloc (.cells #[.slice (some ⟨bc, 0, none⟩) (szS l.length) (szS l.length), .slice ao K co, .slice (some ⟨bf, 0, none⟩) l.length l.length] 58) = W0 := ⟨_, rfl⟩
  have HX := Lib.hid (show BlkAt w.heap.size 60 #[.slice a m c, .slice a' (l.length + 1) c'] W0 from hW0 ▸ (BlkAt.new w _ _).al _)
  have HTB := Lib.hid (show BlkAt (w.heap.size + 1) 58 #[.slice (some ⟨bc, 0, none⟩) (szS l.length) (szS l.length), .slice ao K co, .slice (some ⟨bf, 0, none⟩) l.length l.length] W0 from hW0 ▸ BlkAt.newb _ _ _ (by simp))
  have HB0 := Lib.hid (show Below w.heap.size w W0 from hW0 ▸ ((Below.refl _ _).alloc (Nat.le_refl _) _).alloc (by simp) _)
  have HW0s := Lib.hid (show W0.heap.size = w.heap.size + 2 from hW0 ▸ by simp)
  rw [hW0]
  clear hW0
  go_cut [5, 6] (fun s5 s6 wx => Nea1 l T W0 s5 s6 wx)
  case first =>
    refine wp_region_free (fun _ => True) [(0, 0, 20, 4), (1, 0, 21, 8), (2, 3, 22, 1572864), (3, 0, 23, 4), (4, 12, 24, 4194304), (5, 0, 7, 0), (6, 55, 6, 2097152), (7, 127, 0, 8388672)] 7 [(0, 19), (1, 20), (2, 21), (3, 22), (4, 23), (5, 6), (6, 5)] [(0, []), (1, []), (2, [(0, 19), (1, 20)]), (3, []), (4, [(3, 22)]), (5, []), (6, [(2, 21)])] [(false, 7, 255)] []
      (fun i v w' => match i with
        | 0 | 3 => v = .agg #[.slice a m c, .slice a' (l.length + 1) c']
        | 1 => v = .agg #[.slice (some ⟨bc, 0, none⟩) (szS l.length) (szS l.length), .slice ao K co, .slice (some ⟨bf, 0, none⟩) l.length l.length]
        | 2 | 6 => ∃ bn, v = .slice (some ⟨bn, 0, none⟩) l.length l.length ∧ Ar .i32 21 bn l.length (numA T.ord T.ord.length) w' ∧ W0.heap.size ≤ bn
        | 4 => ∃ a m c a' c' N', v = .agg #[.slice a m c, .slice a' (l.length + 1) c'] ∧ WayN w' a m c a' c' l.length N' ∧ (∀ p q, q ∈ N' p ↔ q ∈ backN l p) ∧ I32At a w' ∧ I32At a' w'
        | 5 => ∃ bb, v = .pointer (some ⟨bb, 0, none⟩) ∧ BlkAt bb 60 #[.slice none 0 0, .slice none 0 0] w' ∧ W0.heap.size ≤ bb
        | _ => True) (by kernel_rfl) (by kernel_rfl) (by kernel_rfl) (by kernel_rfl) (by kernel_rfl) (fun _ _ => trivial) ?_ ?_ ?_
    · intro i v w1 w2 h hb
      match i, h with
      | 0, h | 1, h | 3, h => exact h
      | 2, ⟨b, e, h, h'⟩ | 6, ⟨b, e, h, h'⟩ => exact ⟨b, e, h.keep hb, h'⟩
      | 4, ⟨a, m, c, a', c', N', e, h1, h2, h3, h4⟩ => exact ⟨a, m, c, a', c', N', e, h1.keep hb, h2, h3.keep hb, h4.keep hb⟩
      | 5, ⟨b, e, h, h'⟩ => exact ⟨b, e, h.keep hb, h'⟩
      | _ + 7, _ => trivial
    · refine ⟨?_, ?_, ?_, ?_, ?_, ?_, ?_, trivial⟩
      · intro o ho vals w1 hb hd hne
        cases ho
        have g0 := (BlkAt.keep (w := W0.drew) HX.out hb).cell 0
        have g1 := (BlkAt.keep (w := W0.drew) HX.out hb).cell 1
        exact .val (v := .agg #[.slice a m c, .slice a' (l.length + 1) c']) (w' := w1) (by simp [frA, execOp, Act.eval, go_sem, g0, g1]) ⟨rfl, Below.refl _ _, fun q => by simp at q⟩
      · intro o ho vals w1 hb hd hne
        cases ho
        have g0 := (BlkAt.keep (w := W0.drew) HTB.out hb).cell 0
        have g1 := (BlkAt.keep (w := W0.drew) HTB.out hb).cell 1
        have g2 := (BlkAt.keep (w := W0.drew) HTB.out hb).cell 2
        exact .val (v := .agg #[.slice (some ⟨bc, 0, none⟩) (szS l.length) (szS l.length), .slice ao K co, .slice (some ⟨bf, 0, none⟩) l.length l.length]) (w' := w1) (by simp [frA, execOp, Act.eval, go_sem, g0, g1, g2]) ⟨rfl, Below.refl _ _, fun q => by simp at q⟩
      · intro o ho vals w1 hb hd hne
        cases ho
        have e0 : vals 0 = _ := hd (0, 19) (.head _)
        have e1 : vals 1 = _ := hd (1, 20) (.tail _ (.head _))
        have hnb := HND.out
        have ho := HORD.out
        rw [HK.out] at ho
        refine .call (f := 59) (vs := #[.agg #[.slice a m c, .slice a' (l.length + 1) c'], .agg #[.slice (some ⟨bc, 0, none⟩) (szS l.length) (szS l.length), .slice ao K co, .slice (some ⟨bf, 0, none⟩) l.length l.length]]) (by simp [frA, execOp, Act.put, Act.eval, go_sem, e0, e1]) ((graNumbers_is (w := w1) (O := T.ord) ho HN.out hnb.2.1 (by have := HN.out; omega) (HOLD.out.trans ((HB0.out.trans (((Below.refl W0.heap.size W0).drew.trans hb).mono HB0.out.size)).mono HOLD.out.size)) rfl rfl rfl).mono ?_)
        rintro e w' ⟨b, rfl, h1, h2, hq⟩
        exact ⟨_, rfl, ⟨b, rfl, h1, Nat.le_trans hb.size h2⟩, hq, fun q => by simp at q⟩
      · intro o ho vals w1 hb hd hne
        cases ho
        have g0 := (BlkAt.keep (w := W0.drew) HX.out hb).cell 0
        have g1 := (BlkAt.keep (w := W0.drew) HX.out hb).cell 1
        exact .val (v := .agg #[.slice a m c, .slice a' (l.length + 1) c']) (w' := w1) (by simp [frA, execOp, Act.eval, go_sem, g0, g1]) ⟨rfl, Below.refl _ _, fun q => by simp at q⟩
      · intro o ho vals w1 hb hd hne
        cases ho
        have e0 : vals 3 = _ := hd (3, 22) (.head _)
        have hwa := HWA.out.keep (HOLD.out.trans ((HB0.out.trans (((Below.refl W0.heap.size W0).drew.trans hb).mono HB0.out.size)).mono HOLD.out.size))
        have hm := hwa.tos.len
        have hfl := wayL_flat l l.length
        have hn9 := HN.out
        refine .call (f := 35) (vs := #[.agg #[.slice a m c, .slice a' (l.length + 1) c']]) (by simp [frA, execOp, Act.put, Act.eval, go_sem, e0]) ((graTurned_is (w := w1) hwa HN.out (by omega) (fun z hz => by
          obtain ⟨r, hr, hz⟩ := List.mem_flatten.1 hz
          obtain ⟨p, -, rfl⟩ := List.mem_map.1 hr
          exact nxl_in hz)).mono ?_)
        rintro e w' ⟨v, rfl, ⟨a, m, c, a', n1, c', L', rfl, g1, g2, g3, g4, g5, g6⟩, hq⟩
        obtain ⟨rfl, N', g7, g8⟩ := turned_ways g1 g2 g3 g4 g5
        exact ⟨_, rfl, ⟨a, m, c, a', c', N', rfl, g7, g8, g5, g6⟩, hq, fun q => by simp at q⟩
      · intro o ho vals w1 hb hd hne
        cases ho
        exact .val (v := .pointer (some ⟨w1.heap.size, 0, none⟩)) (by simp [execOp, go_sem]) ⟨⟨_, rfl, BlkAt.new _ _ _, hb.size⟩, (Below.refl _ _).alloc (Nat.le_refl _) _, fun q => by simp at q⟩
      · intro o ho vals w1 hb hd hne
        cases ho
        obtain ⟨bn, e2, h1, h2⟩ := hd (2, 21) (.head _)
        simp only at e2
        exact .val (v := .slice (some ⟨bn, 0, none⟩) l.length l.length) (w' := w1) (by simp [frA, execOp, Act.put, Act.eval, go_sem, e2]) ⟨⟨bn, rfl, h1, h2⟩, Below.refl _ _, fun q => by simp at q⟩
    · intro vals ax w1 hI
      have e := hI.frame (by kernel_rfl) (by kernel_rfl)
      subst e
      have e0 : vals 0 = _ := hI.psi 0 (by omega) (by decide)
      have e1 : vals 1 = _ := hI.psi 1 (by omega) (by decide)
      have e3 : vals 3 = _ := hI.psi 3 (by omega) (by decide)
      obtain ⟨a3, m3, c3, a4, c4, N', e4, h41, h42, h43, h44⟩ := hI.psi 4 (by omega) (by decide)
      obtain ⟨bk, e5, h51, h52⟩ := hI.psi 5 (by omega) (by decide)
      obtain ⟨bn, e6, h61, h62⟩ := hI.psi 6 (by omega) (by decide)
      have HI := Lib.hid hI
      generalize vals 2 = v2 at *
      have f0 := h51.free 0
      have f1 := h51.free 1
      have y0 := h51.cell 0
      have y1 := h51.cell 1
      have HH := Lib.hid (And.intro h41 (And.intro h42 (And.intro h43 (And.intro h44 (And.intro h51 (And.intro h52 (And.intro h61 h62)))))))
      clear h41 h42 h43 h44 h51 h52 h61 h62 hI
      refine SeqH.step rfl rfl fun K hK => ?_
      simp only [frA, List.foldl, e0, e1, e3, e4, e5, e6]
      go_simp
      refine hK _ _ trivial (SeqH.done (NoPanic.normal ?_))
      go_wp2_with fail
      go_meet
      obtain ⟨h41, h42, h43, h44, h51, h52, h61, h62⟩ := HH.out
      have kx : Keeps (fun j => j = bk) w1 ((w1.setCell ⟨bk, 0, none⟩ (.slice a3 m3 c3)).setCell ⟨bk, 1, none⟩ (.slice a4 (l.length + 1) c4)) := (Keeps.set1 _ _ _ _).trans (Keeps.set1 _ _ _ _)
      have hb0 : Below W0.heap.size W0 w1 := (Below.refl _ _).drew.trans HI.out.below
      exact ⟨bn, bk, a3, m3, c3, a4, c4, N', rfl, rfl, h61.kept kx (h61.ne_blk h51 (by decide)), ((h51.set 0 _).set 1 _).eq rfl, h41.kept kx (h43.ne h51 (by decide)) (h44.ne h51 (by decide)), h42, h62, h52, kx.below hb0 hb0.size fun j e => by subst e; exact h52⟩
  case rest =>
    obtain ⟨bn, bk, a3, m3, c3, a4, c4, N', rfl, rfl, hnum, hbk, hwn', hNm, l1, l2, hB⟩ := hcut
    obtain ⟨W1, hW1⟩ : ∃ W1, W1 = wc := ⟨_, rfl⟩
    subst hW1
    have htb := HTB.out.keep hB
    have HBc := Lib.hid (HB0.out.trans (hB.mono HB0.out.size))
    have t1 := htb.cell 1
    have HT2 := Lib.hid htb
    have HNU := Lib.hid hnum
    have HBK := Lib.hid hbk
    have HWN' := Lib.hid hwn'
    have HNM := Lib.hid hNm
    have HSZ := Lib.hid (show w.heap.size + 2 ≤ bn ∧ w.heap.size + 2 ≤ bk from by have := HW0s.out; omega)
    have hn' : (l.length : Int) ≤ 60 := by have := HN.out; omega
    have hKn : K ≤ 60 := by have := HND.out.2.2; have := HN.out; have := HK.out; omega
    have hK' : (K : Int) ≤ 60 := by omega
    clear htb hnum hbk hwn' hNm l1 l2 hB HX HTB HB0 HW0s
    go_upto_region 3 with (fail)
    clear t1
    go_cut [8, 9, 10] (fun s8 s9 s10 wx => Nea2 K W1 s8 s9 s10 wx)
    case first =>
      refine wp_region_freeS (cps := [(7, 1), (8, 3)]) (fun _ => True) [(0, 0, 28, 128), (1, 1, 29, 134217728), (2, 0, 30, 128), (3, 4, 31, 536870912), (4, 0, 32, 128), (5, 24, 33, 2147483648), (6, 0, 11, 0), (7, 99, 9, 268435456), (8, 207, 10, 1073741824), (9, 511, 0, 4294968320)] 9 [(0, 27), (1, 28), (2, 29), (3, 30), (4, 31), (5, 32), (6, 10), (7, 8), (8, 9)] [(0, []), (1, [(0, 27)]), (2, []), (3, [(2, 29)]), (4, []), (5, [(4, 31)]), (6, []), (7, [(1, 28)]), (8, [(3, 30)])] [(false, 9, 1023)] [1, 3, 5]
        (fun i v g w' => match i with
          | 0 | 2 | 4 => v = .int .i64 K
          | 1 => ∃ b, v = .slice (some ⟨b, 0, none⟩) K K ∧ Ar .i32 21 b K (fun _ => 0) w' ∧ W1.heap.size ≤ b ∧ g.1 ≤ b ∧ b < g.2
          | 3 => ∃ bF bl bo bb, v = .pointer (some ⟨bF, 0, none⟩) ∧ FoAt bF bl bo bb K (fun j => (j : Int)) (fun _ => -1) (fun j => (j : Int)) (.slice none 0 0) w' ∧ W1.heap.size ≤ bF ∧ (W1.heap.size ≤ bl ∧ g.1 ≤ bl ∧ bl < g.2) ∧ (W1.heap.size ≤ bo ∧ g.1 ≤ bo ∧ bo < g.2) ∧ (W1.heap.size ≤ bb ∧ g.1 ≤ bb ∧ bb < g.2)
          | 5 => ∃ b1 b2, v = .agg #[.slice (some ⟨b1, 0, none⟩) K K, .slice (some ⟨b2, 0, none⟩) K K] ∧ ShAt b1 b2 K (fun _ => -1) (fun _ => 0) w' ∧ (W1.heap.size ≤ b1 ∧ g.1 ≤ b1 ∧ b1 < g.2) ∧ (W1.heap.size ≤ b2 ∧ g.1 ≤ b2 ∧ b2 < g.2)
          | 6 => ∃ b, v = .pointer (some ⟨b, 0, none⟩) ∧ BlkAt b 119 #[.slice none 0 0, .slice none 0 0] w' ∧ W1.heap.size ≤ b
          | 7 => ∃ b, v = .slice (some ⟨b, 0, none⟩) K K
          | 8 => ∃ bF, v = .pointer (some ⟨bF, 0, none⟩)
          | _ => True) (by kernel_rfl) (by kernel_rfl) (by kernel_rfl) (by kernel_rfl) (by kernel_rfl) (by kernel_rfl) (fun _ _ => trivial) ?_ ?_ ?_
      · intro i v g w1 w2 h hb
        match i, h with
        | 0, h | 2, h | 4, h | 7, h | 8, h => exact h
        | 1, ⟨b, e, h, h'⟩ => exact ⟨b, e, h.keep hb, h'⟩
        | 3, ⟨bF, bl, bo, bb, e, h, h'⟩ => exact ⟨bF, bl, bo, bb, e, h.keep hb, h'⟩
        | 5, ⟨b1, b2, e, h, h'⟩ => exact ⟨b1, b2, e, h.keep hb, h'⟩
        | 6, ⟨b, e, h, h'⟩ => exact ⟨b, e, h.keep hb, h'⟩
        | _ + 9, _ => trivial
      · refine ⟨?_, ?_, ?_, ?_, ?_, ?_, ?_, ?_, ?_, trivial⟩
        · intro o ho vals sp w1 hb hd hne
          cases ho
          exact .val (v := .int .i64 K) (w' := w1) (by simp [frA, execOp, Act.put, Act.eval, go_sem]) ⟨(0, 0), rfl, Below.refl _ _, fun q => by simp at q, fun p hp q => by simp at hp; rcases hp with rfl | rfl <;> simp at q⟩
        · intro o ho vals sp w1 hb hd hne
          cases ho
          have e0 : vals 0 = _ := hd (0, 27) (.head _)
          exact .val (v := .slice (some ⟨w1.heap.size, 0, none⟩) K K) (by simp [frA, execOp, Act.put, Act.eval, go_sem, e0, hmk]) ⟨(w1.heap.size, w1.heap.size + 1), ⟨_, rfl, Ar.zeros w1 rfl, hb.size, Nat.le_refl _, Nat.lt_succ_self _⟩, (Below.refl _ _).alloc (Nat.le_refl _) _, fun _ => ⟨Nat.le_refl _, by simp⟩, fun p hp q => by simp at hp; rcases hp with rfl | rfl <;> simp at q⟩
        · intro o ho vals sp w1 hb hd hne
          cases ho
          exact .val (v := .int .i64 K) (w' := w1) (by simp [frA, execOp, Act.put, Act.eval, go_sem]) ⟨(0, 0), rfl, Below.refl _ _, fun q => by simp at q, fun p hp q => by simp at hp; rcases hp with rfl | rfl <;> simp at q⟩
        · intro o ho vals sp w1 hb hd hne
          cases ho
          have e0 : vals 2 = _ := hd (2, 29) (.head _)
          refine .call (f := 60) (vs := #[.int .i64 K]) (by simp [frA, execOp, Act.put, Act.eval, go_sem, e0]) ((graNewForest_is K w1 hKn).mono ?_)
          rintro e w' ⟨bF, bl, bo, bb, rfl, h1, h2, h3, h4, h5, hq⟩
          have hs := hb.size
          simp only [World.drew] at hs
          have hl := h1.lt
          exact ⟨_, rfl, (w1.heap.size, w'.heap.size), ⟨bF, bl, bo, bb, rfl, h1, by omega, ⟨by omega, h3, hl.2.1⟩, ⟨by omega, h4, hl.2.2.1⟩, ⟨by omega, h5, hl.2.2.2⟩⟩, hq, fun _ => ⟨Nat.le_refl _, Nat.le_refl _⟩, fun p hp q => by simp at hp; rcases hp with rfl | rfl <;> simp at q⟩
        · intro o ho vals sp w1 hb hd hne
          cases ho
          exact .val (v := .int .i64 K) (w' := w1) (by simp [frA, execOp, Act.put, Act.eval, go_sem]) ⟨(0, 0), rfl, Below.refl _ _, fun q => by simp at q, fun p hp q => by simp at hp; rcases hp with rfl | rfl <;> simp at q⟩
        · intro o ho vals sp w1 hb hd hne
          cases ho
          have e0 : vals 4 = _ := hd (4, 31) (.head _)
          refine .call (f := 61) (vs := #[.int .i64 K]) (by simp [frA, execOp, Act.put, Act.eval, go_sem, e0]) ((graNewShelf_is K w1 hKn).mono ?_)
          rintro e w' ⟨b1, b2, rfl, h1, h2, h3, hq⟩
          have hs := hb.size
          simp only [World.drew] at hs
          exact ⟨_, rfl, (w1.heap.size, w'.heap.size), ⟨b1, b2, rfl, h1, ⟨by omega, h2, h1.fi.lt⟩, ⟨by omega, h3, h1.be.lt⟩⟩, hq, fun _ => ⟨Nat.le_refl _, Nat.le_refl _⟩, fun p hp q => by simp at hp; rcases hp with rfl | rfl <;> simp at q⟩
        · intro o ho vals sp w1 hb hd hne
          cases ho
          exact .val (v := .pointer (some ⟨w1.heap.size, 0, none⟩)) (by simp [execOp, go_sem]) ⟨(0, 0), ⟨_, rfl, BlkAt.new _ _ _, hb.size⟩, (Below.refl _ _).alloc (Nat.le_refl _) _, fun q => by simp at q, fun p hp q => by simp at hp; rcases hp with rfl | rfl <;> simp at q⟩
        · intro o ho vals sp w1 hb hd hne
          cases ho
          obtain ⟨b, e1, -⟩ := hd (1, 28) (.head _)
          simp only at e1
          exact .val (v := .slice (some ⟨b, 0, none⟩) K K) (w' := w1) (by simp [frA, execOp, Act.put, Act.eval, go_sem, e1]) ⟨(0, 0), ⟨b, rfl⟩, Below.refl _ _, fun q => by simp at q, fun p hp q => by
            simp at hp
            rcases hp with rfl | rfl
            · exact e1.symm
            · simp at q⟩
        · intro o ho vals sp w1 hb hd hne
          cases ho
          obtain ⟨bF, bl, bo, bb, e3, -⟩ := hd (3, 30) (.head _)
          simp only at e3
          exact .val (v := .pointer (some ⟨bF, 0, none⟩)) (w' := w1) (by simp [frA, execOp, Act.put, Act.eval, go_sem, e3]) ⟨(0, 0), ⟨bF, rfl⟩, Below.refl _ _, fun q => by simp at q, fun p hp q => by
            simp at hp
            rcases hp with rfl | rfl
            · simp at q
            · exact e3.symm⟩
      · intro vals sp ax w1 hI
        have e := hI.frame (by kernel_rfl) (by kernel_rfl)
        subst e
        have e0 : vals 0 = _ := hI.psi 0 (by omega) (by decide)
        have e2 : vals 2 = _ := hI.psi 2 (by omega) (by decide)
        have e4 : vals 4 = _ := hI.psi 4 (by omega) (by decide)
        obtain ⟨bnr, e1, h11, h12⟩ := hI.psi 1 (by omega) (by decide)
        obtain ⟨bF, bl, bo, bb, e3, h31, h32⟩ := hI.psi 3 (by omega) (by decide)
        obtain ⟨b1, b2, e5, h51, h52⟩ := hI.psi 5 (by omega) (by decide)
        obtain ⟨bs, e6, h61, h62⟩ := hI.psi 6 (by omega) (by decide)
        have e7 : vals 7 = vals 1 := (hI.eqs (7, 1) (.head _) (by decide)).2
        have e8 : vals 8 = vals 3 := (hI.eqs (8, 3) (.tail _ (.head _)) (by decide)).2
        rw [e1] at e7
        rw [e3] at e8
        have n13 := hI.ne 1 3 (by omega) (by omega) (by decide) (by decide) (by decide) (by decide) (by omega)
        have n15 := hI.ne 1 5 (by omega) (by omega) (by decide) (by decide) (by decide) (by decide) (by omega)
        have n35 := hI.ne 3 5 (by omega) (by omega) (by decide) (by decide) (by decide) (by decide) (by omega)
        have HI := Lib.hid hI
        have f0 := h61.free 0
        have f1 := h61.free 1
        have y0 := h61.cell 0
        have y1 := h61.cell 1
        have HH := Lib.hid (And.intro h11 (And.intro h12 (And.intro h31 (And.intro h32 (And.intro h51 (And.intro h52 (And.intro h61 (And.intro h62 (And.intro n13 (And.intro n15 n35))))))))))
        clear h11 h12 h31 h32 h51 h52 h61 h62 n13 n15 n35 hI
        refine SeqH.step rfl rfl fun KK hKK => ?_
        simp only [frA, List.foldl, e0, e1, e2, e3, e4, e5, e6, e7, e8]
        go_simp
        refine hKK _ _ trivial (SeqH.done (NoPanic.normal ?_))
        go_wp2_with fail
        go_meet
        obtain ⟨h11, h12, h31, h32, h51, h52, h61, h62, n13, n15, n35⟩ := HH.out
        have kx : Keeps (fun j => j = bs) w1 ((w1.setCell ⟨bs, 0, none⟩ (.slice (some ⟨b1, 0, none⟩) K K)).setCell ⟨bs, 1, none⟩ (.slice (some ⟨b2, 0, none⟩) K K)) := (Keeps.set1 _ _ _ _).trans (Keeps.set1 _ _ _ _)
        have hb0 : Below W1.heap.size W1 w1 := (Below.refl _ _).drew.trans HI.out.below
        have hFs : bF ≠ bs := fun e => by
          have hx : BlkAt bF 119 #[.slice none 0 0, .slice none 0 0] w1 := e ▸ h61
          exact absurd (BlkAt.type_eq hx h31.box) (by decide)
        refine ⟨bnr, bF, bl, bo, bb, bs, b1, b2, rfl, rfl, rfl, h11.kept kx (h11.ne_blk h61 (by decide)), h31.kept kx hFs (h31.lo.ne_blk h61 (by decide)) (h31.ov.ne_blk h61 (by decide)) (h31.be.ne_blk h61 (by decide)), ((h61.set 0 _).set 1 _).eq rfl, h51.kept kx (h51.fi.ne_blk h61 (by decide)) (h51.be.ne_blk h61 (by decide)), ?_, ?_, kx.below hb0 hb0.size fun j e => by subst e; exact h62⟩
        · obtain ⟨a1, a2, a3⟩ := h12
          obtain ⟨c0, ⟨c1, c2, c3⟩, ⟨c4, c5, c6⟩, c7, c8, c9⟩ := h32
          obtain ⟨⟨d1, d2, d3⟩, d4, d5, d6⟩ := h52
          refine ⟨?_, ?_, ?_, ?_, ?_, ?_, ?_, ?_, ?_, ?_, ?_⟩ <;> omega
        · exact ⟨h12.1, h32.1, h32.2.1.1, h32.2.2.1.1, h32.2.2.2.1, h62, h52.1.1, h52.2.1⟩
    case rest =>
      obtain ⟨bnr, bF, bl, bo, bb, bs, b1, b2, rfl, rfl, rfl, hnr, hfo, hbs, hsh, hne, hle, hB⟩ := hcut
      obtain ⟨W3, hW3⟩ : ∃ W3, W3 = wc := ⟨_, rfl⟩
      subst hW3
      have HB13 := Lib.hid hB
      have HLE := Lib.hid hle
      have HNE := Lib.hid hne
      have HBS := Lib.hid hbs
      have HBSN := Lib.hid (show ¬ FsetN bF bl bo bb b1 b2 bnr bs from fun e => by
        rcases e with e | e | e | e | e | e | e
        · have hx : BlkAt bF 119 #[.slice (some ⟨b1, 0, none⟩) K K, .slice (some ⟨b2, 0, none⟩) K K] W3 := e ▸ hbs
          exact absurd (BlkAt.type_eq hx hfo.box) (by decide)
        · exact hfo.lo.ne_blk hbs (by decide) e.symm
        · exact hfo.ov.ne_blk hbs (by decide) e.symm
        · exact hfo.be.ne_blk hbs (by decide) e.symm
        · exact hsh.fi.ne_blk hbs (by decide) e.symm
        · exact hsh.be.ne_blk hbs (by decide) e.symm
        · exact hnr.ne_blk hbs (by decide) e.symm)
      have HKW := Lib.hid (show ∀ wr, Keeps (FsetN bF bl bo bb b1 b2 bnr) W3 wr → Below W1.heap.size W1 wr from fun wr hk => hk.below hB hB.size fun q e => by rcases e with e | e | e | e | e | e | e <;> omega)
      have HFLT := Lib.hid (And.intro hfo.lt (And.intro hsh.fi.lt (And.intro hsh.be.lt hnr.lt)))
      have HOFF := Lib.hid (show (b1 ≠ bF ∧ b2 ≠ bF ∧ bnr ≠ bF) ∧ (bl ≠ bF ∧ bo ≠ bF ∧ bb ≠ bF) from ⟨⟨hsh.fi.ne_blk hfo.box (by decide), hsh.be.ne_blk hfo.box (by decide), hnr.ne_blk hfo.box (by decide)⟩, hfo.off⟩)
      have HST := Lib.hid (show NeaS (nxN l) T par K W3.heap.size bF bl bo bb b1 b2 bnr (K - 1) W3 W3 from
        ⟨_, _, _, _, [], _, _, _, fun _ => [], ⟨hfo, OwnW.nil _ _ _, ⟨fun j _ => ⟨j, rfl, Nat.le_refl _⟩, fun j _ _ => ⟨rfl, rfl⟩, fun j h1 h2 => by omega⟩, hfo.lt.1, hfo.lt.2.1, hfo.lt.2.2.1, hfo.lt.2.2.2, Nat.le_refl _⟩, hsh, hnr, ⟨fun j _ _ => rfl, fun j h1 h2 => by omega⟩,
          ⟨fun p _ => rfl, fun p _ j hj => (nomatch hj), fun j hj => (nomatch hj), fun j h1 h2 => by omega⟩, fun j hj => ⟨by simp, by simp; omega, fun _ => rfl⟩, Keeps.refl _ _⟩)
      clear hnr hfo hbs hsh hne hle hB hmk
      go_wp2
      have hwK : IntKind.i32.wrap ((K : Int) - 1) = (K : Int) - 1 := IntWalk.i32_in _ (by omega)
      go_loopw [11] (fun v wr => ∃ j : Nat, j ≤ K ∧ v = .int .i32 ((j : Int) - 1) ∧ NeaS (nxN l) T par K W3.heap.size bF bl bo bb b1 b2 bnr (j - 1) W3 wr) (fun v _ => (intOf v + 1).toNat)
      case atStart => exact ⟨K, Nat.le_refl _, rfl, HST.out⟩
      case round =>
        obtain ⟨j, hj, rfl, hS⟩ := hrel
        have HS := Lib.hid hS
        clear hS
        by_cases hlt : 2 ≤ j
        · obtain ⟨k, rfl⟩ : ∃ k, j = k + 1 := ⟨j - 1, by omega⟩
          have ek : (((k + 1 : Nat) : Int) - 1) = (k : Int) := by omega
          rw [ek]
          have hS := HS.out
          rw [show k + 1 - 1 = k by omega] at hS
          obtain ⟨low, over, best, pv, pl, first, behind, near, L, hI, hsh, hnr, hLo, hSh, hnb, hKp⟩ := hS
          have hk0 : 0 < k := by omega
          have hkK : k < K := by omega
          have hk0' : (0 : Int) < k := by omega
          have hkK' : (k : Int) < K := by omega
          have kW1 := HKW.out wr hKp
          have KW1 := Lib.hid kW1
          have hw0r := HOLD.out.trans ((HBc.out.trans (kW1.mono HBc.out.size)).mono HOLD.out.size)
          have HW0R := Lib.hid hw0r
          have tb := HT2.out.keep kW1
          have t1 := tb.cell 1
          have t2 := tb.cell 2
          have hon := HORD.out
          rw [HK.out] at hon
          obtain ⟨g', off, rfl, hc⟩ := (hon.keep hw0r).lie (by omega)
          have c0 := hc k hkK
          have hkO : k < T.ord.length := by rw [HK.out]; exact hkK
          obtain ⟨P, hP⟩ : ∃ P, T.ord[k] = P := ⟨_, rfl⟩
          have hbq : byAt (T.ord.map Int.ofNat) k = (P : Int) := by
            rw [← byAt_eq (by rw [List.length_map]; exact hkO), List.getElem_map, hP]; rfl
          rw [hbq] at c0
          have hPn : P < l.length := HND.out.2.1 P (by rw [← hP]; exact List.getElem_mem _)
          have hwP : IntKind.i64.wrap (P : Int) = (P : Int) := IntWalk.i64_in _ (by have := HN.out; omega)
          have kb := HBK.out.keep kW1
          have kb0 := kb.cell 0
          have kb1 := kb.cell 1
          obtain ⟨LL, hL1, hL2, hL3⟩ := HWN'.out.ex
          have hO := graOf_is (w := wr) hL1 kW1 (by rw [hL2]; have := HN.out; omega) (p := P) (by omega)
          rw [hL3 P hPn] at hO
          have HO := Lib.hid hO
          have HS1 := Lib.hid (And.intro hI (And.intro hsh (And.intro hnr (And.intro hLo (And.intro hSh (And.intro hnb hKp))))))
          have HPP := Lib.hid hP
          have HPN := Lib.hid hPn
          clear hI hsh hnr hLo hSh hnb hKp kW1 hw0r tb hon hc hP hbq hPn kb hL1 hL2 hL3 hO hlt ek HST
          go_wp2_with (go_at_call 27; ((with_reducible refine HO.out.mono ?_); rintro e w6 ⟨b, kk, d, rfl, hw6, -, hq⟩); have HW6 := Lib.hid hw6; have HQ6 := Lib.hid hq; clear hw6 hq)
          have hkl := HW6.out.len
          rw [List.length_map] at hkl
          have hkk : kk ≤ 200 := by have := HWN'.out.few P; omega
          have hkk' : (kk : Int) ≤ 200 := by omega
          have HKL := Lib.hid hkl
          have DD : Gra.Deep K (Gra.NumE (nxN l) T) par := by
            have h1 := (HD.out (by rw [HK.out]; omega)).deep
            rw [HK.out] at h1
            exact h1
          have HDP := Lib.hid DD
          have HEL := Lib.hid (show ∀ i, i < K → T.ord.getD i 0 < l.length from fun i hi => HND.out.2.1 _ (by rw [← HK.out] at hi; simp only [List.getD, List.getElem?_eq_getElem hi, Option.getD_some]; exact List.getElem_mem _))
          have HPE := Lib.hid (show el T.ord k = P from by rw [← el_eq hkO]; exact HPP.out)
          obtain ⟨hI, hsh, hnr, hLo, hSh, hnb, hKp⟩ := HS1.out
          have HIN := Lib.hid (show NeaP (nxN l) T par K W3.heap.size bF bl bo bb b1 b2 bnr k W3 first behind near L (fun _ => False) w6 from ⟨low, over, best, pv, pl, hI.keep HQ6.out, hsh.keep HQ6.out, hnr.keep HQ6.out, hLo.begin hkK, hSh, hKp.trans (Keeps.of_below _ HQ6.out)⟩)
          have HSB := Lib.hid (And.intro hLo hnb)
          clear hI hsh hnr hLo hSh hnb hKp hkl DD t1 t2 kb0 kb1 c0
          go_loopw [50] (fun i wr => ∃ j : Nat, j ≤ kk ∧ i = .int .i64 j ∧ NeaP (nxN l) T par K W3.heap.size bF bl bo bb b1 b2 bnr k W3 first behind near L (fun y => y < K ∧ el T.ord y ∈ (N' P).take j) wr) (fun i _ => kk - (intOf i).toNat)
          case atStart => exact ⟨0, by omega, rfl, HIN.out.seen fun y h => by simp at h⟩
          case round =>
            obtain ⟨i, hi9, rfl, hNP⟩ := hrel
            have HNP := Lib.hid hNP
            clear hNP
            by_cases hlt : i < kk
            · have hlt' : (i : Int) < kk := by omega
              obtain ⟨low, over, best, pv, pl, hI, hsh, hnr, hLk, hSh, hKp⟩ := HNP.out
              have kW1 := HKW.out wr hKp
              obtain ⟨g2, off2, rfl, hc⟩ := (HW6.out.keep kW1).lie (by omega)
              have c0 := hc i hlt
              have hil : i < (N' P).length := by rw [HKL.out]; exact hlt
              obtain ⟨q, hq⟩ : ∃ q, (N' P)[i] = q := ⟨_, rfl⟩
              have hbq : byAt ((N' P).map Int.ofNat) i = (q : Int) := by
                rw [← byAt_eq (by rw [List.length_map]; exact hil), List.getElem_map, hq]; rfl
              rw [hbq] at c0
              have hqn : q < l.length := HWN'.out.ins P q (by rw [← hq]; exact List.getElem_mem _)
              have hq' : (q : Int) < l.length := by omega
              have hnu := HNU.out.keep kW1
              have c1 := hnu.cell hqn
              have HTK := Lib.hid (show (N' P).take (i + 1) = (N' P).take i ++ [q] from by rw [List.take_succ_eq_append_getElem hil, hq])
              have HQM := Lib.hid (show q ∈ N' P from by rw [← hq]; exact List.getElem_mem _)
              by_cases hqo : q ∈ T.ord
              · obtain ⟨y, hyl, hy⟩ := List.mem_iff_getElem.1 hqo
                have hny : numA T.ord T.ord.length q = (y : Int) := by
                  have := numA_on (O := T.ord) HND.out.1 (Nat.le_refl _) hyl hyl
                  rw [hy] at this
                  exact this
                have hyK : y < K := by rw [← HK.out]; exact hyl
                rw [hny] at c1
                have hyE : el T.ord y = q := by rw [← el_eq hyl]; exact hy
                have hEy : Gra.NumE (nxN l) T y k := ⟨hyl, by rw [HK.out]; exact hkK, by
                  rw [HPE.out, hyE]
                  exact backN_mem.1 ((HNM.out P q).1 HQM.out)⟩
                have HEY := Lib.hid (And.intro hyE hEy)
                obtain ⟨lk, hlk⟩ : ∃ v, low k = v := ⟨_, rfl⟩
                have hyne : ((y : Int) != -1) = true := by simp
                have hoffs : ∀ {z : Nat}, pv.ownBlock = some z → W3.heap.size ≤ z := fun e => (hI.ow.lt _ e).1
                have hflt := HFLT.out
                have HC12 := Lib.hid (show wr.drew.cell? ⟨bF, 0, none⟩ = some (.slice (some ⟨bl, 0, none⟩) K K) ∧ Ar .i32 21 bl K low wr ∧ (¬ (bl = bF ∨ bl = bo ∨ bl = bb ∨ pv.ownBlock = some bl)) ∧ low k = lk ∧ Ar .i32 21 bn l.length (numA T.ord T.ord.length) wr ∧ (¬ (bn = bF ∨ bn = bo ∨ bn = bb ∨ pv.ownBlock = some bn)) ∧ numA T.ord T.ord.length q = (y : Int) from
                  ⟨hI.fo.box.cell 0, hI.fo.lo, fun e => by rcases e with e | e | e | e; exact HOFF.out.2.1 e; exact hI.fo.ne.1 e; exact hI.fo.ne.2.1 e; (have := hoffs e; omega), hlk, hnu, fun e => by
                    have h1 := HNU.out.lt
                    have h2 := HLE.out
                    have h3 := HB13.out.size
                    rcases e with e | e | e | e
                    · omega
                    · omega
                    · omega
                    · have := hoffs e; omega, hny⟩)
                have HX12 := Lib.hid (show LeaI bF bl bo bb K W3.heap.size k par low over best pv pl wr.drew from hI.keep (Below.refl _ _).drew)
                have HS12 := Lib.hid (And.intro hsh (And.intro hnr (And.intro hLk (And.intro hSh hKp))))
                clear hI hsh hnr hLk hSh hKp kW1 hc hil hq hbq hnu hqo hny hyE hEy hlk hoffs hflt hlt hyl hy
                go_upto_region 12 with (fail)
                refine wp_region_freeK (Rl := NeaRl bF bl bo bb K pv) (X := fun w' => LeaI bF bl bo bb K W3.heap.size k par low over best pv pl w') (jx := 21) (fun _ => True) [(0, 0, 60, 512), (1, 1, 61, 576460752303423488), (2, 2, 62, 1152921504606846976), (3, 4, 63, 2305843009213693952), (4, 0, 64, 2048), (5, 0, 65, 512), (6, 32, 66, 18446744073709551616), (7, 64, 67, 36893488147419103232), (8, 128, 68, 73786976294838206464), (9, 0, 69, 2048), (10, 768, 70, 442721857769029238784), (11, 1024, 71, 590295810358705651712), (12, 0, 72, 512), (13, 4096, 73, 2361183241434822606848), (14, 8192, 74, 4722366482869645213696), (15, 16384, 75, 9444732965739290427392), (16, 0, 76, 512), (17, 0, 77, 32), (18, 0, 78, 16384), (19, 393216, 79, 226673591177742970257408), (20, 524288, 80, 302231454903657293676544), (21, 1114112, 81, 642241841670271749062656), (22, 2129920, 82, 1227815285546107755560960), (23, 4194304, 83, 2417851639229258349412352), (24, 8390656, 84, 4836883870079234110128128), (25, 33554431, 85, 13835058055282163712), (26, 67108863, 0, 29014219670751100192948224)] 26 [(0, 59), (1, 60), (2, 61), (3, 62), (4, 63), (5, 64), (6, 65), (7, 66), (8, 67), (9, 68), (10, 69), (11, 70), (12, 71), (13, 72), (14, 73), (15, 74), (16, 75), (17, 76), (18, 77), (19, 78), (20, 79), (21, 80), (22, 81), (23, 82), (24, 83), (25, 84)] [(0, []), (1, [(0, 59)]), (2, [(1, 60)]), (3, [(2, 61)]), (4, []), (5, []), (6, [(5, 64)]), (7, [(6, 65)]), (8, [(7, 66)]), (9, []), (10, [(8, 67), (9, 68)]), (11, [(10, 69)]), (12, []), (13, [(12, 71)]), (14, [(13, 72)]), (15, [(14, 73)]), (16, []), (17, []), (18, []), (19, [(17, 76), (18, 77)]), (20, [(19, 78)]), (21, [(16, 75), (20, 79)]), (22, [(15, 74), (21, 80)]), (23, [(22, 81)]), (24, [(11, 70), (23, 82)]), (25, [(3, 62), (4, 63)])] [(false, 26, 134217727)] []
                  (fun i v w' => match i with
                    | 0 | 1 | 2 | 5 | 6 | 7 | 12 | 13 | 14 | 16 => v = .pointer (some ⟨bF, 0, none⟩)
                    | 3 | 8 | 15 => v = .slice (some ⟨bl, 0, none⟩) K K
                    | 4 | 9 => v = .int .i32 k
                    | 10 | 25 => v = .pointer (some ⟨bl, k, none⟩)
                    | 11 => v = .int .i32 lk
                    | 17 => v = .slice (some ⟨bn, 0, none⟩) l.length l.length
                    | 18 => v = .int .i32 q
                    | 19 => v = .pointer (some ⟨bn, q, none⟩)
                    | 20 => v = .int .i32 y
                    | 21 => ∃ u : Nat, v = .int .i32 u ∧ u < K ∧ LeaU k par low y u ∧ ∃ over' best' pv' pl', LeaI bF bl bo bb K W3.heap.size k par low over' best' pv' pl' w'
                    | 22 => ∃ u : Nat, v = .pointer (some ⟨bl, u, none⟩) ∧ u < K ∧ LeaU k par low y u
                    | 23 => ∃ u : Nat, v = .int .i32 (low u) ∧ u < K ∧ LeaU k par low y u
                    | 24 => ∃ u : Nat, v = .int .i32 (min lk (low u)) ∧ u < K ∧ LeaU k par low y u
                    | _ => True) (neaOk bF bl bo bb K pv) HX12.out (by kernel_rfl) (by kernel_rfl) (by kernel_rfl) (by kernel_rfl) (by kernel_rfl) (fun _ _ => trivial) ?_ ?_ ?_ ?_
                · intro i v w1 w2 h hb
                  match i, h with
                  | 0, h | 1, h | 2, h | 3, h | 4, h | 5, h | 6, h | 7, h | 8, h | 9, h | 10, h | 11, h | 12, h | 13, h | 14, h | 15, h | 16, h | 17, h | 18, h | 19, h | 20, h | 22, h | 23, h | 24, h | 25, h => exact h
                  | 21, ⟨u, e, h1, h2, over', best', pv', pl', h3⟩ => exact ⟨u, e, h1, h2, over', best', pv', pl', h3.keep hb⟩
                  | _ + 26, _ => trivial
                · intro i v w1 w2 hi h hb
                  match i, h with
                  | 0, h | 1, h | 2, h | 3, h | 4, h | 5, h | 6, h | 7, h | 8, h | 9, h | 10, h | 11, h | 12, h | 13, h | 14, h | 15, h | 16, h | 17, h | 18, h | 19, h | 20, h | 22, h | 23, h | 24, h | 25, h => exact h
                  | 21, _ => exact absurd rfl hi
                  | _ + 26, _ => trivial
                · refine ⟨?_, ?_, ?_, ?_, ?_, ?_, ?_, ?_, ?_, ?_, ?_, ?_, ?_, ?_, ?_, ?_, ?_, ?_, ?_, ?_, ?_, ?_, ?_, ?_, ?_, ?_, trivial⟩
                  · intro o ho vals w1 hb hd hne hxx
                    cases ho
                    exact .val (v := .pointer (some ⟨bF, 0, none⟩)) (w' := w1) (by simp [frA, execOp, Act.put, Act.eval, go_sem]) ⟨rfl, (neaOk bF bl bo bb K pv).refl _, fun q => by simp at q, fun _ => ⟨Below.refl _ _, fun h => h⟩⟩
                  · intro o ho vals w1 hb hd hne hxx
                    cases ho
                    have e0 : vals 0 = _ := hd (0, 59) (.head _)
                    exact .val (v := .pointer (some ⟨bF, 0, none⟩)) (w' := w1) (by simp [frA, execOp, Act.put, Act.eval, go_sem, e0]) ⟨rfl, (neaOk bF bl bo bb K pv).refl _, fun q => by simp at q, fun _ => ⟨Below.refl _ _, fun h => h⟩⟩
                  · intro o ho vals w1 hb hd hne hxx
                    cases ho
                    have e1 : vals 1 = _ := hd (1, 60) (.head _)
                    exact .val (v := .pointer (some ⟨bF, 0, none⟩)) (w' := w1) (by simp [frA, execOp, Act.put, Act.eval, go_sem, e1]) ⟨rfl, (neaOk bF bl bo bb K pv).refl _, fun q => by simp at q, fun _ => ⟨Below.refl _ _, fun h => h⟩⟩
                  · intro o ho vals w1 hb hd hne hxx
                    cases ho
                    have e2 : vals 2 = _ := hd (2, 61) (.head _)
                    have g0 := hb.2 HC12.out.1
                    exact .val (v := .slice (some ⟨bl, 0, none⟩) K K) (w' := w1) (by simp [frA, execOp, Act.put, Act.eval, go_sem, e2, g0]) ⟨rfl, (neaOk bF bl bo bb K pv).refl _, fun q => by simp at q, fun _ => ⟨Below.refl _ _, fun h => h⟩⟩
                  · intro o ho vals w1 hb hd hne hxx
                    cases ho
                    exact .val (v := .int .i32 k) (w' := w1) (by simp [frA, execOp, Act.put, Act.eval, go_sem]) ⟨rfl, (neaOk bF bl bo bb K pv).refl _, fun q => by simp at q, fun _ => ⟨Below.refl _ _, fun h => h⟩⟩
                  · intro o ho vals w1 hb hd hne hxx
                    cases ho
                    exact .val (v := .pointer (some ⟨bF, 0, none⟩)) (w' := w1) (by simp [frA, execOp, Act.put, Act.eval, go_sem]) ⟨rfl, (neaOk bF bl bo bb K pv).refl _, fun q => by simp at q, fun _ => ⟨Below.refl _ _, fun h => h⟩⟩
                  · intro o ho vals w1 hb hd hne hxx
                    cases ho
                    have e5 : vals 5 = _ := hd (5, 64) (.head _)
                    exact .val (v := .pointer (some ⟨bF, 0, none⟩)) (w' := w1) (by simp [frA, execOp, Act.put, Act.eval, go_sem, e5]) ⟨rfl, (neaOk bF bl bo bb K pv).refl _, fun q => by simp at q, fun _ => ⟨Below.refl _ _, fun h => h⟩⟩
                  · intro o ho vals w1 hb hd hne hxx
                    cases ho
                    have e6 : vals 6 = _ := hd (6, 65) (.head _)
                    exact .val (v := .pointer (some ⟨bF, 0, none⟩)) (w' := w1) (by simp [frA, execOp, Act.put, Act.eval, go_sem, e6]) ⟨rfl, (neaOk bF bl bo bb K pv).refl _, fun q => by simp at q, fun _ => ⟨Below.refl _ _, fun h => h⟩⟩
                  · intro o ho vals w1 hb hd hne hxx
                    cases ho
                    have e7 : vals 7 = _ := hd (7, 66) (.head _)
                    have g0 := hb.2 HC12.out.1
                    exact .val (v := .slice (some ⟨bl, 0, none⟩) K K) (w' := w1) (by simp [frA, execOp, Act.put, Act.eval, go_sem, e7, g0]) ⟨rfl, (neaOk bF bl bo bb K pv).refl _, fun q => by simp at q, fun _ => ⟨Below.refl _ _, fun h => h⟩⟩
                  · intro o ho vals w1 hb hd hne hxx
                    cases ho
                    exact .val (v := .int .i32 k) (w' := w1) (by simp [frA, execOp, Act.put, Act.eval, go_sem]) ⟨rfl, (neaOk bF bl bo bb K pv).refl _, fun q => by simp at q, fun _ => ⟨Below.refl _ _, fun h => h⟩⟩
                  · intro o ho vals w1 hb hd hne hxx
                    cases ho
                    have e8 : vals 8 = _ := hd (8, 67) (.head _)
                    have e9 : vals 9 = _ := hd (9, 68) (.tail _ (.head _))
                    exact .val (v := .pointer (some ⟨bl, k, none⟩)) (w' := w1) (by simp [frA, execOp, Act.put, Act.eval, go_sem, e8, e9, hkK']) ⟨rfl, (neaOk bF bl bo bb K pv).refl _, fun q => by simp at q, fun _ => ⟨Below.refl _ _, fun h => h⟩⟩
                  · intro o ho vals w1 hb hd hne hxx
                    cases ho
                    have e10 : vals 10 = _ := hd (10, 69) (.head _)
                    have g0 := (Ar.kept (w := wr.drew) HC12.out.2.1 hb.1 HC12.out.2.2.1).cell hkK
                    rw [HC12.out.2.2.2.1] at g0
                    exact .val (v := .int .i32 lk) (w' := w1) (by simp [frA, execOp, Act.put, Act.eval, go_sem, e10, g0]) ⟨rfl, (neaOk bF bl bo bb K pv).refl _, fun q => by simp at q, fun _ => ⟨Below.refl _ _, fun h => h⟩⟩
                  · intro o ho vals w1 hb hd hne hxx
                    cases ho
                    exact .val (v := .pointer (some ⟨bF, 0, none⟩)) (w' := w1) (by simp [frA, execOp, Act.put, Act.eval, go_sem]) ⟨rfl, (neaOk bF bl bo bb K pv).refl _, fun q => by simp at q, fun _ => ⟨Below.refl _ _, fun h => h⟩⟩
                  · intro o ho vals w1 hb hd hne hxx
                    cases ho
                    have e12 : vals 12 = _ := hd (12, 71) (.head _)
                    exact .val (v := .pointer (some ⟨bF, 0, none⟩)) (w' := w1) (by simp [frA, execOp, Act.put, Act.eval, go_sem, e12]) ⟨rfl, (neaOk bF bl bo bb K pv).refl _, fun q => by simp at q, fun _ => ⟨Below.refl _ _, fun h => h⟩⟩
                  · intro o ho vals w1 hb hd hne hxx
                    cases ho
                    have e13 : vals 13 = _ := hd (13, 72) (.head _)
                    exact .val (v := .pointer (some ⟨bF, 0, none⟩)) (w' := w1) (by simp [frA, execOp, Act.put, Act.eval, go_sem, e13]) ⟨rfl, (neaOk bF bl bo bb K pv).refl _, fun q => by simp at q, fun _ => ⟨Below.refl _ _, fun h => h⟩⟩
                  · intro o ho vals w1 hb hd hne hxx
                    cases ho
                    have e14 : vals 14 = _ := hd (14, 73) (.head _)
                    have g0 := hb.2 HC12.out.1
                    exact .val (v := .slice (some ⟨bl, 0, none⟩) K K) (w' := w1) (by simp [frA, execOp, Act.put, Act.eval, go_sem, e14, g0]) ⟨rfl, (neaOk bF bl bo bb K pv).refl _, fun q => by simp at q, fun _ => ⟨Below.refl _ _, fun h => h⟩⟩
                  · intro o ho vals w1 hb hd hne hxx
                    cases ho
                    exact .val (v := .pointer (some ⟨bF, 0, none⟩)) (w' := w1) (by simp [frA, execOp, Act.put, Act.eval, go_sem]) ⟨rfl, (neaOk bF bl bo bb K pv).refl _, fun q => by simp at q, fun _ => ⟨Below.refl _ _, fun h => h⟩⟩
                  · intro o ho vals w1 hb hd hne hxx
                    cases ho
                    exact .val (v := .slice (some ⟨bn, 0, none⟩) l.length l.length) (w' := w1) (by simp [frA, execOp, Act.put, Act.eval, go_sem]) ⟨rfl, (neaOk bF bl bo bb K pv).refl _, fun q => by simp at q, fun _ => ⟨Below.refl _ _, fun h => h⟩⟩
                  · intro o ho vals w1 hb hd hne hxx
                    cases ho
                    exact .val (v := .int .i32 q) (w' := w1) (by simp [frA, execOp, Act.put, Act.eval, go_sem]) ⟨rfl, (neaOk bF bl bo bb K pv).refl _, fun q => by simp at q, fun _ => ⟨Below.refl _ _, fun h => h⟩⟩
                  · intro o ho vals w1 hb hd hne hxx
                    cases ho
                    have e17 : vals 17 = _ := hd (17, 76) (.head _)
                    have e18 : vals 18 = _ := hd (18, 77) (.tail _ (.head _))
                    exact .val (v := .pointer (some ⟨bn, q, none⟩)) (w' := w1) (by simp [frA, execOp, Act.put, Act.eval, go_sem, e17, e18, hq']) ⟨rfl, (neaOk bF bl bo bb K pv).refl _, fun q => by simp at q, fun _ => ⟨Below.refl _ _, fun h => h⟩⟩
                  · intro o ho vals w1 hb hd hne hxx
                    cases ho
                    have e19 : vals 19 = _ := hd (19, 78) (.head _)
                    have g0 := (Ar.kept (w := wr.drew) HC12.out.2.2.2.2.1 hb.1 HC12.out.2.2.2.2.2.1).cell hqn
                    rw [HC12.out.2.2.2.2.2.2] at g0
                    exact .val (v := .int .i32 y) (w' := w1) (by simp [frA, execOp, Act.put, Act.eval, go_sem, e19, g0]) ⟨rfl, (neaOk bF bl bo bb K pv).refl _, fun q => by simp at q, fun _ => ⟨Below.refl _ _, fun h => h⟩⟩
                  · intro o ho vals w1 hb hd hne hxx
                    cases ho
                    have e16 : vals 16 = _ := hd (16, 75) (.head _)
                    have e20 : vals 20 = _ := hd (20, 79) (.tail _ (.head _))
                    refine .call (f := 62) (vs := #[.pointer (some ⟨bF, 0, none⟩), .int .i32 y]) (by simp [frA, execOp, Act.put, Act.eval, go_sem, e16, e20]) ((graLeast_is (w := w1) HDP.out (hxx rfl) hKn hyK).mono ?_)
                    rintro e w' ⟨u, over', best', pv', pl', rfl, h1, h2, h3, h4, h5⟩
                    exact ⟨_, rfl, ⟨u, rfl, h2, h3, over', best', pv', pl', h1⟩, ⟨h4, fun _ => h1.fo.box.cell 0⟩, fun q => by simp at q, fun q => absurd rfl q⟩
                  · intro o ho vals w1 hb hd hne hxx
                    cases ho
                    have e15 : vals 15 = _ := hd (15, 74) (.head _)
                    obtain ⟨u, e21, hu, hl⟩ : ∃ u : Nat, vals 21 = .int .i32 u ∧ u < K ∧ LeaU k par low y u := by
                      obtain ⟨u, h1, h2, h3, -⟩ := hd (21, 80) (.tail _ (.head _))
                      exact ⟨u, h1, h2, h3⟩
                    have hu' : (u : Int) < K := by omega
                    exact .val (v := .pointer (some ⟨bl, u, none⟩)) (w' := w1) (by simp [frA, execOp, Act.put, Act.eval, go_sem, e15, e21, hu']) ⟨⟨u, rfl, hu, hl⟩, (neaOk bF bl bo bb K pv).refl _, fun q => by simp at q, fun _ => ⟨Below.refl _ _, fun h => h⟩⟩
                  · intro o ho vals w1 hb hd hne hxx
                    cases ho
                    obtain ⟨u, e22, hu, hl⟩ := hd (22, 81) (.head _)
                    simp only at e22
                    have g0 := (Ar.kept (w := wr.drew) HC12.out.2.1 hb.1 HC12.out.2.2.1).cell hu
                    exact .val (v := .int .i32 (low u)) (w' := w1) (by simp [frA, execOp, Act.put, Act.eval, go_sem, e22, g0]) ⟨⟨u, rfl, hu, hl⟩, (neaOk bF bl bo bb K pv).refl _, fun q => by simp at q, fun _ => ⟨Below.refl _ _, fun h => h⟩⟩
                  · intro o ho vals w1 hb hd hne hxx
                    cases ho
                    have e11 : vals 11 = _ := hd (11, 70) (.head _)
                    obtain ⟨u, e23, hu, hl⟩ := hd (23, 82) (.tail _ (.head _))
                    simp only at e23
                    have hmin := fun w ts => run_minG (P := Tryz.prog) w ts 21 .i32 lk (low u) _ rfl
                    exact .val (v := .int .i32 (min lk (low u))) (w' := w1) (by simp [frA, execOp, Act.put, Act.eval, resolve, invoke, builtin, go_sem, e11, e23, hmin]) ⟨⟨u, rfl, hu, hl⟩, (neaOk bF bl bo bb K pv).refl _, fun q => by simp at q, fun _ => ⟨Below.refl _ _, fun h => h⟩⟩
                  · intro o ho vals w1 hb hd hne hxx
                    cases ho
                    have e3 : vals 3 = _ := hd (3, 62) (.head _)
                    have e4 : vals 4 = _ := hd (4, 63) (.tail _ (.head _))
                    exact .val (v := .pointer (some ⟨bl, k, none⟩)) (w' := w1) (by simp [frA, execOp, Act.put, Act.eval, go_sem, e3, e4, hkK']) ⟨rfl, (neaOk bF bl bo bb K pv).refl _, fun q => by simp at q, fun _ => ⟨Below.refl _ _, fun h => h⟩⟩
                · intro vals ax w1 hI
                  have e := hI.frame (by kernel_rfl) (by kernel_rfl)
                  subst e
                  have e0 : vals 0 = _ := hI.psi 0 (by omega) (by decide)
                  have e1 : vals 1 = _ := hI.psi 1 (by omega) (by decide)
                  have e2 : vals 2 = _ := hI.psi 2 (by omega) (by decide)
                  have e3 : vals 3 = _ := hI.psi 3 (by omega) (by decide)
                  have e4 : vals 4 = _ := hI.psi 4 (by omega) (by decide)
                  have e5 : vals 5 = _ := hI.psi 5 (by omega) (by decide)
                  have e6 : vals 6 = _ := hI.psi 6 (by omega) (by decide)
                  have e7 : vals 7 = _ := hI.psi 7 (by omega) (by decide)
                  have e8 : vals 8 = _ := hI.psi 8 (by omega) (by decide)
                  have e9 : vals 9 = _ := hI.psi 9 (by omega) (by decide)
                  have e10 : vals 10 = _ := hI.psi 10 (by omega) (by decide)
                  have e11 : vals 11 = _ := hI.psi 11 (by omega) (by decide)
                  have e12 : vals 12 = _ := hI.psi 12 (by omega) (by decide)
                  have e13 : vals 13 = _ := hI.psi 13 (by omega) (by decide)
                  have e14 : vals 14 = _ := hI.psi 14 (by omega) (by decide)
                  have e15 : vals 15 = _ := hI.psi 15 (by omega) (by decide)
                  have e16 : vals 16 = _ := hI.psi 16 (by omega) (by decide)
                  have e17 : vals 17 = _ := hI.psi 17 (by omega) (by decide)
                  have e18 : vals 18 = _ := hI.psi 18 (by omega) (by decide)
                  have e19 : vals 19 = _ := hI.psi 19 (by omega) (by decide)
                  have e20 : vals 20 = _ := hI.psi 20 (by omega) (by decide)
                  have e25 : vals 25 = _ := hI.psi 25 (by omega) (by decide)
                  obtain ⟨u0, e21, -, -, over', best', pv', pl', hI2⟩ := hI.psi 21 (by omega) (by decide)
                  obtain ⟨u, e24, hu, hl⟩ := hI.psi 24 (by omega) (by decide)
                  have HI := Lib.hid hI
                  have HI2 := Lib.hid hI2
                  have HUL := Lib.hid (And.intro hu hl)
                  have fl := hI2.fo.lo.free k
                  have cl := hI2.fo.lo.cell hkK
                  generalize vals 22 = v22 at *
                  generalize vals 23 = v23 at *
                  clear hI hI2 hu hl
                  obtain ⟨x, hx⟩ : ∃ x, min lk (low u) = x := ⟨_, rfl⟩
                  rw [hx] at e24
                  have HXM := Lib.hid hx
                  clear hx
                  refine SeqH.step rfl rfl fun KK hKK => ?_
                  simp only [frA, List.foldl, e0, e1, e2, e3, e4, e5, e6, e7, e8, e9, e10, e11, e12, e13, e14, e15, e16, e17, e18, e19, e20, e21, e24, e25]
                  go_simp
                  refine hKK _ _ trivial (SeqH.done (NoPanic.normal ?_))
                  go_wp2_with fail
                  go_roundw
                  case rel =>
                    obtain ⟨hsh, hnr, hLk, hSh, hKp⟩ := HS12.out
                    obtain ⟨xn, hx1, hx2, hx3⟩ := hLk.step HDP.out HEY.out.2 HUL.out.2
                    have hxx : x = (xn : Int) := by
                      have h1 := HXM.out
                      rw [← HC12.out.2.2.2.1] at h1
                      omega
                    subst hxx
                    have hI2 := HI2.out
                    have kb : Keeps (fun z => z = bF ∨ z = bo ∨ z = bb ∨ pv.ownBlock = some z) wr w1 := (Keeps.of_below _ (Below.refl _ _).drew).trans HI.out.below.1
                    have ks := Keeps.set1 w1 bl k (.int .i32 (xn : Int))
                    have hne := HNE.out
                    have hof := HOFF.out
                    have hfl := HFLT.out
                    have hln := HX12.out.ow.lt
                    have hno : ∀ {z : Nat}, z < W3.heap.size → z ≠ bF → z ≠ bo → z ≠ bb → ¬ (z = bF ∨ z = bo ∨ z = bb ∨ pv.ownBlock = some z) := fun h1 h2 h3 h4 e => by
                      rcases e with e | e | e | e
                      · exact h2 e
                      · exact h3 e
                      · exact h4 e
                      · have := (hln _ e).1; omega
                    have h1 := hsh.kept kb (hno hfl.2.1 hof.1.1 hne.2.2.2.2.2.2.1 hne.2.2.2.2.2.2.2.1) (hno hfl.2.2.1 hof.1.2.1 hne.2.2.2.2.2.2.2.2.2.1 hne.2.2.2.2.2.2.2.2.2.2)
                    have h2 := hnr.kept kb (hno hfl.2.2.2 hof.1.2.2 hne.2.1 hne.2.2.1)
                    refine ⟨i + 1, by omega, by go_num, upn low k (xn : Int), over', best', pv', pl', ⟨⟨hI2.fo.box.kept ks fun e => hof.2.1 e.symm, hI2.fo.lo.set k (xn : Int), hI2.fo.ov.kept ks fun e => hI2.fo.ne.1 e.symm, hI2.fo.be.kept ks fun e => hI2.fo.ne.2.1 e.symm, hI2.fo.ne⟩, hI2.ow.kept ks fun z e f => by have := (hI2.ow.lt z e).1; omega, hI2.fi.lowU (Nat.le_refl _) hx2, by have := hI2.lt; have := ks.size; omega⟩,
                      h1.kept ks hne.2.2.2.2.2.1 hne.2.2.2.2.2.2.2.2.1, h2.kept ks hne.1, hx3.seen fun z hz => ?_, hSh.lowU (Nat.le_refl _) (Nat.le_refl _), (hKp.next kb fun z hz e => ?_).trans (ks.mono fun z _ e => .inr (.inl e))⟩
                    · have h3 := hz.2
                      rw [HTK.out, List.mem_append, List.mem_singleton] at h3
                      rcases h3 with h3 | h3
                      · exact .inl ⟨hz.1, h3⟩
                      · refine .inr (Gra.el_inj HND.out.1 (by rw [HK.out]; exact hz.1) (by rw [HK.out]; exact hyK) ?_)
                        rw [h3]
                        exact HEY.out.1.symm
                    · rcases e with e | e | e | e
                      · exact .inl e
                      · exact .inr (.inr (.inl e))
                      · exact .inr (.inr (.inr (.inl e)))
                      · have := (hln _ e).1; omega
                  case measure => simp [intOf]; omega
              · have hno : numA T.ord T.ord.length q = -1 := numA_off (Nat.le_refl _) (by rw [List.take_length]; exact hqo)
                rw [hno] at c1
                have HQO := Lib.hid hqo
                have HI9 := Lib.hid (And.intro hI (And.intro hsh (And.intro hnr (And.intro hLk (And.intro hSh hKp)))))
                clear hI hsh hnr hLk hSh hKp kW1 hc hil hq hbq hnu hqo hno hlt
                go_wp2
                go_roundw
                case rel =>
                  obtain ⟨hI, hsh, hnr, hLk, hSh, hKp⟩ := HI9.out
                  refine ⟨i + 1, by omega, by go_num, low, over, best, pv, pl, hI, hsh, hnr, hLk.seen fun y hy => ?_, hSh, hKp⟩
                  refine ⟨hy.1, ?_⟩
                  have h1 := hy.2
                  rw [HTK.out, List.mem_append, List.mem_singleton] at h1
                  rcases h1 with h1 | h1
                  · exact h1
                  · refine absurd ?_ HQO.out
                    rw [← h1]
                    have hyl : y < T.ord.length := by rw [HK.out]; exact hy.1
                    rw [← el_eq hyl]
                    exact List.getElem_mem _
                case measure => simp [intOf]; omega
            · obtain rfl : i = kk := by omega
              obtain ⟨low, over, best, pv, pl, hI, hsh, hnr, hLk, hSh, hKp⟩ := HNP.out
              obtain ⟨x, hx1, hx2, hx3⟩ := hLk.done HDP.out hk0 hkK fun y hy => ⟨by have := hy.1; have := HK.out; omega, by
                rw [List.take_of_length_le (by rw [HKL.out]; omega), HNM.out P, backN_mem]
                have h1 := hy.2.2
                rw [HPE.out] at h1
                exact h1⟩
              have hxK : x < K := by omega
              have hoffs : ∀ {z : Nat}, pv.ownBlock = some z → W3.heap.size ≤ z := fun e => (hI.ow.lt _ e).1
              have hbs := HBS.out.kept hKp HBSN.out
              have hbsd : BlkAt bs 119 #[.slice (some ⟨b1, 0, none⟩) K K, .slice (some ⟨b2, 0, none⟩) K K] wr.drew := hbs
              have HS14 := Lib.hid (show wr.drew.cell? ⟨bs, 0, none⟩ = some (.slice (some ⟨b1, 0, none⟩) K K) ∧ wr.drew.cell? ⟨bs, 1, none⟩ = some (.slice (some ⟨b2, 0, none⟩) K K) ∧ wr.drew.cell? ⟨bF, 0, none⟩ = some (.slice (some ⟨bl, 0, none⟩) K K) ∧ wr.drew.cell? ⟨bl, k, none⟩ = some (.int .i32 x) from
                ⟨hbs.cell 0, hbs.cell 1, hI.fo.box.cell 0, by rw [← hx1]; exact hI.fo.lo.cell hkK⟩)
              have hbsn := HBSN.out
              have HB14 := Lib.hid (show (¬ (bs = b1 ∨ bs = b2)) ∧ (¬ (bF = b1 ∨ bF = b2)) ∧ ¬ (bl = b1 ∨ bl = b2) from ⟨fun e => hbsn (e.elim (fun e => .inr (.inr (.inr (.inr (.inl e))))) fun e => .inr (.inr (.inr (.inr (.inr (.inl e)))))), fun e => e.elim (fun e => HOFF.out.1.1 e.symm) fun e => HOFF.out.1.2.1 e.symm, fun e => by
                have h1 := HNE.out
                rcases e with e | e
                · exact h1.2.2.2.2.2.1 e.symm
                · exact h1.2.2.2.2.2.2.2.2.1 e.symm⟩)
              have HPUT := Lib.hid (graPut_is (w := wr.drew) (p := x) (k := k) (hsh.keep (Below.refl _ _).drew) hKn hxK hkK)
              have H14 := Lib.hid (And.intro hI (And.intro hnr (And.intro hx1 (And.intro hx2 (And.intro hx3 (And.intro hSh hKp))))))
              have hxK' : (x : Int) < K := by omega
              clear hI hsh hnr hLk hSh hKp hoffs hbs hbsd hbsn hlt hx1 hx3
              go_upto_region 14 with (fail)
              refine wp_region_seq [(0, 0, 87, 1024), (1, 0, 88, 512), (2, 2, 89, 154742504910672534362390528), (3, 4, 90, 309485009821345068724781056), (4, 8, 91, 618970019642690137449562112), (5, 0, 92, 2048), (6, 48, 93, 3713820117856140824697372672), (7, 64, 94, 4951760157141521099596496896), (8, 0, 95, 2048), (9, 385, 96, 29787932195304462864760176640)] [(true, 0, 1), (true, 1, 3), (true, 2, 7), (true, 3, 15), (true, 4, 31), (true, 5, 63), (true, 6, 127), (true, 7, 255), (true, 8, 511), (false, 9, 1023)] (fun w' => w'.cell? ⟨bs, 0, none⟩ = some (.slice (some ⟨b1, 0, none⟩) K K) ∧ w'.cell? ⟨bs, 1, none⟩ = some (.slice (some ⟨b2, 0, none⟩) K K) ∧ w'.cell? ⟨bF, 0, none⟩ = some (.slice (some ⟨bl, 0, none⟩) K K) ∧ w'.cell? ⟨bl, k, none⟩ = some (.int .i32 x)) (by kernel_rfl) (by kernel_rfl) (by kernel_rfl) (by kernel_rfl) (by kernel_rfl) HS14.out ?_
              (refine SeqH.take (v := ?_) rfl rfl ?_ ?_; rotate_left; (intro w' hw'; (try dsimp only at hw'); go_simp; try with_reducible rfl); go_simp)
              (refine SeqH.take (v := ?_) rfl rfl ?_ ?_; rotate_left; (intro w' hw'; (try dsimp only at hw'); go_simp; try with_reducible rfl); go_simp)
              (refine SeqH.take (v := ?_) rfl rfl ?_ ?_; rotate_left; (intro w' hw'; (try dsimp only at hw'); go_simp; try with_reducible rfl); go_simp)
              (refine SeqH.take (v := ?_) rfl rfl ?_ ?_; rotate_left; (intro w' hw'; (try dsimp only at hw'); go_simp; try with_reducible rfl); go_simp)
              (refine SeqH.take (v := ?_) rfl rfl ?_ ?_; rotate_left; (intro w' hw'; (try dsimp only at hw'); go_simp; try with_reducible rfl); go_simp)
              (refine SeqH.take (v := ?_) rfl rfl ?_ ?_; rotate_left; (intro w' hw'; (try dsimp only at hw'); go_simp; try with_reducible rfl); go_simp)
              (refine SeqH.take (v := ?_) rfl rfl ?_ ?_; rotate_left; (intro w' hw'; (try dsimp only at hw'); go_simp; try with_reducible rfl); go_simp)
              (refine SeqH.take (v := ?_) rfl rfl ?_ ?_; rotate_left; (intro w' hw'; (try dsimp only at hw'); go_simp; try with_reducible rfl); go_simp)
              (refine SeqH.take (v := ?_) rfl rfl ?_ ?_; rotate_left; (intro w' hw'; (try dsimp only at hw'); go_simp; try with_reducible rfl); go_simp)
              refine SeqH.step rfl rfl (fun KK hKK => ?_)
              go_simp
              refine (HPUT.out).mono ?_
              rintro e w7 ⟨rfl, hsh7, hk7⟩
              (try dsimp only)
              refine hKK _ _ (⟨hk7.cell HB14.out.1 HS14.out.1, hk7.cell HB14.out.1 HS14.out.2.1, hk7.cell HB14.out.2.1 HS14.out.2.2.1, hk7.cell HB14.out.2.2 HS14.out.2.2.2⟩) ?_
              clear hKK KK
              refine SeqH.done (NoPanic.normal ?_)
              obtain ⟨hI, hnr, hx1, hx2, hx3, hSh, hKp⟩ := H14.out
              have hD0 := HD.out (by rw [HK.out]; omega)
              have hpkk := hD0.lt k hk0 (by rw [HK.out]; exact hkK)
              have hfr := hD0.fr k hk0 (by rw [HK.out]; exact hkK)
              rw [HPE.out] at hfr
              have hShp := hSh.put HDP.out hk0 hkK hx1 hx2
              obtain ⟨hSht, hlows⟩ := hShp.take HDP.out hk0 hkK
              have hLst0 : Gra.Lst (upn behind k (first x)) (upn first x (k : Nat) (par k)) (upn L x (k :: L x) (par k)) := hShp.lst (par k) (by omega)
              have hfil := hI.fi.link HDP.out hk0 hkK
              have hLanc : ∀ j ∈ upn L x (k :: L x) (par k), Gra.Anc par (par k) j := fun j hj => by
                have h1 := hShp.mem (par k) (by omega) j hj
                obtain ⟨y, y1, y2, y3⟩ := hx3.sd j h1.1 h1.2.1
                have h2 := hlows j hj
                have h3 : y = par k := by omega
                rw [← h3]
                exact HDP.out.hi_anc y2 (by omega)
              obtain ⟨pk, hpk⟩ : ∃ p, par k = p := ⟨_, rfl⟩
              rw [hpk] at hpkk hfr hSht hlows hLst0 hfil hLanc
              obtain ⟨P2, hP2⟩ : ∃ p, el T.ord pk = p := ⟨_, rfl⟩
              rw [hP2] at hfr
              have hpkO : pk < T.ord.length := by rw [HK.out]; omega
              have hP2n : P2 < l.length := HND.out.2.1 P2 (by rw [← hP2, ← el_eq hpkO]; exact List.getElem_mem _)
              have hnum2 : numA T.ord T.ord.length P2 = (pk : Int) := by
                have := numA_on (O := T.ord) HND.out.1 (Nat.le_refl _) hpkO hpkO
                rw [el_eq hpkO, hP2] at this
                exact this
              have hk7w : Keeps (fun q => q = b1 ∨ q = b2) wr w7 := (Keeps.of_below _ (Below.refl _ _).drew).trans hk7
              have hKp7 : Keeps (FsetN bF bl bo bb b1 b2 bnr) W3 w7 := hKp.trans (hk7w.mono fun q _ e => e.elim (fun e => .inr (.inr (.inr (.inr (.inl e))))) fun e => .inr (.inr (.inr (.inr (.inr (.inl e))))))
              have kW7 := HKW.out w7 hKp7
              have t2 := (HT2.out.keep kW7).cell 2
              have hw07 := HOLD.out.trans ((HBc.out.trans (kW7.mono HBc.out.size)).mono HOLD.out.size)
              have c2 := (HFR.out.keep hw07).cell HPN.out
              rw [hfr] at c2
              have c3 := (HNU.out.keep kW7).cell hP2n
              rw [hnum2] at c3
              have hno := HB14.out
              have hne := HNE.out
              have hown7 := hI.ow.lt
              have hI7 : LeaI bF bl bo bb K W3.heap.size k par low over best pv pl w7 := ⟨hI.fo.kept hk7w hno.2.1 hno.2.2 (fun e => e.elim (fun e => hne.2.2.2.2.2.2.1 e.symm) fun e => hne.2.2.2.2.2.2.2.2.2.1 e.symm) (fun e => e.elim (fun e => hne.2.2.2.2.2.2.2.1 e.symm) fun e => hne.2.2.2.2.2.2.2.2.2.2 e.symm),
                hI.ow.kept hk7w fun z e f => by have h1 := (hown7 z e).1; have h2 := HFLT.out; rcases f with f | f <;> omega, hI.fi, by have := hI.lt; have := hk7w.size; omega⟩
              have d1 := hI7.fo.box.cell 1
              have d2 := hI7.fo.ov.cell hkK
              have d3 := hI7.fo.ov.free k
              have hbs7 := HBS.out.kept hKp7 HBSN.out
              have d4 := hbs7.cell 0
              have d5 := hbs7.cell 1
              have ks := Keeps.set1 w7 bo k (.int .i32 (pk : Int))
              have hI8 : LeaI bF bl bo bb K W3.heap.size (k - 1) par low (upn over k (pk : Nat)) best pv pl (w7.setCell ⟨bo, k, none⟩ (.int .i32 (pk : Int))) :=
                ⟨⟨hI7.fo.box.kept ks fun e => HOFF.out.2.2.1 e.symm, hI7.fo.lo.kept ks hI7.fo.ne.1, hI7.fo.ov.set k (pk : Int), hI7.fo.be.kept ks fun e => hI7.fo.ne.2.2 e.symm, hI7.fo.ne⟩, hI7.ow.kept ks fun z e f => by have := (hI7.ow.lt z e).1; have h2 := HFLT.out; omega, hfil, by have := hI7.lt; have := ks.size; omega⟩
              have hsh8 := hsh7.kept ks hne.2.2.2.2.2.2.1 hne.2.2.2.2.2.2.2.2.2.1
              have HTAKE := Lib.hid (graTake_is (p := pk) hsh8 hKn (by omega))
              have nb1 : ¬ bs = bo := fun e => HBSN.out (.inr (.inr (.inl e)))
              have hnr8 := (hnr.kept hk7w (fun e => e.elim (fun e => hne.2.2.2.1 e) fun e => hne.2.2.2.2.1 e)).kept ks hne.2.1
              have hKp8 : Keeps (FsetN bF bl bo bb b1 b2 bnr) W3 (w7.setCell ⟨bo, k, none⟩ (.int .i32 (pk : Int))) := hKp7.trans (ks.mono fun q _ e => .inr (.inr (.inl e)))
              have H8 := Lib.hid (And.intro hI8 (And.intro hnr8 (And.intro hKp8 (And.intro hx3 (And.intro hSht (And.intro hlows hLst0))))))
              have HLA := Lib.hid hLanc
              have HPK := Lib.hid (And.intro hpk hpkk)
              obtain ⟨v0, hv0⟩ : ∃ v, upn first x (k : Nat) pk = v := ⟨_, rfl⟩
              rw [hv0] at HTAKE
              have HV0 := Lib.hid hv0
              have hpk' : (pk : Int) < K := by omega
              have hP2' : (P2 : Int) < l.length := by omega
              have hPn' : (P : Int) < l.length := by have := HPN.out; omega
              obtain ⟨ov0, hov0⟩ : ∃ v, over k = v := ⟨_, rfl⟩
              rw [hov0] at d2
              clear hI hnr hx1 hx2 hx3 hSh hKp hD0 hpkk hfr hShp hSht hlows hLst0 hfil hLanc hpk hP2 hpkO hP2n hnum2 hk7w hKp7 kW7 hw07 hno hne hown7 hI7 hbs7 ks hI8 hsh8 hnr8 hKp8 hsh7 hk7 hv0 hov0 hxK'
              go_wp2_with (go_at_call 64; ((with_reducible refine HTAKE.out.mono ?_); rintro e w8 ⟨rfl, hsh8, hk8⟩); have HSH8 := Lib.hid hsh8; have HK8 := Lib.hid hk8; clear hsh8 hk8)
              obtain ⟨hI8, hnr8, hKp8, hx3, hSht, hlows, hLst0⟩ := H8.out
              have hK8 := HK8.out
              have hfl := HFLT.out
              have hne := HNE.out
              have hof := HOFF.out
              have hKp9 : Keeps (FsetN bF bl bo bb b1 b2 bnr) W3 w8 := hKp8.trans (hK8.mono fun q _ e => .inr (.inr (.inr (.inr (.inl e)))))
              have hI9 : LeaI bF bl bo bb K W3.heap.size (k - 1) par low (upn over k (pk : Nat)) best pv pl w8 :=
                ⟨hI8.fo.kept hK8 (fun e => hof.1.1 e.symm) (fun e => hne.2.2.2.2.2.1 e.symm) (fun e => hne.2.2.2.2.2.2.1 e.symm) (fun e => hne.2.2.2.2.2.2.2.1 e.symm), hI8.ow.kept hK8 fun z e f => by have := (hI8.ow.lt z e).1; omega, hI8.fi, by have := hI8.lt; have := hK8.size; omega⟩
              have hnr9 := hnr8.kept hK8 hne.2.2.2.1
              rw [HV0.out] at hLst0
              have HIN9 := Lib.hid (show NeaB par K W3.heap.size bF bl bo bb b1 b2 bnr k pk low (upn (upn first x (k : Nat)) pk (-1)) (upn behind k (first x)) (upn (upn L x (k :: L x)) pk []) W3 (upn L x (k :: L x) pk).length (.int .i32 v0) w8 from
                ⟨upn L x (k :: L x) pk, v0, near, _, best, pv, pl, rfl, hLst0, hI9, HSH8.out, hnr9, hSht, HSB.out.2, hlows, HLA.out, hKp9, Nat.le_refl _⟩)
              have HX3 := Lib.hid hx3
              obtain ⟨first8, hf8⟩ : ∃ f, upn (upn first x (k : Nat)) pk (-1) = f := ⟨_, rfl⟩
              obtain ⟨behind8, hb8⟩ : ∃ f, upn behind k (first x) = f := ⟨_, rfl⟩
              obtain ⟨L8, hL8⟩ : ∃ f, upn (upn L x (k :: L x)) pk [] = f := ⟨_, rfl⟩
              obtain ⟨g0, hg0⟩ : ∃ f, (upn L x (k :: L x) pk).length = f := ⟨_, rfl⟩
              rw [hf8, hb8, hL8, hg0] at HIN9
              clear hI8 hnr8 hKp8 hx3 hSht hlows hLst0 hK8 hfl hne hof hKp9 hI9 hnr9 hf8 hb8 hL8 hg0 t2 c2 c3 d1 d2 d3 d4 d5 nb1
              go_loopg [16] g0 (fun g v wr => NeaB par K W3.heap.size bF bl bo bb b1 b2 bnr k pk low first8 behind8 L8 W3 g v wr)
              case atStart => exact HIN9.out
              case round =>
                obtain ⟨R, vx, near, over, best, pv, pl, rfl, hLst, hI, hsh, hnr, hSh, hnb, hlow, hanc, hKp, hg⟩ := hrel
                match R, hLst, hSh, hlow, hanc, hg with
                | [], hLst, hSh, _, _, _ =>
                  have hvx : vx = -1 := hLst
                  subst hvx
                  have HE := Lib.hid (And.intro hI (And.intro hsh (And.intro hnr (And.intro hSh (And.intro hnb hKp)))))
                  clear hI hsh hnr hSh hnb hKp hLst
                  go_wp2
                  have hwk : IntKind.i32.wrap ((k : Int) - 1) = (k : Int) - 1 := IntWalk.i32_in _ (by omega)
                  go_roundw
                  case rel =>
                    obtain ⟨hI, hsh, hnr, hSh, hnb, hKp⟩ := HE.out
                    exact ⟨k, by omega, by go_num, low, over, best, pv, pl, first8, behind8, near, L8, hI, hsh, hnr, HX3.out, hSh, hnb, hKp⟩
                  case measure => simp [intOf]
                | j :: R, hLs2, hSh2, hlow2, hanc2, hg2 =>
                  obtain ⟨hvj, hLs3⟩ := hLs2
                  subst hvj
                  have hjk := hSh2.rem j (by simp)
                  have HJ0 := Lib.hid (show 0 < j by omega)
                  have hjK := hjk.2
                  have hjk' : (j : Int) < K := by omega
                  have f0 := hnr.free j
                  have d0 := hnr.cell hjK
                  obtain ⟨nv, hnv⟩ : ∃ v, near j = v := ⟨_, rfl⟩
                  rw [hnv] at d0
                  have hne := HNE.out
                  have hof := HOFF.out
                  have ks := Keeps.set1 wr bnr j (.int .i32 (pk : Int))
                  have hI2 : LeaI bF bl bo bb K W3.heap.size (k - 1) par low over best pv pl (wr.setCell ⟨bnr, j, none⟩ (.int .i32 (pk : Int))) :=
                    ⟨hI.fo.kept ks (fun e => hof.1.2.2 e.symm) (fun e => hne.1 e.symm) (fun e => hne.2.1 e.symm) (fun e => hne.2.2.1 e.symm), hI.ow.kept ks fun z e f => by have := (hI.ow.lt z e).1; have := HFLT.out; omega, hI.fi, by have := hI.lt; have := ks.size; omega⟩
                  have HLEA := Lib.hid (graLeast_is HDP.out hI2 hKn hjK)
                  have hsh2 := hsh.kept ks (fun e => hne.2.2.2.1 e.symm) (fun e => hne.2.2.2.2.1 e.symm)
                  have hnr2 := hnr.set j (pk : Int)
                  have hKp2 : Keeps (FsetN bF bl bo bb b1 b2 bnr) W3 (wr.setCell ⟨bnr, j, none⟩ (.int .i32 (pk : Int))) := hKp.trans (ks.mono fun q _ e => .inr (.inr (.inr (.inr (.inr (.inr e))))))
                  have H2 := Lib.hid (And.intro hsh2 (And.intro hnr2 (And.intro hKp2 (And.intro hSh2 (And.intro hnb (And.intro hlow2 (And.intro hanc2 (And.intro hg2 hLs3))))))))
                  have HOWL := Lib.hid (show ∀ z, pv.ownBlock = some z → W3.heap.size ≤ z from fun z e => (hI.ow.lt z e).1)
                  clear hSh2 hlow2 hanc2 hg2 hLs3
                  clear hI hsh hnr hSh hnb hlow hanc hKp hg hLst hjk hnv hne hof ks hI2 hsh2 hnr2 hKp2 HIN9
                  go_upto_region 22 with (go_at_call 62; ((with_reducible refine HLEA.out.mono ?_); rintro e w9 ⟨u, over9, best9, pv9, pl9, rfl, hI9, hu9, hl9, hk9, hn9⟩); have HI9 := Lib.hid hI9; have HU9 := Lib.hid (And.intro hu9 hl9); have HK9 := Lib.hid hk9; clear hI9 hl9 hk9 hn9)
                  obtain ⟨hsh2, hnr2, hKp2, hSh, hnb, hlow, hanc, hg, hLst⟩ := H2.out
                  have hI9 := HI9.out
                  have hne := HNE.out
                  have hof := HOFF.out
                  have hfl := HFLT.out
                  have hno : ∀ {z : Nat}, z < W3.heap.size → z ≠ bF → z ≠ bo → z ≠ bb → ¬ (z = bF ∨ z = bo ∨ z = bb ∨ pv.ownBlock = some z) := fun h1 h2 h3 h4 e => by
                    rcases e with e | e | e | e
                    · exact h2 e
                    · exact h3 e
                    · exact h4 e
                    · have := HOWL.out _ e; omega
                  have hsh9 := hsh2.kept HK9.out (hno hfl.2.1 hof.1.1 hne.2.2.2.2.2.2.1 hne.2.2.2.2.2.2.2.1) (hno hfl.2.2.1 hof.1.2.1 hne.2.2.2.2.2.2.2.2.2.1 hne.2.2.2.2.2.2.2.2.2.2)
                  have hnr9 := hnr2.kept HK9.out (hno hfl.2.2.2 hof.1.2.2 hne.2.1 hne.2.2.1)
                  have hKp9 : Keeps (FsetN bF bl bo bb b1 b2 bnr) W3 w9 := hKp2.next HK9.out fun z hz e => by
                    rcases e with e | e | e | e
                    · exact .inl e
                    · exact .inr (.inr (.inl e))
                    · exact .inr (.inr (.inr (.inl e)))
                    · have := HOWL.out _ e; omega
                  have hls : Gra.LeastU par (k - 1) low j u := by
                    rcases HU9.out.2 with h | h
                    · have := (hSh.rem j (by simp)).1; omega
                    · exact h.2
                  have htold := hSh.told HDP.out hk0 hkK (by rw [HPK.out.1]; exact hlow j (by simp)) (by rw [HPK.out.1]; exact hanc j (by simp)) hls
                  rw [HPK.out.1] at htold
                  have hbs9 := HBS.out.kept hKp9 HBSN.out
                  have d0' := hI9.fo.box.cell 0
                  have d1' := hI9.fo.lo.cell HU9.out.1
                  obtain ⟨lu, hlu⟩ : ∃ v, low u = v := ⟨_, rfl⟩
                  rw [hlu] at d1' htold
                  have d2' := hbs9.cell 1
                  have d3' := hsh9.be.cell hjK
                  have f3' := hnr9.free j
                  have d4' := hnr9.cell hjK
                  rw [upn_at] at d4'
                  obtain ⟨nx, hnx⟩ : ∃ v, behind8 j = v := ⟨_, rfl⟩
                  rw [hnx] at d3' hLst
                  have hu' : (u : Int) < K := by have := HU9.out.1; omega
                  have H9 := Lib.hid (And.intro hI9 (And.intro hsh9 (And.intro hnr9 (And.intro hKp9 (And.intro htold (And.intro hnb (And.intro hlow (And.intro hanc (And.intro hg hLst)))))))))
                  have nb1 : ¬ bs = bnr := fun e => HBSN.out (.inr (.inr (.inr (.inr (.inr (.inr e))))))
                  have nb2 : ¬ b2 = bnr := fun e => hne.2.2.2.2.1 e.symm
                  clear hsh2 hnr2 hKp2 hSh hnb hlow hanc hg hLst hI9 hne hof hfl hno hsh9 hnr9 hKp9 hls htold hbs9 hlu hnx
                  by_cases hlt : lu < (pk : Int)
                  · go_wp2
                    go_roundg R.length
                    case measure => have := H9.out.2.2.2.2.2.2.2.2.1; simp only [List.length_cons] at this; omega
                    case rel =>
                      obtain ⟨hI9, hsh9, hnr9, hKp9, htold, hnb, hlow, hanc, hg, hLst⟩ := H9.out
                      have hne := HNE.out
                      have hof := HOFF.out
                      have ks := Keeps.set1 w9 bnr j (.int .i32 (u : Int))
                      rw [if_pos hlt] at htold
                      refine ⟨R, nx, _, over9, best9, pv9, pl9, rfl, hLst, ⟨hI9.fo.kept ks (fun e => hof.1.2.2 e.symm) (fun e => hne.1 e.symm) (fun e => hne.2.1 e.symm) (fun e => hne.2.2.1 e.symm), hI9.ow.kept ks fun z e f => by have := (hI9.ow.lt z e).1; have := HFLT.out; omega, hI9.fi, by have := hI9.lt; have := ks.size; omega⟩,
                        hsh9.kept ks (fun e => hne.2.2.2.1 e.symm) (fun e => hne.2.2.2.2.1 e.symm), (hnr9.set j (u : Int)).eq fun i _ => ?_, htold, fun i hi => ?_, fun i hi => hlow i (List.mem_cons_of_mem _ hi), fun i hi => hanc i (List.mem_cons_of_mem _ hi), hKp9.trans (ks.mono fun q _ e => .inr (.inr (.inr (.inr (.inr (.inr e)))))), Nat.le_refl _⟩
                      · unfold upn; split <;> rfl
                      · unfold upn; split
                        · have := HJ0.out; exact ⟨by omega, by omega, fun h0 => by omega⟩
                        · exact hnb i hi
                  · go_wp2
                    go_roundg R.length
                    case measure => have := H9.out.2.2.2.2.2.2.2.2.1; simp only [List.length_cons] at this; omega
                    case rel =>
                      obtain ⟨hI9, hsh9, hnr9, hKp9, htold, hnb, hlow, hanc, hg, hLst⟩ := H9.out
                      rw [if_neg (show ¬ lu < (pk : Int) by omega)] at htold
                      refine ⟨R, nx, _, over9, best9, pv9, pl9, rfl, hLst, hI9, hsh9, hnr9, htold, fun i hi => ?_, fun i hi => hlow i (List.mem_cons_of_mem _ hi), fun i hi => hanc i (List.mem_cons_of_mem _ hi), hKp9, Nat.le_refl _⟩
                      unfold upn; split
                      · have := HJ0.out; exact ⟨by omega, by omega, fun h0 => by omega⟩
                      · exact hnb i hi
        · skip
          obtain ⟨W4, hW4⟩ : ∃ W4, W4 = wr := ⟨_, rfl⟩
          subst hW4
          have hS := HS.out
          rw [show j - 1 = 0 by omega] at hS
          obtain ⟨low, over, best, pv, pl, first, behind, near, L, hI, hsh, hnr, hLo, hSh, hnb, hKp⟩ := hS
          have hj1 : ¬ (0 : Int) < ((j : Int) - 1) := by omega
          have HNK := Lib.hid (show Gra.NearK K par low 1 near from ⟨fun j hj => ⟨(hnb j hj).1, (hnb j hj).2.1⟩, fun i hi hi0 hm => (hSh.end (by
            have h1 := (HD.out (by rw [HK.out]; omega)).deep
            rw [HK.out] at h1
            exact h1) hLo) i hi0 hm, fun i h1 h2 => by omega⟩)
          have HI4 := Lib.hid (And.intro hI (And.intro hLo hKp))
          have HNR4 := Lib.hid hnr
          have HN00 := Lib.hid (show 0 < K → near 0 = 0 from fun h => (hnb 0 h).2.2 rfl)
          clear hI hsh hnr hLo hSh hnb hKp hlt HS HST
          go_wp2
          go_loopw [18] (fun v wx => ∃ (i : Nat) (nr : Nat → Int), v = .int .i64 i ∧ 1 ≤ i ∧ (i ≤ K ∨ K = 0) ∧ (Gra.NearK K par low i nr ∧ (0 < K → nr 0 = 0)) ∧ Ar .i32 21 bnr K nr wx ∧ Keeps (fun q => q = bnr) W4 wx) (fun v _ => K - (intOf v).toNat)
          case atStart => exact ⟨1, near, rfl, Nat.le_refl _, by omega, ⟨HNK.out, HN00.out⟩, HNR4.out, Keeps.refl _ _⟩
          case round =>
            obtain ⟨i, nr, rfl, hi1, hiK, ⟨hNK, hn00⟩, hA, hK2⟩ := hrel
            have HN0 := Lib.hid hn00
            clear hn00
            by_cases hlt : i < K
            · have hlt' : (i : Int) < K := by omega
              have hne := HNE.out
              have hof := HOFF.out
              have hbox := HI4.out.1.fo.box.kept hK2 fun e => hof.1.2.2 e.symm
              have hlo := HI4.out.1.fo.lo.kept hK2 fun e => hne.1 e.symm
              have d0 := hbox.cell 0
              have d1 := hlo.cell hlt
              have d2 := hA.cell hlt
              have f2 := hA.free i
              obtain ⟨nk1, nk2⟩ := hNK.lt i hlt
              obtain ⟨nk, hnk⟩ : ∃ x : Nat, nr i = x := ⟨(nr i).toNat, by omega⟩
              have hnkK : nk < K := by omega
              have hnk' : (nk : Int) < K := by omega
              have d3 := hA.cell hnkK
              obtain ⟨nn, hnn⟩ : ∃ x, nr nk = x := ⟨_, rfl⟩
              obtain ⟨lk, hlk⟩ : ∃ x, low i = x := ⟨_, rfl⟩
              rw [hnk] at d2
              rw [hnn] at d3
              rw [hlk] at d1
              have hnext := hNK.next (by omega) hlt
              rw [hnk, hlk, Int.toNat_natCast, hnn] at hnext
              have HH := Lib.hid (And.intro hnext (And.intro hA hK2))
              clear hNK hA hK2 hbox hlo hne hof hnk hnn hlk hnext nk1 nk2 hlt
              by_cases heq : (nk : Int) = lk
              · have heq2 : ((nk : Int) != lk) = false := by simp [heq]
                have HEQ := Lib.hid heq
                clear heq
                go_wp2
                go_quiet (fail)
                go_wp2
                go_roundw
                case rel =>
                  obtain ⟨hnext, hA, hK2⟩ := HH.out
                  rw [if_pos HEQ.out] at hnext
                  exact ⟨i + 1, nr, by go_num, by omega, .inl (by omega), ⟨hnext, HN0.out⟩, hA, hK2.next (Keeps.of_below (fun _ => False) (below_drewN (Below.refl _ _) _)) fun q _ e => e.elim⟩
                case measure => simp [intOf]; omega
              · have heq2 : ((nk : Int) != lk) = true := by simp [heq]
                have HEQ := Lib.hid heq
                clear heq
                go_wp2
                go_quiet (fail)
                go_wp2
                go_roundw
                case rel =>
                  obtain ⟨hnext, hA, hK2⟩ := HH.out
                  rw [if_neg HEQ.out] at hnext
                  exact ⟨i + 1, _, by go_num, by omega, .inl (by omega), ⟨hnext, fun h => by rw [upn_off nr nn (show 0 ≠ i by omega)]; exact HN0.out h⟩, hA.set i nn, (hK2.next (Keeps.of_below (fun _ => False) (below_drewN (Below.refl _ _) _)) fun q _ e => e.elim).trans (Keeps.set1 _ _ _ _)⟩
                case measure => simp [intOf]; omega
            · have HH := Lib.hid (And.intro hNK (And.intro hA (And.intro hK2 hiK)))
              clear hNK hA hK2 hiK
              go_wp2
              go_ret
              obtain ⟨hNK, hA, hK2, hiK⟩ := HH.out
              have hNKK : Gra.NearK K par low K nr := by
                rcases hiK with h | h
                · obtain rfl : i = K := by omega
                  exact hNK
                · subst h
                  exact ⟨fun j hj => by omega, fun j h1 h2 h3 => by omega, fun j h1 h2 => by omega⟩
              have hle := HLE.out
              have hk4 := HI4.out.2.2
              have hb4 := HKW.out W4 hk4
              have hs1 := HBc.out.size
              have hb5 := HBc.out.trans (hb4.mono hs1)
              refine ⟨bnr, nr, rfl, hA, ⟨low, by rw [HK.out]; exact hNKK, by rw [HK.out]; exact HI4.out.2.1, by rw [HK.out]; exact HN0.out⟩, by omega, hK2.below hb5 hb5.size fun q e => by omega⟩
end Go.Proofs.YtggiaopdgijgnaaGreatDoor
