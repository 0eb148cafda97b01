/- Package graph: Next; ways, read, asked for. Conditions: words are words; no more than 60 of them. -/
import Derived.Test.YtggiaopdgijgnaaDoorGraB
namespace Go.Proofs.YtggiaopdgijgnaaDoor
open Go.RowKit Go.IntWalk

/-- Where it may go on from any place. -/
def nextL (l : List Int) (p : Int) : List Int := if 0 ≤ p ∧ p < l.length then nxl l p.toNat else []
theorem nextL_nat {l : List Int} {k : Nat} (h : k < l.length) : nextL l k = nxl l k := by
  unfold nextL
  rw [if_pos (by omega)]
  rfl
theorem Keeps.none {w w' : World} (h : Keeps (fun j => (Value.slice none 0 0).ownBlock = some j) w w') : Below w.heap.size w w' :=
  (h.mono (G := fun _ => False) fun _ _ e => nomatch e).nought
set_option maxRecDepth 100000 in
theorem graNext_is {l : List Int} {a : Option Addr} {n c : Nat} {w : World} (p : Int) (h : Ws .u32 w a n c l) (hn : n ≤ 60) (hs : ShapesLaid w) (hb : ∀ i, i < l.length → 0 ≤ byAt l i ∧ byAt l i < 4294967296) :
    Calls Tryd.prog 7 #[.slice a n c, .int .i64 p] w fun e w' => ∃ v, e = .returned v ∧ OwnW .i64 w' w.heap.size 3 v (nextL l p) ∧ Below w.heap.size w w' := by
  obtain ⟨i0, hi, hz0, hz1, hz2⟩ := info_parts infoI64
  have hl := h.len
  by_cases h0 : 0 ≤ p ∧ p < n
  · obtain ⟨h1, h2⟩ := h0
    obtain ⟨k, rfl⟩ : ∃ k : Nat, p = k := ⟨p.toNat, by omega⟩
    rw [nextL_nat (by omega)]
    have d1 : decide ((n : Int) ≤ (k : Int)) = false := by simp; omega
    have d2 : decide (n ≤ k) = false := by simp; omega
    have hO := graOnward_is (pc := k) (OwnW.nil w w.heap.size 21) (by simp) (Nat.le_refl _) h hn (by omega) hs hb
    simp only [List.nil_append] at hO
    have hn' : (n : Int) ≤ 60 := by omega
    have HNL := Lib.hid (nxl_len l k)
    have HNI := Lib.hid (fun q (hq : q ∈ nxl l k) => nxl_in hq)
    obtain ⟨L, hL⟩ : ∃ L, nxl l k = L := ⟨_, rfl⟩
    rw [hL] at hO HNL HNI ⊢
    have HO := Lib.hid hO
    rw [hl] at HNI
    clear h hs hb hl hL hO
    go_enter Tryd.func7, Tryd.ntmps7
    go_wp2_with (go_at_call 22; ((with_reducible refine (HO.out).mono ?_); rintro e w1 ⟨v, rfl, ho, hk, -⟩); obtain ⟨a1, c1, rfl, hw2⟩ := ho.ws; have HW := Lib.hid hw2; have HK := Lib.hid (Keeps.none hk); clear ho hk hw2)
    obtain ⟨m, hm⟩ : ∃ m, L.length = m := ⟨_, rfl⟩
    rw [hm] at HW HNL ⊢
    have HM := Lib.hid hm
    have hmb : (m : Int) ≤ 2 := by have := HNL.out; omega
    clear hm
    go_loopw [20, 5, 7] (fun i u _ wr => ∃ j : Nat, j ≤ m ∧ i = .int .i64 j ∧ OwnW .i64 wr w1.heap.size 3 u (L.take j) ∧ Below w1.heap.size w1 wr) (fun i _ _ _ => m - (intOf i).toNat)
    case atStart => exact ⟨0, by omega, rfl, by rw [List.take_zero]; exact OwnW.nil _ _ _, Below.refl _ _⟩
    case round =>
      obtain ⟨j, hj, rfl, ho, hk⟩ := hrel
      have HO := Lib.hid ho
      have HB := Lib.hid hk
      have hsz := hk.size
      by_cases hlt : j < m
      · have hlt' : (j : Int) < m := by omega
        obtain ⟨g, off, rfl, hc⟩ := (HW.out.keep hk).lie (by omega)
        have c0 := hc j hlt
        obtain ⟨x, hx⟩ : ∃ x, byAt L j = x := ⟨_, rfl⟩
        rw [hx] at c0
        have HT := Lib.hid (show L.take (j + 1) = L.take j ++ [x] by
          rw [List.take_succ_eq_append_getElem (by rw [HM.out]; exact hlt), byAt_eq, hx])
        have hxb := HNI.out x (by rw [← hx, ← byAt_eq (by rw [HM.out]; exact hlt)]; exact List.getElem_mem _)
        obtain ⟨x0, x1⟩ := hxb
        have hln : (L.take j).length ≤ 2 := by have := HNL.out; rw [List.length_take]; omega
        clear ho hk hx hc hlt
        go_wp2_with (at_builtin; refine wpList_append_1 rfl _ _ 25 rfl w1.heap.size 3 i0 (.int .i64 0) Tryd.underlying25 hi hz0 hz1 (by omega) rfl rfl (HO.out.keep ((Below.refl _ _).alloc (Nat.le_refl _) _)) rfl ((BlkAt.new _ _ _).cell 0) (by omega) (by simp; omega) ?_; intro v' w' hown hgr hnx)
        have hob := HO.out.lt
        go_roundw
        case rel => exact ⟨j + 1, by omega, by go_num, by rw [HT.out]; exact hown, (HB.out.alloc hsz _).grown hgr (by simp; omega) fun q hq => (hob q hq).1⟩
        case measure => simp [intOf]; omega
      · obtain rfl : j = m := by omega
        clear ho hk
        go_wp2
        go_ret
        have h1 := HK.out.size
        exact ⟨_, rfl, by rw [← List.take_length (l := L), HM.out]; exact HO.out.mono h1, HK.out.trans (HB.out.mono h1)⟩
  · have e : nextL l p = [] := by unfold nextL; rw [if_neg (by rw [hl]; exact h0)]
    rw [e]
    clear e h hb hs hl
    by_cases h1 : 0 ≤ p
    · have d1 : decide ((n : Int) ≤ p) = true := by simp; omega
      go_enter Tryd.func7, Tryd.ntmps7
      go_wp2
      go_ret
      exact ⟨_, rfl, OwnW.nil _ _ _, Below.refl _ _⟩
    · go_enter Tryd.func7, Tryd.ntmps7
      go_wp2
      go_ret
      exact ⟨_, rfl, OwnW.nil _ _ _, Below.refl _ _⟩

/-! ### Ways -/
def endsL (L : List (List Int)) : List Int := (List.range (L.length + 1)).map fun k => ((L.take k).flatten.length : Int)
theorem endsL_len (L : List (List Int)) : (endsL L).length = L.length + 1 := by simp [endsL]
theorem endsL_at (L : List (List Int)) {k : Nat} (h : k ≤ L.length) : byAt (endsL L) k = ((L.take k).flatten.length : Int) := by
  unfold endsL byAt
  rw [List.getD_eq_getElem?_getD, List.getElem?_map, List.getElem?_range (by omega)]
  rfl
theorem endsL_snoc (L : List (List Int)) (x : List Int) : endsL (L ++ [x]) = endsL L ++ [((L ++ [x]).flatten.length : Int)] := by
  unfold endsL
  rw [List.length_append, List.length_singleton, List.range_succ (n := L.length + 1), List.map_append]
  congr 1
  · apply List.map_congr_left
    intro k hk
    rw [List.take_append_of_le_length (by have := List.mem_range.1 hk; omega)]
  · rw [List.map_singleton, List.take_of_length_le (by simp)]
/-- Ways lie in memory: the places to which each leads, one behind the other; where those of each begin and end. -/
structure WaysAt (w : World) (a : Option Addr) (m c : Nat) (a' : Option Addr) (n1 c' : Nat) (L : List (List Int)) : Prop where
  tos : Ws .i32 w a m c L.flatten
  ends : Ws .i32 w a' n1 c' (endsL L)
theorem WaysAt.keep {w w' : World} {a a' : Option Addr} {m c n1 c' : Nat} {L : List (List Int)} (h : WaysAt w a m c a' n1 c' L) (k : Below w.heap.size w w') : WaysAt w' a m c a' n1 c' L := ⟨h.tos.keep k, h.ends.keep k⟩
theorem WaysAt.len {w : World} {a a' : Option Addr} {m c n1 c' : Nat} {L : List (List Int)} (h : WaysAt w a m c a' n1 c' L) : n1 = L.length + 1 := by rw [← h.ends.len, endsL_len]
/-- A value of ways. -/
def WaysV (w : World) (v : Value) (L : List (List Int)) : Prop := ∃ a m c a' n1 c', v = .agg #[.slice a m c, .slice a' n1 c'] ∧ WaysAt w a m c a' n1 c' L ∧ ∀ b off, a = some ⟨b, off, none⟩ → b < w.heap.size
def wayL (l : List Int) (n : Nat) : List (List Int) := (List.range n).map (nxl l)
theorem wayL_succ (l : List Int) (n : Nat) : wayL l (n + 1) = wayL l n ++ [nxl l n] := by simp [wayL, List.range_succ]
theorem wayL_len (l : List Int) (n : Nat) : (wayL l n).length = n := by simp [wayL]
theorem wayL_flat (l : List Int) (n : Nat) : (wayL l n).flatten.length ≤ 2 * n := by
  induction n with
  | zero => simp [wayL]
  | succ n ih =>
    rw [wayL_succ, List.flatten_append, List.length_append]
    have := nxl_len l n
    rw [show [nxl l n].flatten = nxl l n by simp]
    omega
theorem graSize_is {w : World} {n : Nat} (x : Value) (a' : Option Addr) (c' : Nat) (hn : n ≤ 100) :
    Calls Tryd.prog 47 #[.agg #[x, .slice a' (n + 1) c']] w fun e w' => e = .returned (.int .i64 n) ∧ Below w.heap.size w w' := by
  have hn' : (n : Int) ≤ 100 := by omega
  go_enter Tryd.func47, Tryd.ntmps47
  go_wp2
  go_ret
  exact ⟨rfl, (Below.refl _ _).alloc (Nat.le_refl _) _⟩
structure ReadR (w : World) (b : Nat) (l : List Int) (k : Nat) (a : Option Addr) (m c : Nat) (a' : Option Addr) (c' : Nat) (wr : World) : Prop where
  box : BlkAt b 51 #[.slice a m c, .slice a' (k + 1) c'] wr
  tos : OwnW .i32 wr w.heap.size 21 (.slice a m c) (wayL l k).flatten
  ends : OwnW .i32 wr w.heap.size 21 (.slice a' (k + 1) c') (endsL (wayL l k))
  ne : ∀ j, (Value.slice a m c).ownBlock = some j → (Value.slice a' (k + 1) c').ownBlock ≠ some j
  bel : Below w.heap.size w wr
set_option maxRecDepth 100000 in
set_option maxHeartbeats 1000000 in
theorem graRead_is {l : List Int} {a : Option Addr} {n c : Nat} {w : World} (h : Ws .u32 w a n c l) (hn : n ≤ 60) (hs : ShapesLaid w) (hb : ∀ i, i < l.length → 0 ≤ byAt l i ∧ byAt l i < 4294967296) :
    Calls Tryd.prog 25 #[.slice a n c] w fun e w' => ∃ v, e = .returned v ∧ WaysV w' v (wayL l n) ∧ Below w.heap.size w w' := by
  obtain ⟨i0, hi, hz0, hz1, hz2⟩ := info_parts infoI32
  have hcap := h.cap
  have hbig := h.big
  unfold maxLen at hbig
  have HL := Lib.hid h
  have HS := Lib.hid hs
  have HB := Lib.hid hb
  have hn' : (n : Int) ≤ 60 := by omega
  clear h hs hb
  go_enter Tryd.func25, Tryd.ntmps25
  go_wp2_with (at_make; refine wpList_make_zeros _ rfl _ _ 38 rfl 21 i0 Tryd.underlying38 hi hz0 hz1 _ _ _ 1 (n + 1) rfl rfl (by omega) (by omega) (by rw [hz2]; omega) (by unfold maxLen; omega) ?_; intro w2 hown hw2)
  obtain ⟨W0, hW0⟩ : ∃ W0, ((w.alloc (.cells #[.slice none 0 0, .slice none 0 0] 51)).alloc (.cells (fnArr (n + 1) fun _ => .int .i32 0) 21)).alloc (.cells #[.slice none 0 0, .slice (some ⟨w.heap.size + 1, 0, none⟩) 1 (n + 1)] 51) = W0 := ⟨_, rfl⟩
  have HR0 := Lib.hid (show ReadR w (w.heap.size + 1 + 1) l 0 none 0 0 (some ⟨w.heap.size + 1, 0, none⟩) (n + 1) W0 from by
    rw [← hW0]
    refine ⟨BlkAt.newb _ _ _ (by simp), OwnW.nil _ _ _, ?_, fun j e => (nomatch e), ?_⟩
    · subst hw2
      simp only [World.size_alloc] at hown
      exact (hown.keep ((Below.refl _ _).alloc (Nat.le_refl _) _)).mono (Nat.le_succ _)
    · exact (((Below.refl _ _).alloc (Nat.le_refl _) _).alloc (by simp) _).alloc (by simp; omega) _)
  have H2 := Lib.hid (show BlkAt w.heap.size 51 #[.slice none 0 0, .slice none 0 0] W0 from by
    rw [← hW0]
    exact (BlkAt.new _ _ _).keep (((Below.refl _ _).alloc (Nat.le_refl _) _).alloc (by simp) _))
  have hz : w.heap.size + 1 + 1 < W0.heap.size := by rw [← hW0]; simp
  rw [hW0]
  clear hW0 hown hw2
  obtain ⟨bx, hbx⟩ : ∃ bx, w.heap.size + 1 + 1 = bx := ⟨_, rfl⟩
  rw [hbx] at HR0 ⊢
  have hbw : w.heap.size < bx := by omega
  clear hbx hz
  go_loopw [12, 4] (fun i _ wr => ∃ k : Nat, k ≤ n ∧ i = .int .i64 k ∧ ∃ a m c a' c', ReadR w bx l k a m c a' c' wr ∧ BlkAt w.heap.size 51 #[.slice none 0 0, .slice none 0 0] wr) (fun i _ _ => n - (intOf i).toNat)
  case atStart => exact ⟨0, by omega, rfl, _, _, _, _, _, HR0.out, H2.out⟩
  case round =>
    obtain ⟨k, hk, rfl, a1, m1, c1, a2, c2, hR, h2⟩ := hrel
    have HR := Lib.hid hR
    have H2r := Lib.hid h2
    have g0 := hR.box.cell 0
    have g1 := hR.box.cell 1
    simp only [List.getElem?_toArray, List.getElem?_cons_zero, List.getElem?_cons_succ] at g0 g1
    have f0 := hR.box.free 0
    have f1 := hR.box.free 1
    have hbl := hR.box.lt
    by_cases hlt : k < n
    · have hlt' : (k : Int) < n := by omega
      have hfl := wayL_flat l k
      have hO := graOnward_is (w := wr) (pc := k) hR.tos (by omega) hR.bel.size (HL.out.keep hR.bel) hn hlt (HS.out.below hR.bel HS.out.lt) HB.out
      rw [show (wayL l k).flatten ++ nxl l k = (wayL l (k + 1)).flatten by rw [wayL_succ, List.flatten_append]; simp] at hO
      obtain ⟨m3, hm3⟩ : ∃ m, (wayL l (k + 1)).flatten.length = m := ⟨_, rfl⟩
      have hm3b : (m3 : Int) ≤ 200 := by have := wayL_flat l (k + 1); omega
      have HEL := Lib.hid (show (endsL (wayL l k)).length = k + 1 by rw [endsL_len, wayL_len])
      have HES := Lib.hid (show endsL (wayL l (k + 1)) = endsL (wayL l k) ++ [(m3 : Int)] by rw [wayL_succ, endsL_snoc, ← wayL_succ, hm3])
      have HM3 := Lib.hid hm3
      have HO := Lib.hid hO
      clear hR hlt hO hfl hm3
      have q0 := h2.cell 0
      have q1 := h2.cell 1
      clear h2
      go_wp2_with (first
        | (go_at_call 22; ((with_reducible refine (HO.out).mono ?_); rintro e w3 ⟨v3, rfl, ho, hk3, hn3⟩); obtain ⟨a3, c3, rfl, hw3⟩ := ho.wsn HM3.out; have HO3 := Lib.hid ho; have HK3 := Lib.hid hk3; have HN3 := Lib.hid hn3; have hs3 := hk3.size; have hx3 := HR.out.box.kept hk3 (fun e => own_off_type HR.out.tos HR.out.box (by decide) e); have HX3 := Lib.hid hx3; have HE3 := Lib.hid (HR.out.ends.kept hk3 (fun j e f => HR.out.ne j f e)); have g30 := hx3.cell 0; have g31 := hx3.cell 1; have f30 := hx3.free 0; have f31 := hx3.free 1; clear ho hk3 hn3 hw3 hx3 g0 g1 f0 f1)
        | (at_builtin; refine wpList_append_1 rfl _ _ 38 rfl w.heap.size 21 i0 (.int .i32 0) Tryd.underlying38 hi hz0 hz1 (by omega) rfl rfl ((HE3.out.kept (Keeps.set1 _ bx _ _) (fun j e f => own_off_type HE3.out HX3.out (by decide) (f ▸ e))).keep ((Below.refl _ _).alloc (Nat.le_refl _) _)) rfl ((BlkAt.newb _ _ _ (by simp)).cell 0) (by have := HEL.out; omega) (by have := HR.out.bel.size; simp; omega) ?_; intro v' w' hown hgr hnx; obtain ⟨a4, c4, rfl, -⟩ := hown.wsn (m := k + 1 + 1) (by rw [List.length_append, HEL.out]; rfl); have kg := Keeps.of_grown (F := fun j => (Value.slice a2 (k + 1) c2).ownBlock = some j) hgr fun j e => e; have hx5 := (((HX3.out.set 0 (.slice a3 m3 c3)).keep ((Below.refl _ _).alloc (Nat.le_refl _) _)).kept kg (fun e => own_off_type HE3.out HX3.out (by decide) e)); have HX5 := Lib.hid hx5; have KG := Lib.hid kg; have HNX := Lib.hid hnx; have HOW := Lib.hid hown; have g50 := hx5.cell 1; have f51 := hx5.free 1; clear kg hx5 hnx hown hgr))
      go_roundw
      case rel =>
        have hw4 := ((Keeps.set1 w3 bx 0 (.slice a3 m3 c3)).trans (Keeps.of_below _ ((Below.refl _ _).alloc (Nat.le_refl _) (.cells #[.int .i32 m3] 21))))
        have hob := HE3.out.lt
        have hot := HO3.out.lt
        have hxe : (Value.slice a2 (k + 1) c2).ownBlock ≠ some bx := fun e => own_off_type HE3.out HX3.out (by decide) e
        have hxt : (Value.slice a3 m3 c3).ownBlock ≠ some bx := fun e => own_off_type HO3.out HX3.out (by decide) e
        have hne : ∀ j, (Value.slice a3 m3 c3).ownBlock = some j → (Value.slice a2 (k + 1) c2).ownBlock ≠ some j := fun j e f => (HN3.out j e).elim (fun g => HR.out.ne j g f) fun g => by have := (HR.out.ends.lt j f).2; omega
        have kg := KG.out
        have kall : Keeps (fun j => (Value.slice a1 m1 c1).ownBlock = some j ∨ j = bx ∨ (Value.slice a2 (k + 1) c2).ownBlock = some j) wr (w'.setCell ⟨bx, 1, none⟩ (.slice a4 (k + 1 + 1) c4)) :=
          (((HK3.out.mono fun j _ e => .inl e).trans (hw4.mono fun j _ e => .inr (.inl e))).trans (kg.mono fun j _ e => .inr (.inr e))).trans ((Keeps.set1 _ _ _ _).mono fun j _ e => .inr (.inl e))
        refine ⟨k + 1, by omega, by go_num, a3, m3, c3, a4, c4, ⟨?_, ?_, ?_, ?_, ?_⟩, ?_⟩
        · exact (HX5.out.set 1 _).eq rfl
        · exact ((HO3.out.kept hw4 fun j e f => hxt (f ▸ e)).kept kg fun j e => hne j e).kept (Keeps.set1 _ _ _ _) fun j e f => hxt (f ▸ e)
        · rw [HES.out]
          exact HOW.out.kept (Keeps.set1 _ _ _ _) fun j e f => own_off_type HOW.out HX5.out (by decide) (f ▸ e)
        · intro j e f
          rcases HNX.out j f with g | g
          · exact hne j e g
          · have := (hot j e).2
            simp at g
            omega
        · refine kall.below HR.out.bel HR.out.bel.size ?_
          rintro j (e | e | e)
          · exact (HR.out.tos.lt j e).1
          · omega
          · exact (hob j e).1
        · refine H2r.out.kept kall ?_
          rintro (e | e | e)
          · exact own_off_type HR.out.tos H2r.out (by decide) e
          · omega
          · exact own_off_type HR.out.ends H2r.out (by decide) e
      case measure => simp [intOf]; omega
    · obtain rfl : k = n := by omega
      have q0 := h2.cell 0
      have q1 := h2.cell 1
      have p0 := h2.free 0
      have p1 := h2.free 1
      clear hR h2 hlt
      go_wp2
      refine bodyPost_ret (v := .agg #[.slice a1 m1 c1, .slice a2 (k + 1) c2]) (by simp [results, Tryd.results25, go_sem, q0, q1]) rfl ?_
      have hb2 := HR.out.bel
      obtain ⟨b1, d1, e1, ht⟩ := HR.out.tos.ws
      obtain ⟨b2, d2, e2, he⟩ := HR.out.ends.ws
      rw [endsL_len, wayL_len] at e2 he
      simp only [Value.slice.injEq] at e1 e2
      obtain ⟨rfl, rfl, rfl⟩ := e1
      obtain ⟨rfl, -, rfl⟩ := e2
      have hk4 : Keeps (fun j => j = w.heap.size) wr ((wr.setCell ⟨w.heap.size, 0, none⟩ (.slice a1 (wayL l k).flatten.length c1)).setCell ⟨w.heap.size, 1, none⟩ (.slice a2 (k + 1) c2)) := (Keeps.set1 _ _ _ _).trans (Keeps.set1 _ _ _ _)
      refine ⟨_, rfl, ⟨_, _, _, _, _, _, rfl, ⟨ht.kept hk4 ?_, he.kept hk4 ?_⟩, ?_⟩, hk4.below hb2 hb2.size fun j e => by omega⟩
      · rintro b off rfl rfl
        exact own_off_type HR.out.tos H2r.out (by decide) rfl
      · rintro b off rfl rfl
        exact own_off_type HR.out.ends H2r.out (by decide) rfl
      · rintro b off rfl
        exact Nat.lt_of_lt_of_le (HR.out.tos.lt b rfl).2 hk4.size
end Go.Proofs.YtggiaopdgijgnaaDoor
