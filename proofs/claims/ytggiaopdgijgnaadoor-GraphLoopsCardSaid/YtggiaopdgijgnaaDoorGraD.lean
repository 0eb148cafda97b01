/- Package graph's forest: who is the least above a number. Conditions: no more than 60 numbers; the forest is one. -/
import Derived.Test.YtggiaopdgijgnaaDoorGraV
namespace Go.Proofs.YtggiaopdgijgnaaDoor
open Go.RowKit Go.IntWalk Go.Shelf

attribute [local go_sem] Oper.semAt_some

namespace Gra
/-- A way up that was noted: each number stands under the one noted behind it (the last one first). -/
def Up (over : Nat → Int) : List Nat → Nat → Prop
  | [], _ => True
  | x :: Q, y => over x = (y : Nat) ∧ y < x ∧ Up over Q x
def bot : List Nat → Nat → Nat
  | [], y => y
  | x :: Q, _ => bot Q x
theorem Up.gt {over : Nat → Int} : ∀ {Q : List Nat} {y : Nat}, Up over Q y → ∀ z ∈ Q, y < z
  | x :: Q, y, h, z, hz => by
    rcases List.mem_cons.1 hz with rfl | hz
    · exact h.2.1
    · have := Up.gt h.2.2 z hz
      have := h.2.1
      omega
theorem Up.congr {f g : Nat → Int} : ∀ {Q : List Nat} {y : Nat}, Up f Q y → (∀ z ∈ Q, g z = f z) → Up g Q y
  | [], _, _, _ => trivial
  | x :: Q, y, h, e => ⟨(e x (by simp)).trans h.1, h.2.1, h.2.2.congr fun z hz => e z (List.mem_cons_of_mem _ hz)⟩
theorem Up.bot_le {over : Nat → Int} : ∀ {Q : List Nat} {y : Nat}, Up over Q y → Q.length + y ≤ bot Q y
  | [], y, _ => by simp [bot]
  | x :: Q, y, h => by
    have := Up.bot_le h.2.2
    have := h.2.1
    simp only [bot, List.length_cons]
    omega
end Gra
theorem own_len (a : Option Addr) (m m' c c' : Nat) : (Value.slice a m c).ownBlock = (Value.slice a m' c').ownBlock := by cases a <;> rfl
theorem OwnW.cut0 {κ : IntKind} {w : World} {base m c : Nat} {a : Option Addr} {e : TypeId} {l : List Int} (h : OwnW κ w base e (.slice a m c) l) : OwnW κ w base e (.slice a 0 c) [] := by
  obtain ⟨h1, h2⟩ := h
  refine ⟨by simp, ?_⟩
  rcases h2 with ⟨h2, h3⟩ | ⟨g, cap, cur, h2, h3, h4, h5, h6, h7, h8⟩
  · simp only [Value.slice.injEq] at h2
    obtain ⟨rfl, -, rfl⟩ := h2
    exact .inl ⟨rfl, rfl⟩
  · simp only [Value.slice.injEq] at h2
    obtain ⟨rfl, -, rfl⟩ := h2
    exact .inr ⟨g, c, cur, rfl, h3, h4, Nat.zero_le _, h6, h7, by simp⟩
theorem calm_keeps {K F : Nat → Prop} {B : Nat} {X Y : World} (k : Keeps F X Y) (h : ∀ q, F q → ¬ K q ∧ q < B) : Calm K B none none X Y :=
  ⟨k.size, fun q hq hl _ => k.block q hl fun f => hq.elim (h q f).1 fun e => by have := (h q f).2; omega, .inl rfl⟩
theorem Gra.Up.le_bot {over : Nat → Int} : ∀ {Q : List Nat} {y : Nat}, Gra.Up over Q y → ∀ z ∈ Q, z ≤ Gra.bot Q y
  | x :: Q, y, h, z, hz => by
    have h1 := Gra.Up.bot_le h.2.2
    rcases List.mem_cons.1 hz with rfl | hz
    · simp only [Gra.bot]; omega
    · exact Gra.Up.le_bot h.2.2 z hz
/-- The way up while it is shortened from above: so many have been looked at. -/
def LeaR (bF bl bo bb n t k : Nat) (par : Nat → Nat) (low : Nat → Int) (pv : Value) (Q : List Nat) (W : World) (bx c : Nat) (X : World) : Prop :=
  ∃ (over best : Nat → Int) (Q' : List Nat) (y : Nat), FoAt bF bl bo bb n low over best pv X ∧ Gra.ForI n par t low over best ∧ t < y ∧ y < n ∧ over y ≤ t ∧ Gra.Up over Q' y ∧ Gra.bot Q' y = k ∧ Q' = Q.drop c ∧
    BlkAt bx 91 #[.pointer (some ⟨bF, 0, none⟩)] X ∧ Keeps (fun j => j = bo ∨ j = bb) W X
/-- What least needs and keeps: the forest in memory, as numbers tell it. -/
structure LeaI (bF bl bo bb n base t : Nat) (par : Nat → Nat) (low over best : Nat → Int) (pv : Value) (pl : List Int) (w : World) : Prop where
  fo : FoAt bF bl bo bb n low over best pv w
  ow : OwnW .i32 w base 21 pv pl
  fi : Gra.ForI n par t low over best
  lt : bF < base ∧ bl < base ∧ bo < base ∧ bb < base ∧ base ≤ w.heap.size
/-- Who is the least. -/
def LeaU (t : Nat) (par : Nat → Nat) (low : Nat → Int) (k u : Nat) : Prop := (k ≤ t ∧ u = k) ∨ (t < k ∧ Gra.LeastU par t low k u)
set_option maxRecDepth 100000 in
set_option maxHeartbeats 4000000 in
theorem graLeast_is {E : Nat → Nat → Prop} {bF bl bo bb n base t k : Nat} {par : Nat → Nat} {low over best : Nat → Int} {pv : Value} {pl : List Int} {w : World} (D : Gra.Deep n E par) (h : LeaI bF bl bo bb n base t par low over best pv pl w) (hn : n ≤ 60) (hk : k < n) :
    Calls Tryd.prog 59 #[.pointer (some ⟨bF, 0, none⟩), .int .i32 k] w fun e w' => ∃ u over' best' pv' pl', e = .returned (.int .i32 (u : Nat)) ∧ LeaI bF bl bo bb n base t par low over' best' pv' pl' w' ∧ u < n ∧ LeaU t par low k u ∧ Keeps (fun j => j = bF ∨ j = bo ∨ j = bb ∨ pv.ownBlock = some j) w w' ∧ Nexts w pv pv' := by
  have hn' : (n : Int) ≤ 60 := by omega
  have hk' : (k : Int) < n := by omega
  have hb0 := (Below.refl w.heap.size w).alloc (Nat.le_refl _) (.cells #[.pointer (some ⟨bF, 0, none⟩)] 91)
  have hx0 : BlkAt w.heap.size 91 #[.pointer (some ⟨bF, 0, none⟩)] (w.alloc (.cells #[.pointer (some ⟨bF, 0, none⟩)] 91)) := BlkAt.new _ _ _
  have hf0 := h.fo.keep hb0
  have c0 := hf0.box.cell 1
  have c1 := hf0.ov.cell hk
  have c2 := hx0.cell 0
  obtain ⟨v, hv⟩ : ∃ v, over k = v := ⟨_, rfl⟩
  rw [hv] at c1
  have H := Lib.hid h
  have HV := Lib.hid hv
  clear hb0 hx0 hf0 h hv
  refine (callsIn_wide (n := 8)).1 ?_
  refine callsIn_of_wp_marks Tryd.func59 rfl trivial ?_ rfl
  simp only [Tryd.ntmps59, List.size_toArray, List.length_cons, List.length_nil, Nat.reduceAdd, Nat.reduceSub, Array.replicate_succ, Array.replicate_zero, List.push_toArray, List.append_toArray, List.nil_append, List.cons_append]
  by_cases ht : k ≤ t
  · have hv1 : v = -1 := by rw [← HV.out]; exact (H.out.fi.un k ht hk).1
    subst hv1
    gi_wp2
    refine ⟨_, results_tmp rfl _ _ _, ?_⟩
    have hb := (Below.refl w.heap.size w).alloc (Nat.le_refl _) (.cells #[.pointer (some ⟨bF, 0, none⟩)] 91)
    exact ⟨k, over, best, pv, pl, rfl, ⟨H.out.fo.keep hb, H.out.ow.keep hb, H.out.fi, by have := H.out.lt; simp; omega⟩, hk, .inl ⟨ht, rfl⟩, Keeps.of_below _ hb, Nexts.refl _ _⟩
  · have htk : t < k := by omega
    obtain ⟨a0, ha0, hA1, ha1, ha2, b9, hb9, hb8⟩ := H.out.fi.ov k htk hk
    have hv1 : v = (a0 : Int) := by rw [← HV.out]; exact ha0
    subst hv1
    obtain ⟨ap, cp, rfl, hpv⟩ := H.out.ow.wsn (m := pl.length) rfl
    have hrun : ∀ w, (Instr.slice 38 (.slice ap pl.length cp) none (some (.int .i64 0)) none).run Tryd.prog w = .ok (.slice ap 0 cp) w := fun w => by
      have := run_cut_to (P := Tryd.prog) 38 Tryd.underlying38 (s := 1) (fun w => Tryd.sizeOf21 w) ap pl.length cp 0 (by omega) w
      rw [sliced_to] at this
      exact this
    have hb0 := (Below.refl w.heap.size w).alloc (Nat.le_refl _) (.cells #[.pointer (some ⟨bF, 0, none⟩)] 91)
    have hx0 : BlkAt w.heap.size 91 #[.pointer (some ⟨bF, 0, none⟩)] (w.alloc (.cells #[.pointer (some ⟨bF, 0, none⟩)] 91)) := BlkAt.new _ _ _
    have hL0 : LeaI bF bl bo bb n base t par low over best (.slice ap pl.length cp) pl (w.alloc (.cells #[.pointer (some ⟨bF, 0, none⟩)] 91)) := ⟨H.out.fo.keep hb0, H.out.ow.keep hb0, H.out.fi, by have := H.out.lt; simp only [World.size_alloc]; omega⟩
    have c3 := hL0.fo.box.cell 3
    have HL0 := Lib.hid hL0
    have HX0 := Lib.hid hx0
    have HB0 := Lib.hid hb0
    have HLT := Lib.hid H.out.lt
    have HD := Lib.hid D
    have HA := Lib.hid (And.intro ha0 (And.intro hA1 ha1))
    have ha0' : (a0 : Int) ≠ -1 := by omega
    have hne : ((a0 : Int) == -1) = false := by simp
    clear hb0 hx0 hL0 hpv ha0 hA1 ha1 ha2 hb9 hb8 ht
    obtain ⟨W0, hW0⟩ : ∃ W0, w.alloc (.cells #[.pointer (some ⟨bF, 0, none⟩)] 91) = W0 := ⟨_, rfl⟩
    rw [hW0] at HL0 HX0 HB0
    obtain ⟨bx, hbx⟩ : ∃ bx, w.heap.size = bx := ⟨_, rfl⟩
    have HBX := Lib.hid hbx
    have HW0 := Lib.hid hW0
    rw [hbx] at HX0
    clear hW0 hbx
    gi_wp2
    rw [HW0.out, HBX.out]
    clear c0 c1 c2 c3
    gi_loopw [5, 6] (fun v5 v6 wr => ∃ (Q : List Nat) (y : Nat), v6 = .int .i32 y ∧ t < y ∧ y < n ∧ Gra.Up over Q y ∧ Gra.bot Q y = k ∧ OwnW .i32 wr base 21 v5 (Q.reverse.map Int.ofNat) ∧ Keeps (fun j => (Value.slice ap pl.length cp).ownBlock = some j) W0 wr ∧ Nexts W0 (.slice ap pl.length cp) v5) (fun _ v6 _ => (intOf v6).toNat)
    case atStart => exact ⟨[], k, rfl, htk, hk, trivial, rfl, HL0.out.ow.cut0, Keeps.refl _ _, fun j e => .inl (by rw [own_len ap pl.length 0 cp cp]; exact e)⟩
    case round =>
      obtain ⟨Q, y, rfl, hty, hyn, hup, hbot, hown, hK, hnx⟩ := hrel
      obtain ⟨y1, e1, g1, g2, g3, g4⟩ := HL0.out.fi.ov y hty hyn
      have hoff : ∀ {j : Nat}, (Value.slice ap pl.length cp).ownBlock = some j → base ≤ j := fun e => (HL0.out.ow.lt _ e).1
      have hf := HL0.out.fo.kept hK (fun e => by have := hoff e; have := HLT.out; omega) (fun e => by have := hoff e; have := HLT.out; omega) (fun e => by have := hoff e; have := HLT.out; omega) (fun e => by have := hoff e; have := HLT.out; omega)
      have hx := (HX0.out.kept hK fun e => by have := (H.out.ow.lt _ e).2; have := HBX.out; omega)
      have c0 := hf.box.cell 1
      have c1 := hf.ov.cell hyn
      have c2 := hx.cell 0
      rw [e1] at c1
      have hyn' : (y : Int) < n := by omega
      have hy1n : (y1 : Int) < n := by omega
      have c4 := hf.ov.cell (i := y1) (by omega)
      have HF := Lib.hid hf
      have HX := Lib.hid hx
      have HK := Lib.hid hK
      have HNX := Lib.hid hnx
      have HOW := Lib.hid hown
      have HUP := Lib.hid hup
      have HY := Lib.hid (And.intro e1 (And.intro g1 (And.intro g2 (And.intro g3 g4))))
      obtain ⟨z, hz⟩ : ∃ z, over y1 = z := ⟨_, rfl⟩
      rw [hz] at c4
      have hy1y : y1 < y := g2
      obtain ⟨a5, c5, rfl, -⟩ := hown.wsn (m := Q.length) (by simp)
      obtain ⟨i0, hi, hz0, hz1, hz2⟩ := info_parts infoI32
      have HIO := Lib.hid (And.intro hi (And.intro hz0 (And.intro hz1 hz2)))
      have HQL := Lib.hid (show Q.length ≤ 60 from by have := hup.bot_le; omega)
      have HOFF := Lib.hid (fun (j : Nat) (e : (Value.slice a5 Q.length c5).ownBlock = some j) => (show base ≤ j ∧ ¬ bx = j from ⟨(hown.lt j e).1, fun q => by
        have h1 := HBX.out
        have h2 : bx < W0.heap.size := HX0.out.lt
        rcases hnx j e with h | h
        · have := (H.out.ow.lt _ h).2; omega
        · omega⟩))
      have HYN := Lib.hid hyn
      have HBW := Lib.hid (show base ≤ wr.heap.size from by have := hK.size; have := HL0.out.lt; omega)
      clear hf hx hK hnx hown hup e1 g1 g2 g3 g4 hoff hi hz0 hz1 hz2
      by_cases hyt : t < y1
      · obtain ⟨z1, hz1, -⟩ := HL0.out.fi.ov y1 hyt (by omega)
        have hzz : z = (z1 : Int) := by rw [← hz]; exact hz1
        subst hzz
        have HZ := Lib.hid (And.intro hz hyt)
        clear hz hz1 hyt
        have hne2 : ((z1 : Int) == -1) = false := by simp
        gi_wp2
        refine wpIn_wide.2 ?_
        go_quiet (fail)
        gi_wp2_with (gi_at_builtin; refine wpListIn_append_next _ rfl _ _ 38 rfl base 21 i0 (.int .i32 0) 4 Tryd.underlying38 HIO.out.1 HIO.out.2.1 HIO.out.2.2.1 HIO.out.2.2.2 rfl _ _ _ rfl (OwnW.keep (w := wr.drewN _) HOW.out ((Below.refl _ _).alloc (Nat.le_refl _) _)) ⟨wr.heap.size, 0, none⟩ 1 (.int .i32 y) rfl ((BlkAt.newb _ _ _ (by simp)).cell 0) (by simp [Value.oneCell']) (by unfold maxLen; have := HQL.out; simp; omega) (by have := HQL.out; simp; omega) (by have := HBW.out; simp; omega) ?_; intro v' w1 hown' hgrow hnext; have kg : Keeps (fun j => (Value.slice a5 Q.length c5).ownBlock = some j) wr w1 := ((Keeps.of_below _ (below_drewN (Below.refl _ _) _)).trans (Keeps.of_below _ ((Below.refl _ _).alloc (Nat.le_refl _) _))).trans (Keeps.of_grown hgrow fun j e => e); have KG := Lib.hid kg; have hf1 := HF.out.kept kg (fun e => by have := HOFF.out _ e; have := HLT.out; omega) (fun e => by have := HOFF.out _ e; have := HLT.out; omega) (fun e => by have := HOFF.out _ e; have := HLT.out; omega) (fun e => by have := HOFF.out _ e; have := HLT.out; omega); have hx1 := HX.out.kept kg (fun e => by have := HOFF.out _ e; omega); have d0 := hf1.box.cell 1; have d1 := hf1.ov.cell HYN.out; rw [HY.out.1] at d1; have d2 := hx1.cell 0; have HOW1 := Lib.hid hown'; have HNX1 := Lib.hid hnext; clear hgrow kg hf1 hx1 hown' hnext)
        go_roundw
        case rel =>
          refine ⟨y :: Q, y1, rfl, HZ.out.2, by omega, ⟨HY.out.1, hy1y, HUP.out⟩, hbot, ?_, ?_, ?_⟩
          · have := HOW1.out
            unfold OwnW
            simp only [List.reverse_cons, List.map_append, List.map_cons, List.map_nil, List.length_append, List.length_cons, List.length_nil, List.length_map, List.length_reverse] at this ⊢
            exact this
          · exact HK.out.next KG.out fun j hj e => (HNX.out j e).elim id fun e => absurd e (by omega)
          · exact fun j e => by
              rcases HNX1.out with q | q
              · exact HNX.out j (Eq.trans (Eq.symm q) e)
              · rw [q] at e
                simp only [Option.some.injEq] at e
                exact .inr (by rw [← e]; have := HK.out.size; simp; omega)
        case measure => simp [intOf]; omega
      · have hzz : z = -1 := by rw [← hz]; exact (HL0.out.fi.un y1 (by omega) (by omega)).1
        subst hzz
        have HZ := Lib.hid (And.intro hz hyt)
        clear hz hyt hne
        gi_wp2
        refine wpIn_wide.2 ?_
        go_quiet (fail)
        gi_wp2_with fail
        refine ⟨trivial, (callsIn_wide.2 (back_is a5 Q.length c5 _)).mono ?_⟩
        rintro e W ⟨rfl, hW⟩
        have hkW : Below wr.heap.size wr W := hW ▸ (below_drewN (Below.refl _ _) _).alloc (by simp) _
        have hsW : W.heap.size = wr.heap.size + 1 := by rw [← hW]; simp
        have cW : W.cell? ⟨wr.heap.size, 0, none⟩ = some (.slice a5 Q.length c5) := by rw [← hW]; exact (BlkAt.newb _ _ _ (by simp)).cell 0
        have hls : Ws .i32 W a5 Q.length c5 (Q.reverse.map Int.ofNat) := by
          obtain ⟨a6, c6, e6, h6⟩ := (HOW.out.keep hkW).wsn (m := Q.length) (by simp)
          simp only [Value.slice.injEq] at e6
          obtain ⟨rfl, -, rfl⟩ := e6
          exact h6
        have hfW := HF.out.keep hkW
        have hxW := HX.out.keep hkW
        have hz3 : (wr.drewN nq).heap.size = wr.heap.size := by simp
        rw [hz3]
        clear hW
        have HKB := Lib.hid (show ∀ q, oneB wr.heap.size a5 Q.length q → q < W.heap.size ∧ q ≠ bF ∧ q ≠ bo ∧ q ≠ bb from fun q hq => by
          have hlt := HLT.out
          have hlw := HF.out.lt
          rcases hq with rfl | ⟨h0, off, e⟩
          · have h1 := HBW.out; omega
          · have h1 := hls.ltb h0 _ _ e
            have h2 := (HOFF.out q (by rw [e]; rfl)).1
            omega)
        gi_wp2
        have hQr : (Q.reverse.map Int.ofNat).length = Q.length := by simp
        have HQR := Lib.hid (show ∀ p, p < Q.length → byAt (Q.reverse.map Int.ofNat) (Q.length - 1 - p) = ((Q.getD p 0 : Nat) : Int) from fun p hp => by
          rw [← byAt_eq (by rw [hQr]; omega), List.getElem_map, List.getElem_reverse]
          simp only [List.getD, List.getElem?_eq_getElem hp, Option.getD_some]
          show ((Q[Q.length - 1 - (Q.length - 1 - p)] : Nat) : Int) = _
          congr 2
          omega)
        have HQN := Lib.hid (show ∀ z ∈ Q, z < n from fun z hz => Nat.lt_of_le_of_lt (HUP.out.le_bot z hz) (by rw [hbot]; exact hk))
        have hsW2 : bx < W.heap.size ∧ bF < W.heap.size ∧ bl < W.heap.size ∧ bo < W.heap.size ∧ bb < W.heap.size := ⟨hxW.lt, hfW.lt.1, hfW.lt.2.1, hfW.lt.2.2.1, hfW.lt.2.2.2⟩
        have HSW := Lib.hid hsW2
        refine wpIn_rangeA rfl (by decide) (gf := 69) (lb := #[.pointer (some ⟨wr.heap.size, 0, none⟩)]) rfl trivial (enters_of Tryd.func69 (by kernel_rfl) rfl)
          (back_seq 7 wr.heap.size Q.length c5 a5 (Q.reverse.map Int.ofNat) W (by omega) (by omega) cW hls (by have := HQL.out; omega)) (Below.refl _ _) (fun q hq => (HKB.out q hq).1) (fun _ => rfl)
          (fun o pre X => o = none ∧ LeaR bF bl bo bb n t k par low (.slice ap pl.length cp) Q W bx pre.length X)
          (fun _ _ _ _ => False)
          ?hI ?hIx (fun o xs X h q hq => by rw [h.1] at hq; cases hq) none (fun _ _ h => by cases h) ⟨rfl, ?h0⟩
          ?a1 (fun _ X => X) (fun _ X => ⟨rfl, rfl, rfl, Nat.le_refl _, fun _ _ _ => rfl⟩) ?assign ?body ?done ?stop
        case assign =>
          rintro l2 x X Kc hKc
          simp only [bkV]
          gi_wp2
          exact hKc
        case h0 => exact ⟨over, best, Q, y, hfW, HL0.out.fi, hty, hyn, by have := HY.out.1; have := HZ.out.2; omega, HUP.out, hbot, by simp, hxW, Keeps.refl _ _⟩
        case hI =>
          rintro o s X Y row ⟨rfl, over', best', Q', y', i1, i2, i3, i4, i5, i6, i7, i8, i9, i10⟩ hg hr
          have hsW3 := HSW.out
          have hkk : Keeps (fun j => row = some j) X Y := Keeps.of_grown hg fun j e => e
          have hno : ∀ {q}, q < W.heap.size → ¬ row = some q := fun hq e => by have := (hr _ e).1; omega
          exact ⟨rfl, over', best', Q', y', i1.kept hkk (hno (by omega)) (hno (by omega)) (hno (by omega)) (hno (by omega)), i2, i3, i4, i5, i6, i7, i8, i9.kept hkk (hno (by omega)), i10.next hkk fun j hj e => absurd e (hno hj)⟩
        case hIx => exact fun _ _ _ _ _ _ h => h.elim
        case stop => exact fun _ _ _ _ _ _ _ h => h.elim
        case body =>
          rintro l2 o pre ⟨i, u⟩ V X ⟨rfl, over', best', Q', y', i1, i2, i3, i4, i5, i6, i7, i8, i9, i10⟩ hT hV1 hV2 hsz hnew
          have hpl : pre.length < Q.length := by
            have := hT.length_le
            rw [backL_len] at this
            simp at this
            omega
          have hxe := hT.getElem (i := pre.length) (by simp)
          rw [List.getElem_append_right (Nat.le_refl _)] at hxe
          simp only [Nat.sub_self, List.getElem_cons_zero] at hxe
          rw [backL_at (by rw [hQr]; exact hpl), hQr] at hxe
          obtain ⟨rfl, hu⟩ := Prod.mk.inj hxe
          rw [HQR.out _ hpl] at hu
          obtain ⟨j, hj⟩ : ∃ j, Q.getD pre.length 0 = j := ⟨_, rfl⟩
          rw [hj] at hu
          subst hu
          have hdr : Q.drop pre.length = j :: Q.drop (pre.length + 1) := by
            rw [List.drop_eq_getElem_cons hpl, ← hj]
            simp [List.getD, hpl]
          rw [i8, hdr] at i6 i7
          have hjn : j < n := HQN.out j (by rw [← hj]; simp [List.getD, hpl])
          obtain ⟨o1, o2, o3⟩ := i6
          have htj : t < j := by omega
          obtain ⟨z1, z2, z3, z4, z5, bj, z6, z7, z8, z9⟩ := i2.ov j htj hjn
          obtain ⟨q1, q2, q3, q4, q5, ba, q6, q7, q8, q9⟩ := i2.ov y' i3 i4
          obtain ⟨r, r1, r2, r3⟩ := i2.short HD.out htj hjn o1 i3 z6 q6
          have hbjn : bj < n := by have := HD.out.anc_le z7 hjn; omega
          have hban : ba < n := by have := HD.out.anc_le q7 i4; omega
          have m1 := i1.ov.cell hjn
          have m2 := i1.ov.cell i4
          have m3 := i1.be.cell hjn
          have m4 := i1.be.cell i4
          have m5 := i1.lo.cell hbjn
          have m6 := i1.lo.cell hban
          rw [o1] at m1
          rw [r1] at m2
          rw [z6] at m3
          rw [q6] at m4
          have b0 := i1.box.cell 0
          have b1 := i1.box.cell 1
          have b2 := i1.box.cell 2
          have x0 := i9.cell 0
          have fo := i1.ov.free j
          have fb := i1.be.free j
          obtain ⟨lj, hlj⟩ : ∃ v, low bj = v := ⟨_, rfl⟩
          obtain ⟨la, hla⟩ : ∃ v, low ba = v := ⟨_, rfl⟩
          rw [hlj] at m5 r3
          rw [hla] at m6 r3
          have jn' : (j : Int) < n := by omega
          have yn' : (y' : Int) < n := by omega
          have bjn' : (bj : Int) < n := by omega
          have ban' : (ba : Int) < n := by omega
          obtain ⟨n1, n2, n3⟩ := i1.ne
          have e1 : ¬ bl = bo := n1
          have e2 : ¬ bl = bb := n2
          have e3 : ¬ bo = bb := n3
          have e4 : ¬ bb = bo := fun q => n3 q.symm
          have e5 : ¬ bF = bb := fun q => i1.off.2.2 q.symm
          have e6 : ¬ bF = bo := fun q => i1.off.2.1 q.symm
          have hbxt : bx ≠ bb ∧ bx ≠ bo := ⟨fun q => i1.be.ne_blk i9 (by decide) q.symm, fun q => i1.ov.ne_blk i9 (by decide) q.symm⟩
          have e7 : ¬ bx = bb := hbxt.1
          have e8 : ¬ bx = bo := hbxt.2
          have HI := Lib.hid (And.intro i1 (And.intro r2 (And.intro r3 (And.intro i9 (And.intro i10 (And.intro i4 (And.intro o3 (And.intro i7 htj))))))))
          have HRY := Lib.hid (show r ≤ t ∧ y' < j from by omega)
          have HYL := Lib.hid (And.intro i4 (And.intro o1 r1))
          clear i1 i2 i3 i4 i5 i7 i8 i9 i10 o1 o2 o3 htj z1 z2 z3 z4 z5 z6 z7 z8 z9 q1 q2 q3 q4 q5 q6 q7 q8 q9 r1 r2 r3 hbjn hban n1 n2 n3 hbxt hdr hT hxe hnew hlj hla
          by_cases hlt : la < lj
          · gi_wp2
            refine wpIn_round_tail 26 (by kernel_rfl) (by kernel_rfl) (by kernel_rfl) ?_
            simp only [List.take_succ_cons, List.take_zero, List.drop_succ_cons, List.drop_zero]
            repeat still_step
            refine wpStill_nil ?_
            gi_wp2
            obtain ⟨X1, hX1⟩ : ∃ X1, X.drew = X1 := ⟨_, rfl⟩
            rw [hX1]
            replace m1 : X1.cell? ⟨bo, j, none⟩ = some (.int .i32 y') := by rw [← hX1]; exact m1
            replace m2 : X1.cell? ⟨bo, y', none⟩ = some (.int .i32 r) := by rw [← hX1]; exact m2
            replace m3 : X1.cell? ⟨bb, j, none⟩ = some (.int .i32 bj) := by rw [← hX1]; exact m3
            replace m4 : X1.cell? ⟨bb, y', none⟩ = some (.int .i32 ba) := by rw [← hX1]; exact m4
            replace m5 : X1.cell? ⟨bl, bj, none⟩ = some (.int .i32 lj) := by rw [← hX1]; exact m5
            replace m6 : X1.cell? ⟨bl, ba, none⟩ = some (.int .i32 la) := by rw [← hX1]; exact m6
            replace b0 : X1.cell? ⟨bF, 0, none⟩ = some (.slice (some ⟨bl, 0, none⟩) n n) := by rw [← hX1]; exact b0
            replace b1 : X1.cell? ⟨bF, 1, none⟩ = some (.slice (some ⟨bo, 0, none⟩) n n) := by rw [← hX1]; exact b1
            replace b2 : X1.cell? ⟨bF, 2, none⟩ = some (.slice (some ⟨bb, 0, none⟩) n n) := by rw [← hX1]; exact b2
            replace x0 : X1.cell? ⟨bx, 0, none⟩ = some (.pointer (some ⟨bF, 0, none⟩)) := by rw [← hX1]; exact x0
            replace fo : X1.frozen? ⟨bo, j, none⟩ = false := by rw [← hX1]; exact fo
            replace fb : X1.frozen? ⟨bb, j, none⟩ = false := by rw [← hX1]; exact fb
            have HX1 := Lib.hid hX1
            clear hX1
            refine wpIn_round_tail 12 (by kernel_rfl) (by kernel_rfl) (by kernel_rfl) ?_
            simp only [List.take_succ_cons, List.take_zero, List.drop_succ_cons, List.drop_zero]
            repeat still_step
            refine wpStill_nil ?_
            gi_wp2
            obtain ⟨X2, hX2⟩ : ∃ X2, (X1.setCell ⟨bb, j, none⟩ (.int .i32 ba)).drew = X2 := ⟨_, rfl⟩
            rw [hX2]
            clear m1 m2 m3 m4 m5 m6 b0 b1 b2 x0 fo fb
            rw [← HX1.out] at hX2
            have k1 : Keeps (fun q => q = bb) X X2 := by rw [← hX2]; exact ((Keeps.of_below _ (Below.refl _ _).drew).trans (Keeps.set1 _ _ _ _)).trans (Keeps.of_below _ (Below.refl _ _).drew)
            have hbe2 : Ar .i32 21 bb n (upn best' j (ba : Nat)) X2 := by rw [← hX2]; exact HI.out.1.be.set j ba
            have hov2 := HI.out.1.ov.kept k1 e3
            have hlo2 := HI.out.1.lo.kept k1 e2
            have hbox2 := HI.out.1.box.kept k1 e5
            have hx2 := HI.out.2.2.2.1.kept k1 e7
            have m1 := hov2.cell hjn
            have m2 := hov2.cell HYL.out.1
            rw [HYL.out.2.1] at m1
            rw [HYL.out.2.2] at m2
            have b1 := hbox2.cell 1
            have x0 := hx2.cell 0
            have fo := hov2.free j
            have H2 := Lib.hid (And.intro k1 (And.intro hbe2 (And.intro hov2 (And.intro hlo2 (And.intro hbox2 hx2)))))
            clear hX2 k1 hbe2 hov2 hlo2 hbox2 hx2
            refine wpIn_round_tail 12 (by kernel_rfl) (by kernel_rfl) (by kernel_rfl) ?_
            simp only [List.take_succ_cons, List.take_zero, List.drop_succ_cons, List.drop_zero]
            repeat still_step
            refine wpStill_nil ?_
            gi_wp2
            obtain ⟨k1, hbe2, hov2, hlo2, hbox2, hx2⟩ := H2.out
            obtain ⟨i1, r2, r3, i9, i10, i4, o3, i7, htj⟩ := HI.out
            have k2 : Keeps (fun q => q = bo) X2 ((X2.setCell ⟨bo, j, none⟩ (.int .i32 r)).drew) := (Keeps.set1 _ _ _ _).next (Keeps.of_below (fun _ => False) (Below.refl _ _).drew) fun q _ e => e.elim
            have k3 : Keeps (fun q => q = bo ∨ q = bb) X ((X2.setCell ⟨bo, j, none⟩ (.int .i32 r)).drew) := (k1.mono fun q _ e => .inr e).trans (k2.mono fun q _ e => .inl e)
            have hov3 : Ar .i32 21 bo n (upn over' j (r : Nat)) ((X2.setCell ⟨bo, j, none⟩ (.int .i32 r)).drew) := hov2.set j r
            rw [if_pos hlt] at r3
            refine ⟨none, calm_keeps k3 fun q hq => ?_, rfl, upn over' j (r : Nat), upn best' j (ba : Nat), Q.drop (pre.length + 1), j, ⟨hbox2.kept k2 e6, hlo2.kept k2 e1, hov3, hbe2.kept k2 e4, i1.ne⟩, r3, htj, hjn, ?_, ?_, i7, by simp, hx2.kept k2 e8, i10.trans k3⟩
            · exact ⟨fun hK => by have := HKB.out q hK; omega, by have := HSW.out; omega⟩
            · rw [upn_at]; have := HRY.out; omega
            · exact o3.congr fun z hz => upn_off _ _ (by have := o3.gt z hz; omega)
          · gi_wp2
            refine wpIn_round_tail 26 (by kernel_rfl) (by kernel_rfl) (by kernel_rfl) ?_
            simp only [List.take_succ_cons, List.take_zero, List.drop_succ_cons, List.drop_zero]
            repeat still_step
            refine wpStill_nil ?_
            gi_wp2
            obtain ⟨X2, hX2⟩ : ∃ X2, X.drew = X2 := ⟨_, rfl⟩
            rw [hX2]
            clear m1 m2 m3 m4 m5 m6 b0 b1 b2 x0 fo fb
            have k1 : Keeps (fun q => q = bb) X X2 := by rw [← hX2]; exact Keeps.of_below _ (Below.refl _ _).drew
            have hbe2 : Ar .i32 21 bb n (best') X2 := by rw [← hX2]; exact HI.out.1.be
            have hov2 := HI.out.1.ov.kept k1 e3
            have hlo2 := HI.out.1.lo.kept k1 e2
            have hbox2 := HI.out.1.box.kept k1 e5
            have hx2 := HI.out.2.2.2.1.kept k1 e7
            have m1 := hov2.cell hjn
            have m2 := hov2.cell HYL.out.1
            rw [HYL.out.2.1] at m1
            rw [HYL.out.2.2] at m2
            have b1 := hbox2.cell 1
            have x0 := hx2.cell 0
            have fo := hov2.free j
            have H2 := Lib.hid (And.intro k1 (And.intro hbe2 (And.intro hov2 (And.intro hlo2 (And.intro hbox2 hx2)))))
            clear hX2 k1 hbe2 hov2 hlo2 hbox2 hx2
            refine wpIn_round_tail 12 (by kernel_rfl) (by kernel_rfl) (by kernel_rfl) ?_
            simp only [List.take_succ_cons, List.take_zero, List.drop_succ_cons, List.drop_zero]
            repeat still_step
            refine wpStill_nil ?_
            gi_wp2
            obtain ⟨k1, hbe2, hov2, hlo2, hbox2, hx2⟩ := H2.out
            obtain ⟨i1, r2, r3, i9, i10, i4, o3, i7, htj⟩ := HI.out
            have k2 : Keeps (fun q => q = bo) X2 ((X2.setCell ⟨bo, j, none⟩ (.int .i32 r)).drew) := (Keeps.set1 _ _ _ _).next (Keeps.of_below (fun _ => False) (Below.refl _ _).drew) fun q _ e => e.elim
            have k3 : Keeps (fun q => q = bo ∨ q = bb) X ((X2.setCell ⟨bo, j, none⟩ (.int .i32 r)).drew) := (k1.mono fun q _ e => .inr e).trans (k2.mono fun q _ e => .inl e)
            have hov3 : Ar .i32 21 bo n (upn over' j (r : Nat)) ((X2.setCell ⟨bo, j, none⟩ (.int .i32 r)).drew) := hov2.set j r
            rw [if_neg (show ¬ la < lj by omega)] at r3
            refine ⟨none, calm_keeps k3 fun q hq => ?_, rfl, upn over' j (r : Nat), best', Q.drop (pre.length + 1), j, ⟨hbox2.kept k2 e6, hlo2.kept k2 e1, hov3, hbe2.kept k2 e4, i1.ne⟩, r3, htj, hjn, ?_, ?_, i7, by simp, hx2.kept k2 e8, i10.trans k3⟩
            · exact ⟨fun hK => by have := HKB.out q hK; omega, by have := HSW.out; omega⟩
            · rw [upn_at]; have := HRY.out; omega
            · exact o3.congr fun z hz => upn_off _ _ (by have := o3.gt z hz; omega)
        case done =>
          rintro DD o xs X hD rfl ⟨rfl, over', best', Q', y', i1, i2, i3, i4, i5, i6, i7, i8, i9, i10⟩ hdef hne
          rw [backL_len, hQr, List.drop_length] at i8
          subst i8
          have hyk : y' = k := i7
          subst hyk
          have hrow : over' y' ≤ (t : Int) := i5
          obtain ⟨ub, u1, u2, u3⟩ := i2.bestU HD.out i3 i4 hrow
          have hlow := (And.intro i2 (And.intro u2 u3))
          have HI := Lib.hid (And.intro i1 (And.intro i2 (And.intro u2 (And.intro u3 i10))))
          have b2 := i1.box.cell 2
          have b3 := i1.box.cell 3
          have f3 := i1.box.free 3
          have x0 := i9.cell 0
          have m1 := i1.be.cell i4
          rw [u1] at m1
          obtain ⟨n1, n2, n3⟩ := i1.off
          have e1 : ¬ bb = bF := n3
          have e2 : ¬ bF = bb := fun q => n3 q.symm
          have hbx : bx ≠ bF := fun q => by
            have hx : BlkAt bF 91 #[.pointer (some ⟨bF, 0, none⟩)] X := q ▸ i9
            exact absurd (BlkAt.type_eq hx i1.box) (by decide)
          have e3 : ¬ bx = bF := hbx
          have HDEF := Lib.hid hdef
          have HDN := Lib.hid hD
          clear i1 i2 i3 i5 i6 i7 i9 i10 hrow u1 u2 u3 hlow n1 n2 n3 hbx hdef hne hD
          gi_wp2
          have hZd : (X.setCell ⟨bF, 3, none⟩ (.slice a5 Q.length c5)).heap[DD]? = some (.deferred (some [])) := (Below.heap_setCell _ _ _ _ (show DD ≠ bF by have := HDN.out; have := HSW.out; omega)).trans HDEF.out
          refine ⟨by simp, .inl ⟨_, _, rfl, run_takeDeferred hZd, ?_⟩⟩
          refine ⟨_, results_tmp rfl _ _ _, ?_⟩
          have hdn := HDN.out
          have hsw := HSW.out
          have k1 := Keeps.set1 X bF 3 (.slice a5 Q.length c5)
          have k2 : Keeps (fun j => j = DD) (X.setCell ⟨bF, 3, none⟩ (.slice a5 Q.length c5)) ((X.setCell ⟨bF, 3, none⟩ (.slice a5 Q.length c5)).putObj DD (.deferred Option.none)) := ⟨rfl, rfl, rfl, by simp [World.putObj], fun j hj hn => World.putObj_heap_other hn⟩
          obtain ⟨i1, i2, u2, u3, i10⟩ := HI.out
          have hbox : BlkAt bF 97 #[.slice (some ⟨bl, 0, none⟩) n n, .slice (some ⟨bo, 0, none⟩) n n, .slice (some ⟨bb, 0, none⟩) n n, .slice a5 Q.length c5] (X.setCell ⟨bF, 3, none⟩ (.slice a5 Q.length c5)) := (i1.box.set 3 _).eq rfl
          have hown : OwnW .i32 (X.setCell ⟨bF, 3, none⟩ (.slice a5 Q.length c5)) base 21 (.slice a5 Q.length c5) (Q.reverse.map Int.ofNat) := ((HOW.out.keep hkW).kept i10 fun q e f => by
            have h1 := (HOW.out.lt q e).1
            have h2 := HLT.out
            omega).kept k1 fun q e f => by
            have h1 := (HOW.out.lt q e).1
            have h2 := HLT.out
            omega
          have hown2 := hown.kept k2 fun q e f => by
            have h1 := (HOW.out.lt q e).2
            omega
          refine ⟨ub, over', best', .slice a5 Q.length c5, Q.reverse.map Int.ofNat, rfl, ⟨⟨hbox.kept k2 (by omega), (i1.lo.kept k1 i1.off.1).kept k2 (by omega), (i1.ov.kept k1 i1.off.2.1).kept k2 (by omega), (i1.be.kept k1 i1.off.2.2).kept k2 (by omega), i1.ne⟩, hown2, i2, ?_⟩, u2, .inr ⟨htk, u3⟩, ?_, ?_⟩
          · have h1 := HLT.out
            have h2 := hown2.lt
            have h3 := k2.size
            have h4 := k1.size
            have h5 := i10.size
            have h6 := HBW.out
            omega
          · have c1 : Keeps (fun j => (Value.slice ap pl.length cp).ownBlock = some j) w W := ((Keeps.of_below _ HB0.out).trans HK.out).trans (Keeps.of_below _ hkW)
            have c2 := (c1.mono (G := fun j => j = bF ∨ j = bo ∨ j = bb ∨ (Value.slice ap pl.length cp).ownBlock = some j) fun j _ e => .inr (.inr (.inr e))).trans (i10.mono fun j _ e => e.elim (fun e => .inr (.inl e)) fun e => .inr (.inr (.inl e)))
            have hww := c1.size
            exact (c2.trans (k1.mono fun j _ e => .inl e)).next k2 fun j hj e => by omega
          · intro q e
            rcases HNX.out q e with h | h
            · exact .inl h
            · exact .inr (by have := HB0.out.size; omega)
end Go.Proofs.YtggiaopdgijgnaaDoor
