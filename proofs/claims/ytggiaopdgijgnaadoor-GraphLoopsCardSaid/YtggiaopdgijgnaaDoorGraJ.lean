/- Package graph's walk: what waits on top goes. Conditions: ways lie in memory; no more than 60 places. -/
import Derived.Test.YtggiaopdgijgnaaDoorGraI
namespace Go.Proofs.YtggiaopdgijgnaaDoor
open Go.RowKit Go.IntWalk

theorem own_cut {α : Type} {K : Kd α} {w : World} {base n g cap : Nat} {e : TypeId} {l : List α} (h : OwnEl K w base e (.slice (some ⟨g, 0, none⟩) n cap) l) (hl : l.length = n) {k : Nat} (hk : k ≤ n) : OwnEl K w base e (.slice (some ⟨g, 0, none⟩) k cap) (l.take k) := by
  obtain ⟨h1, hcase⟩ := h
  subst hl
  have hlt : (l.take k).length = k := by rw [List.length_take]; omega
  refine ⟨by rw [K.vs_len], ?_⟩
  rcases hcase with ⟨h0, _⟩ | ⟨g', cap', cur, hv, hb, hg, e1, e2, e3, e4⟩
  · cases h0
  · simp only [Value.slice.injEq, Option.some.injEq, Addr.mk.injEq, and_true] at hv
    obtain ⟨rfl, -, rfl⟩ := hv
    refine .inr ⟨g, cap, cur, by rw [hlt], hb, hg, by omega, e2, e3, ?_⟩
    rw [hlt]
    have e5 : K.vs l = K.vs (l.take k) ++ K.vs (l.drop k) := by rw [← K.vs_app, List.take_append_drop]
    have e6 : (K.vs (l.take k)).length = k * K.k := by rw [K.vs_len, hlt]
    have e7 : cur.toList.take (k * K.k) = (cur.toList.take (l.length * K.k)).take (k * K.k) := by
      rw [List.take_take, Nat.min_eq_left (Nat.mul_le_mul_right _ hk)]
    rw [e7, e4, e5, ← e6, List.take_left]
/-- A walk in memory: what it came to, what waits, what may be asked, its own functions, the ways. -/
structure WalkAt {σ : Type} (fn : Nat) (caps : Array Value) (J : σ → World → Prop) (w0 : World) (a : Option Addr) (m c : Nat) (a' : Option Addr) (n1 c' n B bt bc bf bo bs bm b9 b3 : Nat) (ov sv : Value) (s : σ) (T : Gra.Tr) (w : World) : Prop where
  trip : TripAt w bt bc bf bo ov n T.came T.ord T.fr
  box : BlkAt bs 76 #[sv] w
  st : OwnEl stpK w bo 78 sv T.st
  may : BlkAt bm 65 #[.func (.func fn) #[] caps] w
  wt : BlkAt b9 79 #[.func (.func 49) #[] #[.pointer (some ⟨bt, 0, none⟩), .pointer (some ⟨bm, 0, none⟩), .pointer (some ⟨bs, 0, none⟩)]] w
  wy : BlkAt b3 51 #[.slice a m c, .slice a' n1 c'] w
  j : J s w
  old : Below w0.heap.size w0 w
  ge : B ≤ bt ∧ B ≤ bc ∧ B ≤ bf ∧ B ≤ bo ∧ B ≤ bs ∧ B ≤ bm ∧ B ≤ b9 ∧ B ≤ b3 ∧ w0.heap.size ≤ B
  lo : bs < bo ∧ bm < bo ∧ b9 < bo ∧ b3 < bo ∧ bo ≤ w.heap.size
section
variable {σ : Type} {fn : Nat} {caps : Array Value} {J : σ → World → Prop} {w0 : World} {a : Option Addr} {m c : Nat} {a' : Option Addr} {n1 c' n B bt bc bf bo bs bm b9 b3 : Nat} {ov sv : Value} {s : σ} {T : Gra.Tr} {w : World}
theorem WalkAt.ne (h : WalkAt fn caps J w0 a m c a' n1 c' n B bt bc bf bo bs bm b9 b3 ov sv s T w) : bs ≠ bt ∧ bs ≠ bm ∧ bs ≠ bc ∧ bs ≠ bf ∧ bs ≠ b9 ∧ bs ≠ b3 ∧ bm ≠ bt ∧ bm ≠ bc ∧ bm ≠ bf ∧ b9 ≠ bt ∧ b9 ≠ bc ∧ b9 ≠ bf ∧ b3 ≠ bt ∧ b3 ≠ bc ∧ b3 ≠ bf := by
  obtain ⟨cs, hs⟩ := h.trip.came.type
  have hf : BlkAt bf 21 _ w := h.trip.frm
  have key : ∀ {x y : Nat} {T T' : TypeId} {cs cs' : Array Value}, BlkAt x T cs w → BlkAt y T' cs' w → T ≠ T' → x ≠ y := fun h1 h2 hT e => by
    subst e
    exact hT (BlkAt.type_eq h1 h2)
  exact ⟨key h.box h.trip.box (by decide), key h.box h.may (by decide), key h.box hs (by decide), key h.box hf (by decide), key h.box h.wt (by decide), key h.box h.wy (by decide), key h.may h.trip.box (by decide), key h.may hs (by decide), key h.may hf (by decide),
    key h.wt h.trip.box (by decide), key h.wt hs (by decide), key h.wt hf (by decide), key h.wy h.trip.box (by decide), key h.wy hs (by decide), key h.wy hf (by decide)⟩
theorem WalkAt.keep {w' : World} (h : WalkAt fn caps J w0 a m c a' n1 c' n B bt bc bf bo bs bm b9 b3 ov sv s T w) (hJ : ∀ s w w', J s w → Below B w w' → J s w') (k : Below w.heap.size w w') : WalkAt fn caps J w0 a m c a' n1 c' n B bt bc bf bo bs bm b9 b3 ov sv s T w' :=
  have hw : B ≤ w.heap.size := Nat.le_trans h.ge.2.2.2.1 h.lo.2.2.2.2
  ⟨h.trip.keep k, h.box.keep k, h.st.keep k, h.may.keep k, h.wt.keep k, h.wy.keep k, hJ _ _ _ h.j (k.mono hw), h.old.trans (k.mono (Nat.le_trans h.ge.2.2.2.2.2.2.2.2 hw)), h.ge, ⟨h.lo.1, h.lo.2.1, h.lo.2.2.1, h.lo.2.2.2.1, Nat.le_trans h.lo.2.2.2.2 k.size⟩⟩
end
set_option maxRecDepth 100000 in
set_option maxHeartbeats 4000000 in
theorem graLegEnd_is {σ : Type} {fn : Nat} {caps : Array Value} {J : σ → World → Prop} {w0 : World} {a : Option Addr} {m c : Nat} {a' : Option Addr} {n1 c' n B bt bc bf bo bs bm b9 b3 : Nat} {ov sv : Value} {s : σ} {T : Gra.Tr} {w : World} (self : Value)
    (h : WalkAt fn caps J w0 a m c a' n1 c' n B bt bc bf bo bs bm b9 b3 ov sv s T w) (hst : T.st = []) :
    Calls Tryd.prog 50 #[self, .pointer (some ⟨bs, 0, none⟩), .pointer (some ⟨bt, 0, none⟩), .pointer (some ⟨b9, 0, none⟩), .pointer (some ⟨b3, 0, none⟩)] w fun e w' => e = .returned .nilFunc ∧ w = w' := by
  obtain ⟨a2, c2, rfl, -⟩ := h.st.atn (m := 0) (by rw [hst]; rfl)
  have c0 := h.box.cell 0
  clear h hst
  go_enter Tryd.func50, Tryd.ntmps50
  go_wp2
  go_ret
  exact ⟨rfl, rfl⟩
/-- The blocks that a walk changes. -/
def LegK (K : Nat → Prop) (bs bt bc bf bo : Nat) (j : Nat) : Prop := K j ∨ j = bs ∨ j = bt ∨ j = bc ∨ j = bf ∨ bo ≤ j
/-- What becomes of a walk whose topmost one that waits goes. -/
def LegR {σ : Type} (fn : Nat) (caps : Array Value) (K : Nat → Prop) (J : σ → World → Prop) (w0 : World) (a : Option Addr) (m c : Nat) (a' : Option Addr) (n1 c' n B bt bc bf bo bs bm b9 b3 : Nat) (s : σ) (T : Gra.Tr) (w w' : World) : Prop :=
  ∃ ov' sv', WalkAt fn caps J w0 a m c a' n1 c' n B bt bc bf bo bs bm b9 b3 ov' sv' s T w' ∧ Keeps (LegK K bs bt bc bf bo) w w'
set_option maxRecDepth 100000 in
set_option maxHeartbeats 4000000 in
theorem graLeg_is {σ : Type} {fn : Nat} {caps : Array Value} {K : Nat → Prop} {J : σ → World → Prop} {mv : σ → Nat → Bool} {ms : σ → Nat → σ} {w0 : World} {a : Option Addr} {m c : Nat} {a' : Option Addr} {n1 c' n B bt bc bf bo bs bm b9 b3 : Nat} {ov sv : Value} {s : σ} {T : Gra.Tr} {w : World} {st0 : List (Int × Nat)} {f : Int} {x : Nat} {L : List (List Int)} {N : Nat → List Nat} (self : Value)
    (hM : MayAt fn caps n B K J mv ms) (h : WalkAt fn caps J w0 a m c a' n1 c' n B bt bc bf bo bs bm b9 b3 ov sv s T w) (hG : WayG w0 a m c a' n1 c' L) (hLn : L.length = n) (hN : ∀ p, p < n → el L p = (N p).map Int.ofNat) (hNn : ∀ p q, q ∈ N p → q < n) (hD : ∀ p, (N p).length ≤ 200)
    (hst : T.st = st0 ++ [(f, x)]) (hn : n ≤ 60) (hx : x < n) (hf : -1 ≤ f ∧ f ≤ 60) (hl : T.ord.length ≤ 60) (hlen : T.st.length ≤ 90000) (hK : ∀ j, K j → w0.heap.size ≤ j) (hA : ∀ b off, a = some ⟨b, off, none⟩ → b < w0.heap.size) :
    Calls Tryd.prog 50 #[self, .pointer (some ⟨bs, 0, none⟩), .pointer (some ⟨bt, 0, none⟩), .pointer (some ⟨b9, 0, none⟩), .pointer (some ⟨b3, 0, none⟩)] w fun e w' => e = .returned self ∧
      LegR fn caps K J w0 a m c a' n1 c' n B bt bc bf bo bs bm b9 b3 (Gra.stepT mv ms N st0 f x s T).1 (Gra.stepT mv ms N st0 f x s T).2 w w' := by
  obtain ⟨kk, hkk⟩ : ∃ k, st0.length = k := ⟨_, rfl⟩
  have hk1 : T.st.length = kk + 1 := by rw [hst]; simp [hkk]
  obtain ⟨g, cap, rfl, hg0, hg1, hg2, hg3⟩ := h.st.form hk1 (by omega)
  have hel : el T.st kk = (f, x) := by
    rw [← el_eq (by omega)]
    simp [hst, ← hkk]
  have c0 := h.box.cell 0
  have cf := h.box.free 0
  have e0 := h.st.cell hk1 (i := kk) (j := 0) (by omega) (by decide)
  have e1 := h.st.cell hk1 (i := kk) (j := 1) (by omega) (by decide)
  rw [hel] at e0 e1
  replace e0 : w.cell? ⟨g, kk * 2, none⟩ = some (.int .i32 f) := e0
  replace e1 : w.cell? ⟨g, kk * 2 + 1, none⟩ = some (.int .i32 (x : Int)) := e1
  have hrun := fun w => run_cut_to (P := Tryd.prog) 76 Tryd.underlying76 (s := 2) (fun w => Tryd.sizeOf78 w) (some ⟨g, 0, none⟩) (kk + 1) cap kk (by omega) w
  simp only [sliced_to] at hrun
  have hkb : kk ≤ 90000 := by omega
  have hkb' : (kk : Int) ≤ 90000 := by omega
  have hbw : bs < w.heap.size := h.box.lt
  obtain ⟨W2, hW2⟩ : ∃ W2, (w.setCell ⟨bs, 0, none⟩ (.slice (some ⟨g, 0, none⟩) kk cap)).alloc (.cells #[.int .i32 f, .int .i32 (x : Int)] 78) = W2 := ⟨_, rfl⟩
  have hgbs : g ≠ bs := fun e => by
    subst e
    exact own_off_type h.st h.box (by decide) rfl
  have hge := h.ge
  have hlo := h.lo
  have hne := h.ne
  have k1 : Keeps (fun j => j = bs) w W2 := hW2 ▸ ((Keeps.set1 _ _ _ _).trans (Keeps.of_below (fun j => j = bs) ((Below.refl _ _).alloc (Nat.le_refl _) _)))
  have hb2 : Below B w W2 := k1.below (Below.refl B w) (by omega) fun j e => by subst e; exact hge.2.2.2.2.1
  have h2 : WalkAt fn caps J w0 a m c a' n1 c' n B bt bc bf bo bs bm b9 b3 ov (.slice (some ⟨g, 0, none⟩) kk cap) s { T with st := st0 } W2 := by
    refine ⟨h.trip.kept k1 hne.1.symm hne.2.2.1.symm hne.2.2.2.1.symm fun j e q => own_off_type h.trip.ord h.box (by decide) (q ▸ e), ?_, ?_, h.may.kept k1 hne.2.1.symm, h.wt.kept k1 hne.2.2.2.2.1.symm, h.wy.kept k1 hne.2.2.2.2.2.1.symm, hM.keep _ _ _ h.j hb2, h.old.trans (hb2.mono hge.2.2.2.2.2.2.2.2), hge, ⟨hlo.1, hlo.2.1, hlo.2.2.1, hlo.2.2.2.1, Nat.le_trans hlo.2.2.2.2 k1.size⟩⟩
    · rw [← hW2]
      exact ((h.box.set 0 _).eq rfl).al _
    · have h9 := (own_cut (k := kk) h.st hk1 (by omega)).kept k1 fun j e q => by
        have : g = j := by simpa [Value.ownBlock] using e
        omega
      rw [hst, ← hkk, List.take_left] at h9
      rw [hkk] at h9
      exact h9
  have hC := graCome_is (w := W2) (f := f) h2.trip hn hx rfl hf (show T.ord.length ≤ 100 by omega) h2.lo.2.2.2.2
  obtain ⟨v, hv⟩ : ∃ v, T.came x = v := ⟨_, rfl⟩
  have HKB := Lib.hid (show Keeps (LegK K bs bt bc bf bo) w W2 from k1.mono fun j _ e => .inr (.inl e))
  have H2 := Lib.hid h2
  have HM := Lib.hid hM
  have hbx2 : BlkAt w.heap.size 78 #[.int .i32 f, .int .i32 (x : Int)] W2 := by
    rw [← hW2]
    exact BlkAt.newb _ _ _ (by simp)
  have HBX2 := Lib.hid hbx2
  simp only [hv] at hC
  rw [← hW2] at hC
  have HC := Lib.hid hC
  have HW2 := Lib.hid hW2
  have HV := Lib.hid hv
  have HGE := Lib.hid hge
  have HKK := Lib.hid (And.intro hkk hkb)
  clear hC hv h2 h k1 hb2 hbx2 hW2 hel hne hkb hg3 hst hlen hk1 hkk hge hlo
  cases v with
  | true =>
    go_enter Tryd.func50, Tryd.ntmps50
    go_wp2_with (go_at_call 51; ((with_reducible refine (HC.out).mono ?_); rintro e w3 ⟨rfl, hr⟩); have HR := Lib.hid hr; clear hr)
    go_ret
    have hr := HR.out
    rw [HW2.out] at hr
    rcases hr with ⟨-, hr⟩ | ⟨hr, -⟩
    · unfold Gra.stepT
      rw [HV.out, if_pos rfl]
      exact ⟨rfl, _, _, H2.out.keep HM.out.keep hr, HKB.out.trans (Keeps.of_below _ hr)⟩
    · cases hr
  | false =>
    go_enter Tryd.func50, Tryd.ntmps50
    go_wp2_with (go_at_call 51; ((with_reducible refine (HC.out).mono ?_); rintro e w3 ⟨rfl, hr⟩); have HR := Lib.hid hr; clear hr)
    have hr := HR.out
    rw [HW2.out] at hr
    rcases hr with ⟨hr, -⟩ | ⟨-, ov', ht, hk, hnx⟩
    · cases hr
    have hge := HGE.out
    have hlo := H2.out.lo
    have hn2 := H2.out.ne
    have hnt := H2.out.trip.ne
    have hb3 : Below B W2 w3 := hk.below (Below.refl B W2) (by omega) fun j e => by
      rcases e with e | e | e | e
      · omega
      · omega
      · omega
      · have := (H2.out.trip.ord.lt j e).1; omega
    have hKB3 := HKB.out.trans (hk.mono (G := LegK K bs bt bc bf bo) fun j _ e => by
      rcases e with e | e | e | e
      · exact .inr (.inr (.inl e))
      · exact .inr (.inr (.inr (.inl e)))
      · exact .inr (.inr (.inr (.inr (.inl e))))
      · exact .inr (.inr (.inr (.inr (.inr (H2.out.trip.ord.lt j e).1)))))
    have h3 : WalkAt fn caps J w0 a m c a' n1 c' n B bt bc bf bo bs bm b9 b3 ov' (.slice (some ⟨g, 0, none⟩) kk cap) s { Gra.comeT T f x with st := st0 } w3 := by
      have ho : ∀ {b' : Nat} {T' : TypeId} {cs : Array Value}, BlkAt b' T' cs W2 → T' ≠ 21 → b' ≠ bt → b' ≠ bc → b' ≠ bf → ¬ (b' = bt ∨ b' = bc ∨ b' = bf ∨ ov.ownBlock = some b') := fun hb hT e1 e2 e3 q => by
        rcases q with q | q | q | q
        · exact e1 q
        · exact e2 q
        · exact e3 q
        · exact own_off_type H2.out.trip.ord hb hT q
      refine ⟨ht, H2.out.box.kept hk (ho H2.out.box (by decide) hn2.1 hn2.2.2.1 hn2.2.2.2.1), H2.out.st.kept hk fun j e q => ?_, H2.out.may.kept hk (ho H2.out.may (by decide) hn2.2.2.2.2.2.2.1 hn2.2.2.2.2.2.2.2.1 hn2.2.2.2.2.2.2.2.2.1), H2.out.wt.kept hk (ho H2.out.wt (by decide) hn2.2.2.2.2.2.2.2.2.2.1 hn2.2.2.2.2.2.2.2.2.2.2.1 hn2.2.2.2.2.2.2.2.2.2.2.2.1), H2.out.wy.kept hk (ho H2.out.wy (by decide) hn2.2.2.2.2.2.2.2.2.2.2.2.2.1 hn2.2.2.2.2.2.2.2.2.2.2.2.2.2.1 hn2.2.2.2.2.2.2.2.2.2.2.2.2.2.2), HM.out.keep _ _ _ H2.out.j hb3, H2.out.old.trans (hb3.mono hge.2.2.2.2.2.2.2.2), hge, ⟨hlo.1, hlo.2.1, hlo.2.2.1, hlo.2.2.2.1, Nat.le_trans hlo.2.2.2.2 hk.size⟩⟩
      rcases q with q | q | q | q
      · subst q; exact own_off_type H2.out.st H2.out.trip.box (by decide) e
      · have := (H2.out.st.lt j e).1; have := H2.out.trip.lt; omega
      · have := (H2.out.st.lt j e).1; have := H2.out.trip.lt; omega
      · obtain ⟨_, hcase⟩ := H2.out.trip.ord
        rcases hcase with ⟨h0, _⟩ | ⟨g', _, _, h0, _, hg', _⟩
        · rw [h0] at q; cases q
        · rw [h0] at q
          obtain rfl : g' = j := by simpa [Value.ownBlock] using q
          exact own_off_type H2.out.st (b := g') hg' (by decide) e
    have hbx3 := HBX2.out.kept hk fun q => by
      rcases q with q | q | q | q
      · have := BlkAt.type_eq HBX2.out (q ▸ H2.out.trip.box); exact absurd this (by decide)
      · have := H2.out.trip.lt; omega
      · have := H2.out.trip.lt; omega
      · exact own_off_type H2.out.trip.ord HBX2.out (by decide) q
    have H3 := Lib.hid h3
    have HBX3 := Lib.hid hbx3
    have HKB3 := Lib.hid hKB3
    clear ht hk hnx hge hlo hn2 hnt hb3 hKB3 h3 hbx3
    refine wp_region_free (fun _ => True) [(0, 0, 24, 8), (1, 0, 25, 256), (2, 2, 26, 16777216), (3, 0, 27, 16), (4, 0, 28, 256), (5, 16, 29, 134217728), (6, 32, 30, 268435456), (7, 72, 31, 603979776), (8, 133, 32, 1115684864)] 8 [(0, 23), (1, 24), (2, 25), (3, 26), (4, 27), (5, 28), (6, 29), (7, 30)] [(0, []), (1, []), (2, [(1, 24)]), (3, []), (4, []), (5, [(4, 27)]), (6, [(5, 28)]), (7, [(3, 26), (6, 29)])] [(false, 8, 511)] []
      (fun i v w' => match i with
        | 0 => v = .func (.func 49) #[] #[.pointer (some ⟨bt, 0, none⟩), .pointer (some ⟨bm, 0, none⟩), .pointer (some ⟨bs, 0, none⟩)]
        | 1 => v = .pointer (some ⟨w.heap.size, 1, none⟩)
        | 2 => v = .int .i32 (x : Int)
        | 3 => v = .agg #[.slice a m c, .slice a' n1 c']
        | 4 => v = .pointer (some ⟨w.heap.size, 1, none⟩)
        | 5 => v = .int .i32 (x : Int)
        | 6 => v = .int .i64 (x : Int)
        | 7 => ∃ b k d, v = .slice b k d ∧ Ws .i32 w0 b k d (el L x) ∧ ∀ g off, b = some ⟨g, off, none⟩ → ∃ off', a = some ⟨g, off', none⟩
        | _ => True) (by kernel_rfl) (by kernel_rfl) (by kernel_rfl) (by kernel_rfl) (by kernel_rfl) (fun _ _ => trivial) ?_ ?_ ?_
    · intro i v w1 w2 h _
      match i, h with
      | 0, h | 1, h | 2, h | 3, h | 4, h | 5, h | 6, h | 7, h => exact h
      | _ + 8, _ => trivial
    · refine ⟨?_, ?_, ?_, ?_, ?_, ?_, ?_, ?_, trivial⟩
      · intro o ho vals w1 hb hd hne
        cases ho
        have g0 := (BlkAt.keep (w := w3.drew) H3.out.wt hb).cell 0
        exact .val (v := .func (.func 49) #[] #[.pointer (some ⟨bt, 0, none⟩), .pointer (some ⟨bm, 0, none⟩), .pointer (some ⟨bs, 0, none⟩)]) (w' := w1) (by simp [frA, execOp, Act.eval, go_sem, g0]) ⟨rfl, Below.refl _ _, fun q => by simp at q⟩
      · intro o ho vals w1 hb hd hne
        cases ho
        exact .val (v := .pointer (some ⟨w.heap.size, 1, none⟩)) (w' := w1) (by simp [frA, execOp, Act.eval, go_sem]) ⟨rfl, Below.refl _ _, fun q => by simp at q⟩
      · intro o ho vals w1 hb hd hne
        cases ho
        have e0 : vals 1 = _ := hd (1, 24) (.head _)
        have g0 := (BlkAt.keep (w := w3.drew) HBX3.out hb).cell 1
        exact .val (v := .int .i32 (x : Int)) (w' := w1) (by simp [frA, execOp, Act.put, Act.eval, go_sem, e0, g0]) ⟨rfl, Below.refl _ _, fun q => by simp at q⟩
      · intro o ho vals w1 hb hd hne
        cases ho
        have g0 := (BlkAt.keep (w := w3.drew) H3.out.wy hb).cell 0
        have g1 := (BlkAt.keep (w := w3.drew) H3.out.wy hb).cell 1
        exact .val (v := .agg #[.slice a m c, .slice a' n1 c']) (w' := w1) (by simp [frA, execOp, Act.eval, go_sem, g0, g1]) ⟨rfl, Below.refl _ _, fun q => by simp at q⟩
      · intro o ho vals w1 hb hd hne
        cases ho
        exact .val (v := .pointer (some ⟨w.heap.size, 1, none⟩)) (w' := w1) (by simp [frA, execOp, Act.eval, go_sem]) ⟨rfl, Below.refl _ _, fun q => by simp at q⟩
      · intro o ho vals w1 hb hd hne
        cases ho
        have e0 : vals 4 = _ := hd (4, 27) (.head _)
        have g0 := (BlkAt.keep (w := w3.drew) HBX3.out hb).cell 1
        exact .val (v := .int .i32 (x : Int)) (w' := w1) (by simp [frA, execOp, Act.put, Act.eval, go_sem, e0, g0]) ⟨rfl, Below.refl _ _, fun q => by simp at q⟩
      · intro o ho vals w1 hb hd hne
        cases ho
        have e0 : vals 5 = _ := hd (5, 28) (.head _)
        have hw : IntKind.i64.wrap (x : Int) = (x : Int) := IntWalk.i64_in _ (by omega)
        exact .val (v := .int .i64 (x : Int)) (w' := w1) (by simp [frA, execOp, Act.put, Act.eval, go_sem, e0, hw]) ⟨rfl, Below.refl _ _, fun q => by simp at q⟩
      · intro o ho vals w1 hb hd hne
        cases ho
        have e0 : vals 3 = _ := hd (3, 26) (.head _)
        have e1 : vals 6 = _ := hd (6, 29) (.tail _ (.head _))
        refine .call (f := 32) (vs := #[.agg #[.slice a m c, .slice a' n1 c'], .int .i64 (x : Int)]) (by simp [frA, execOp, Act.put, Act.eval, go_sem, e0, e1]) ((graOf_is (w := w1) hG (H3.out.old.trans (((Below.refl w3.heap.size w3).drew.trans hb).mono H3.out.old.size)) (by omega) (by omega)).mono ?_)
        rintro e w' ⟨b, k, d, rfl, h1, h2, hq⟩
        exact ⟨_, rfl, ⟨b, k, d, rfl, h1, h2⟩, hq, fun q => by simp at q⟩
    · intro vals a1 w1 hI
      have e := hI.frame (by kernel_rfl) (by kernel_rfl)
      subst e
      have e0 : vals 0 = _ := hI.psi 0 (by omega) (by decide)
      have e1 : vals 1 = _ := hI.psi 1 (by omega) (by decide)
      have e2 : vals 2 = _ := hI.psi 2 (by omega) (by decide)
      have e3 : vals 3 = _ := hI.psi 3 (by omega) (by decide)
      have e4 : vals 4 = _ := hI.psi 4 (by omega) (by decide)
      have e5 : vals 5 = _ := hI.psi 5 (by omega) (by decide)
      have e6 : vals 6 = _ := hI.psi 6 (by omega) (by decide)
      obtain ⟨b, k, d, e7, hw7, ha7⟩ := hI.psi 7 (by omega) (by decide)
      have hb1 : Below w3.heap.size w3 w1 := (Below.refl _ _).drew.trans hI.below
      have h1 := H3.out.keep HM.out.keep hb1
      have H1 := Lib.hid h1
      have hgg := HGE.out
      have hlo := h1.lo
      have hnn := h1.ne
      have hlt := h1.trip.lt
      rw [hN x hx] at hw7
      have hW := graWait_is (f := (x : Int)) (k := k) (c := d) (a := b) HM.out hn h1.trip.box h1.may h1.box h1.trip.came (hw7.keep h1.old) (fun b' off q => by
        obtain ⟨off', q'⟩ := ha7 b' off q
        have h9 := hA b' off' q'
        exact ⟨fun q => by have := hK b' q; omega, by omega, by omega⟩) (hNn x) h1.st (show st0.length + (N x).length ≤ 100000 from by have := hD x; have := HKK.out; omega) h1.j (by omega) hlo.2.2.2.2 (by refine ⟨by omega, by omega, by omega, by omega, hnn.1, hnn.2.1, hnn.2.2.1⟩)
      have HWt := Lib.hid hW
      have HB1 := Lib.hid hb1
      clear hI h1 hgg hlo hnn hlt hW hb1
      refine SeqH.step rfl rfl fun K' hK' => ?_
      simp only [frA, List.foldl, e0, e1, e2, e3, e4, e5, e6, e7]
      go_simp
      refine HWt.out.mono ?_
      rintro e w4 ⟨rfl, sv', q1, q2, q3, q4, q5⟩
      refine hK' _ _ trivial (SeqH.done (NoPanic.normal ?_))
      have HQ := Lib.hid (And.intro q1 (And.intro q2 (And.intro q3 (And.intro q4 q5))))
      clear q1 q2 q3 q4 q5
      go_wp2_with fail
      go_ret
      obtain ⟨q1, q2, q3, q4, q5⟩ := HQ.out
      have h1 := H1.out
      have hgg := HGE.out
      have hlo := h1.lo
      have hnn := h1.ne
      have hnt := h1.trip.ne
      have hlt := h1.trip.lt
      have hof : ∀ j, (K j ∨ j = bs ∨ (Value.slice (some ⟨g, 0, none⟩) kk cap).ownBlock = some j) → (j < B ∨ j = bs ∨ (bo ≤ j ∧ j = g)) := fun j e => e.elim (fun e => .inl (HM.out.lt j e)) fun e => e.elim (fun e => .inr (.inl e)) fun e => by
        have : g = j := by simpa [Value.ownBlock] using e
        exact .inr (.inr ⟨by omega, this.symm⟩)
      have hno : ∀ {b' : Nat}, B ≤ b' → b' ≠ bs → b' < bo → ¬ (K b' ∨ b' = bs ∨ (Value.slice (some ⟨g, 0, none⟩) kk cap).ownBlock = some b') := fun h1 h2 h3 e => by
        rcases hof _ e with e | e | e <;> omega
      unfold Gra.stepT
      rw [HV.out, if_neg (by simp)]
      refine ⟨rfl, ov', sv', ⟨h1.trip.kept q4 (hno hgg.1 hnn.1.symm hlt.2.1) (hno hgg.2.1 hnn.2.2.1.symm hlt.2.2) (hno hgg.2.2.1 hnn.2.2.2.1.symm hlt.1) fun j e q => ?_, q1, q2, h1.may.kept q4 (hno hgg.2.2.2.2.2.1 hnn.2.1.symm hlo.2.1), h1.wt.kept q4 (hno hgg.2.2.2.2.2.2.1 hnn.2.2.2.2.1.symm hlo.2.2.1), h1.wy.kept q4 (hno hgg.2.2.2.2.2.2.2.1 hnn.2.2.2.2.2.1.symm hlo.2.2.2.1), q3, ?_, hgg, ⟨hlo.1, hlo.2.1, hlo.2.2.1, hlo.2.2.2.1, Nat.le_trans hlo.2.2.2.2 q4.size⟩⟩, ?_⟩
      · rcases hof j q with q | q | ⟨-, q⟩
        · have := (h1.trip.ord.lt j e).1; omega
        · subst q; exact own_off_type h1.trip.ord h1.box (by decide) e
        · obtain ⟨_, hcase⟩ := h1.st
          rcases hcase with ⟨h0, _⟩ | ⟨g', _, _, h0, _, hg', _⟩
          · cases h0
          · simp only [Value.slice.injEq, Option.some.injEq, Addr.mk.injEq, and_true] at h0
            obtain ⟨rfl, -, -⟩ := h0
            exact own_off_type h1.trip.ord (b := g) hg' (by decide) (q ▸ e)
      · refine q4.below h1.old (Nat.le_trans h1.old.size (Nat.le_refl _)) fun j e => ?_
        rcases e with e | e | e
        · exact hK j e
        · omega
        · have := (h1.st.lt j e).1; omega
      · refine (HKB3.out.trans (Keeps.of_below _ HB1.out)).trans (q4.mono fun j _ e => ?_)
        rcases e with e | e | e
        · exact .inl e
        · exact .inr (.inl e)
        · exact .inr (.inr (.inr (.inr (.inr (h1.st.lt j e).1))))
end Go.Proofs.YtggiaopdgijgnaaDoor
