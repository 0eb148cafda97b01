/- The document's own names of places, where their table is a part of a greater block, from cell o on. Conditions: as few as 1000. -/
import Derived.Test.YtgmphfagflhglaaDoorLabT
namespace Go.Proofs.YtgmphfagflhglaaDoor
open Go.RowKit Go.IntWalk

/-- The document's table in memory, at a place of a block: what was told, what is used; F: its blocks. -/
structure TabIn (T : TypeId) (o B : Nat) (w : World) (x : Nat) (cs : Array Value) (ds us : Df) (F : Nat → Prop) : Prop where
  ex : ∃ v u, BlkAt x T cs w ∧ cs[o]? = some v ∧ cs[o + 1]? = some u ∧ OwnEl rowK w B 98 v ds ∧ OwnEl rowK w B 98 u us ∧ Apart v u ∧ (∀ j, v.ownBlock = some j → F j) ∧ (∀ j, u.ownBlock = some j → F j)
  own : F x
  low : ∀ j, F j → B ≤ j ∧ j < w.heap.size
  typ : T ≠ 98
theorem TabIn.kept {T : TypeId} {o B x : Nat} {cs : Array Value} {w w' : World} {ds us : Df} {F G : Nat → Prop} (h : TabIn T o B w x cs ds us F) (k : Keeps G w w') (hn : ∀ j, F j → ¬ G j) : TabIn T o B w' x cs ds us F := by
  obtain ⟨v, u, h1, g1, g2, h2, h3, h4, h5, h6⟩ := h.ex
  exact ⟨⟨v, u, h1.kept k (hn _ h.own), g1, g2, h2.kept k fun j q => hn j (h5 j q), h3.kept k fun j q => hn j (h6 j q), h4, h5, h6⟩, h.own, fun j q => ⟨(h.low j q).1, Nat.lt_of_lt_of_le (h.low j q).2 k.size⟩, h.typ⟩
theorem TabIn.keep {T : TypeId} {o B x : Nat} {cs : Array Value} {w w' : World} {ds us : Df} {F : Nat → Prop} (h : TabIn T o B w x cs ds us F) (k : Below w.heap.size w w') : TabIn T o B w' x cs ds us F :=
  h.kept (Keeps.of_below (fun _ => False) k) fun _ _ q => q
/-- The same table, where the block's other cells are others. -/
theorem TabIn.of {T : TypeId} {o B x : Nat} {cs cs' : Array Value} {w w' : World} {ds us : Df} {F G : Nat → Prop} (h : TabIn T o B w x cs ds us F) (hb : BlkAt x T cs' w') (e0 : cs'[o]? = cs[o]?) (e1 : cs'[o + 1]? = cs[o + 1]?) (k : Keeps G w w') (hn : ∀ j, F j → j ≠ x → ¬ G j) : TabIn T o B w' x cs' ds us F := by
  obtain ⟨v, u, h1, g1, g2, h2, h3, h4, h5, h6⟩ := h.ex
  have a := own_off_type h2 h1 h.typ
  have b := own_off_type h3 h1 h.typ
  exact ⟨⟨v, u, hb, e0.trans g1, e1.trans g2, h2.kept k fun j q => hn j (h5 j q) (fun e => a (e ▸ q)), h3.kept k fun j q => hn j (h6 j q) (fun e => b (e ▸ q)), h4, h5, h6⟩, h.own, fun j q => ⟨(h.low j q).1, Nat.lt_of_lt_of_le (h.low j q).2 k.size⟩, h.typ⟩
/-- What a call that tells leaves. -/
def TabTo (T : TypeId) (o B x : Nat) (cs : Array Value) (k : Int) (ds us : Df) (F : Nat → Prop) (w : World) (e : Ending) (w' : World) : Prop :=
  ∃ cs' F', e = .returned (.int .i64 k) ∧ TabIn T o B w' x cs' ds us F' ∧ Grows F w F' w' ∧ cs'.size = cs.size ∧ ∀ i, i ≠ o → i ≠ o + 1 → cs'[i]? = cs[i]?
set_option maxHeartbeats 2000000 in
theorem refPlace19o_is (T : TypeId) (o B x : Nat) (cs : Array Value) (ds us : Df) (F : Nat → Prop) (s : ByteArray) (w : World) (h : TabIn T o B w x cs ds us F) (hn : ds.length ≤ 1000) :
    Calls Tryd.prog 47 #[.pointer (some ⟨x, o, none⟩), .string s] w fun e w' => e = .returned (.tuple #[.int .i64 (plV ds s), .bool (plB ds s)]) ∧ w = w' := by
  obtain ⟨v, u, h1, g1, g2, h2, -⟩ := h.ex
  obtain ⟨a, c, rfl, h3⟩ := h2.at
  clear h2 h g2
  obtain ⟨n, hnl⟩ : ∃ n, ds.length = n := ⟨_, rfl⟩
  rw [hnl] at g1 h3 hn
  have c0 : w.cell? ⟨x, o, none⟩ = some (.slice a n c) := (h1.cell o).trans g1
  have HL := Lib.hid hnl
  have H3 := Lib.hid h3
  clear h1 h3 hnl g1
  go_enter Tryd.func47, Tryd.ntmps47
  go_wp2
  go_loop [6] (fun i => ∃ k : Nat, k ≤ n ∧ i = .int .i64 k ∧ ∀ j, j < k → (el ds j).1 ≠ s) (fun i => n - (intOf i).toNat)
  case atStart => exact ⟨0, by omega, rfl, fun j hj => by omega⟩
  case round =>
    obtain ⟨k, hk, rfl, hno⟩ := hrel
    have HNO := Lib.hid hno
    clear hno
    by_cases hlt : k < n
    · have hlt' : (k : Int) < n := by omega
      obtain ⟨b, off, rfl, d0, d1⟩ := H3.out.row hlt
      by_cases he : (el ds k).1 = s
      · obtain ⟨p1, p2⟩ := pl_hit (n := s) (by rw [HL.out]; exact hlt) HNO.out he
        have P1 := Lib.hid p1
        have P2 := Lib.hid p2
        have ht := str_same he
        clear p1 p2 he
        go_wp2
        go_ret2
        exact ⟨by rw [P1.out, P2.out]; first | done | rfl, rfl⟩
      · have HE := Lib.hid he
        have ht := str_apart he
        clear he
        go_wp2
        go_round
        case rel => exact ⟨k + 1, by omega, by go_num, fun j hj => by
          rcases Nat.lt_succ_iff_lt_or_eq.1 hj with q | q
          · exact HNO.out j q
          · subst q; exact HE.out⟩
        case measure => simp [intOf]; omega
    · obtain ⟨p1, p2⟩ := pl_none (ds := ds) (n := s) (fun d hd => by
        obtain ⟨j, hj, rfl⟩ := List.mem_iff_getElem.1 hd
        rw [el_eq hj]
        exact HNO.out j (by have := HL.out; omega))
      have P1 := Lib.hid p1
      have P2 := Lib.hid p2
      clear p1 p2
      obtain rfl : k = n := by omega
      go_wp2
      go_ret2
      exact ⟨by rw [P1.out, P2.out]; first | done | rfl, rfl⟩
/-- One of the table's two lists has grown, its header is stored. -/
theorem TabIn.grown0 {T : TypeId} {o B x : Nat} {ds us : Df} {ct : Array Value} {F : Nat → Prop} {w w1 : World} {v u v' : Value} {ds' : Df} {cs : Array Value}
    (h1 : BlkAt x T ct w) (g1 : ct[o]? = some v) (g2 : ct[o + 1]? = some u) (h2 : OwnEl rowK w B 98 v ds) (h3 : OwnEl rowK w B 98 u us) (h4 : Apart v u) (h5 : ∀ j, v.ownBlock = some j → F j) (h6 : ∀ j, u.ownBlock = some j → F j) (hF : F x) (hl : ∀ j, F j → B ≤ j ∧ j < w.heap.size) (hT : T ≠ 98)
    (hB : B ≤ w.heap.size) (o1 : OwnEl rowK w1 B 98 v' ds') (hg : (w.alloc (.cells cs 98)).grownBy w1 v.ownBlock) (hx : Nexts (w.alloc (.cells cs 98)) v v') :
    TabIn T o B (w1.setCell ⟨x, o, none⟩ v') x (ct.setIfInBounds o v') ds' us (Wide F w (w1.setCell ⟨x, o, none⟩ v')) ∧ Grows F w (Wide F w (w1.setCell ⟨x, o, none⟩ v')) (w1.setCell ⟨x, o, none⟩ v') ∧ (ct.setIfInBounds o v').size = ct.size ∧ ∀ i, i ≠ o → i ≠ o + 1 → (ct.setIfInBounds o v')[i]? = ct[i]? := by
  have hz : o < ct.size := (Array.getElem?_eq_some_iff.1 g1).1
  have hvx : v.ownBlock ≠ some x := own_off_type h2 h1 hT
  have hux : u.ownBlock ≠ some x := own_off_type h3 h1 hT
  have k0 : Keeps F w (w.alloc (.cells cs 98)) := Keeps.of_below F ((Below.refl _ _).alloc (Nat.le_refl _) _)
  have k1 : Keeps F (w.alloc (.cells cs 98)) w1 := Keeps.of_grown hg h5
  have k2 : Keeps F w1 (w1.setCell ⟨x, o, none⟩ v') := Keeps.set hF _ _ _
  have K := (k0.trans k1).trans k2
  have b1 : BlkAt x T ct w1 := by
    have kx : Keeps (fun j => v.ownBlock = some j) (w.alloc (.cells cs 98)) w1 := Keeps.of_grown hg fun _ q => q
    exact (h1.keep ((Below.refl _ _).alloc (Nat.le_refl _) _)).kept kx hvx
  have hv'x : v'.ownBlock ≠ some x := own_off_type o1 b1 hT
  have o3 : OwnEl rowK w1 B 98 u us := by
    have kx : Keeps (fun j => v.ownBlock = some j) (w.alloc (.cells cs 98)) w1 := Keeps.of_grown hg fun _ q => q
    exact (h3.keep ((Below.refl _ _).alloc (Nat.le_refl _) _)).kept kx fun j q r => h4 j r q
  refine ⟨⟨⟨v', u, b1.set o v', by rw [Array.getElem?_setIfInBounds, if_pos rfl, if_pos hz], by rw [Array.getElem?_setIfInBounds, if_neg (by omega)]; exact g2, o1.kept (Keeps.set1 w1 x o v') fun j q e => hv'x (e ▸ q), o3.kept (Keeps.set1 w1 x o v') fun j q e => hux (e ▸ q), ?_, ?_, ?_⟩, .inl hF, ?_, hT⟩, Wide.grows K, Array.size_setIfInBounds .., fun i h1 h2 => by rw [Array.getElem?_setIfInBounds, if_neg (by omega)]⟩
  · exact h4.next hx fun j q => by have := (h3.lt j q).2; simp; omega
  · intro j q
    rcases hx j q with r | r
    · exact .inl (h5 j r)
    · refine .inr ⟨by simp at r; omega, ?_⟩
      have := (o1.lt j q).2
      simpa using this
  · exact fun j q => .inl (h6 j q)
  · rintro j (q | q)
    · exact ⟨(hl j q).1, Nat.lt_of_lt_of_le (hl j q).2 K.size⟩
    · exact ⟨by omega, q.2⟩
theorem TabIn.grown1 {T : TypeId} {o B x : Nat} {ds us : Df} {ct : Array Value} {F : Nat → Prop} {w w1 : World} {v u u' : Value} {us' : Df} {cs : Array Value}
    (h1 : BlkAt x T ct w) (g1 : ct[o]? = some v) (g2 : ct[o + 1]? = some u) (h2 : OwnEl rowK w B 98 v ds) (h3 : OwnEl rowK w B 98 u us) (h4 : Apart v u) (h5 : ∀ j, v.ownBlock = some j → F j) (h6 : ∀ j, u.ownBlock = some j → F j) (hF : F x) (hl : ∀ j, F j → B ≤ j ∧ j < w.heap.size) (hT : T ≠ 98)
    (hB : B ≤ w.heap.size) (o1 : OwnEl rowK w1 B 98 u' us') (hg : (w.alloc (.cells cs 98)).grownBy w1 u.ownBlock) (hx : Nexts (w.alloc (.cells cs 98)) u u') :
    TabIn T o B (w1.setCell ⟨x, o + 1, none⟩ u') x (ct.setIfInBounds (o + 1) u') ds us' (Wide F w (w1.setCell ⟨x, o + 1, none⟩ u')) ∧ Grows F w (Wide F w (w1.setCell ⟨x, o + 1, none⟩ u')) (w1.setCell ⟨x, o + 1, none⟩ u') ∧ (ct.setIfInBounds (o + 1) u').size = ct.size ∧ ∀ i, i ≠ o → i ≠ o + 1 → (ct.setIfInBounds (o + 1) u')[i]? = ct[i]? := by
  have hz : o + 1 < ct.size := (Array.getElem?_eq_some_iff.1 g2).1
  have hvx : v.ownBlock ≠ some x := own_off_type h2 h1 hT
  have hux : u.ownBlock ≠ some x := own_off_type h3 h1 hT
  have k0 : Keeps F w (w.alloc (.cells cs 98)) := Keeps.of_below F ((Below.refl _ _).alloc (Nat.le_refl _) _)
  have k1 : Keeps F (w.alloc (.cells cs 98)) w1 := Keeps.of_grown hg h6
  have k2 : Keeps F w1 (w1.setCell ⟨x, o + 1, none⟩ u') := Keeps.set hF _ _ _
  have K := (k0.trans k1).trans k2
  have kx : Keeps (fun j => u.ownBlock = some j) (w.alloc (.cells cs 98)) w1 := Keeps.of_grown hg fun _ q => q
  have b1 : BlkAt x T ct w1 := (h1.keep ((Below.refl _ _).alloc (Nat.le_refl _) _)).kept kx hux
  have hu'x : u'.ownBlock ≠ some x := own_off_type o1 b1 hT
  have o2 : OwnEl rowK w1 B 98 v ds := (h2.keep ((Below.refl _ _).alloc (Nat.le_refl _) _)).kept kx fun j q r => h4 j q r
  refine ⟨⟨⟨v, u', b1.set (o + 1) u', by rw [Array.getElem?_setIfInBounds, if_neg (by omega)]; exact g1, by rw [Array.getElem?_setIfInBounds, if_pos rfl, if_pos hz], o2.kept (Keeps.set1 w1 x (o + 1) u') fun j q e => hvx (e ▸ q), o1.kept (Keeps.set1 w1 x (o + 1) u') fun j q e => hu'x (e ▸ q), ?_, ?_, ?_⟩, .inl hF, ?_, hT⟩, Wide.grows K, Array.size_setIfInBounds .., fun i h1 h2 => by rw [Array.getElem?_setIfInBounds, if_neg (by omega)]⟩
  · exact (h4.symm.next hx fun j q => by have := (h2.lt j q).2; simp; omega).symm
  · exact fun j q => .inl (h5 j q)
  · intro j q
    rcases hx j q with r | r
    · exact .inl (h6 j r)
    · refine .inr ⟨by simp at r; omega, ?_⟩
      have := (o1.lt j q).2
      simpa using this
  · rintro j (q | q)
    · exact ⟨(hl j q).1, Nat.lt_of_lt_of_le (hl j q).2 K.size⟩
    · exact ⟨by omega, q.2⟩
set_option maxRecDepth 100000 in
set_option maxHeartbeats 2000000 in
theorem refUse19o_is (T : TypeId) (o B x : Nat) (cs : Array Value) (ds us : Df) (F : Nat → Prop) (s : ByteArray) (p : Int) (w : World) (h : TabIn T o B w x cs ds us F) (hs : s.size ≤ maxLen) (hn : us.length ≤ 1000) (hB : B ≤ w.heap.size) :
    Calls Tryd.prog 40 #[.pointer (some ⟨x, o, none⟩), .string s, .int .i64 p] w (TabTo T o B x cs (useE s) ds (useS us s p) F w) := by
  cases hb : nameB s
  · obtain ⟨e1, e2⟩ := use_no (us := us) p hb
    rw [e1, e2]
    have HB := Lib.hid hb
    have H := Lib.hid h
    clear h e1 e2 hb
    have C := Lib.hid fun w => refIs19_is s w hs
    clear hs
    go_enter Tryd.func40, Tryd.ntmps40
    go_wp2_with (go_at_call 54; ((with_reducible refine (C.out _).mono ?_); rintro e w1 ⟨rfl, rfl⟩); have hb := HB.out)
    go_ret
    exact ⟨cs, F, rfl, H.out, Grows.refl _ _, rfl, fun _ _ _ => rfl⟩
  · obtain ⟨e1, e2⟩ := use_yes (us := us) p hb
    rw [e1, e2]
    obtain ⟨v, u, h1, g1, g2, h2, h3, h4, h5, h6⟩ := h.ex
    have hT := h.typ
    obtain ⟨i0, hi, hz0, hz1, hz2⟩ := info_el infoRow
    have c1 : w.cell? ⟨x, o + 1, none⟩ = some u := (h1.cell (o + 1)).trans g2
    have G1 := Lib.hid g1
    have G2 := Lib.hid g2
    have hx1 := h1.lt
    have HB := Lib.hid hb
    have H := Lib.hid h
    have H1 := Lib.hid h1
    have H2 := Lib.hid h2
    have H3 := Lib.hid h3
    have H4 := Lib.hid h4
    have H5 := Lib.hid h5
    have H6 := Lib.hid h6
    have HUX := Lib.hid (own_off_type h3 h1 hT)
    clear h e1 e2 hb h1 h2 h3 h4 h5 h6 g1 g2
    have C := Lib.hid fun w => refIs19_is s w hs
    clear hs
    go_enter Tryd.func40, Tryd.ntmps40
    go_wp2_with (first
      | (go_at_call 54; ((with_reducible refine (C.out _).mono ?_); rintro e w1 ⟨rfl, rfl⟩); have hb := HB.out)
      | (at_builtin; refine wpList_append_el1 rfl _ _ 33 rfl B 98 i0 _ Tryd.underlying33 hi hz0 hz1 (by omega) rfl rfl (H3.out.keep ((Below.refl _ _).alloc (Nat.le_refl _) _)) rfl (one_el (K := rowK) (b := w.heap.size) w 98 (s, p) #[.string s, .int .i64 p] rfl rfl) (by omega) (by simp; omega) ?_; intro v2 w2 hown2 hgrow2 hnext2; obtain ⟨a2, n2, c2, rfl⟩ := OwnEl.shape hown2; have hbk : BlkAt x T cs w2 := (H1.out.keep ((Below.refl _ _).alloc (Nat.le_refl _) _)).kept (Keeps.of_grown (F := fun j => u.ownBlock = some j) hgrow2 fun _ q => q) HUX.out; have q1 := (hbk.cell (o + 1)).trans G2.out; have q2 := hbk.free (o + 1); have HG := Lib.hid (TabIn.grown1 H1.out G1.out G2.out H2.out H3.out H4.out H5.out H6.out H.out.own H.out.low H.out.typ hB hown2 hgrow2 hnext2); clear hown2 hgrow2 hnext2 hbk))
    go_ret
    exact ⟨_, _, rfl, HG.out.1, HG.out.2.1, HG.out.2.2.1, HG.out.2.2.2⟩
set_option maxRecDepth 100000 in
set_option maxHeartbeats 2000000 in
theorem refDefine19o_is (T : TypeId) (o B x : Nat) (cs : Array Value) (ds us : Df) (F : Nat → Prop) (s : ByteArray) (p : Int) (w : World) (h : TabIn T o B w x cs ds us F) (hs : s.size ≤ maxLen) (hn : ds.length ≤ 1000) (hB : B ≤ w.heap.size) :
    Calls Tryd.prog 38 #[.pointer (some ⟨x, o, none⟩), .string s, .int .i64 p] w (TabTo T o B x cs (defE ds s) (defS ds s p) us F w) := by
  have C := Lib.hid fun w => refIs19_is s w hs
  clear hs
  have CP := Lib.hid fun w h => refPlace19o_is T o B x cs ds us F s w h hn
  cases hb : nameB s
  · obtain ⟨e1, e2⟩ := def_no (ds := ds) p hb
    rw [e1, e2]
    have HB := Lib.hid hb
    have H := Lib.hid h
    clear h e1 e2 hb
    go_enter Tryd.func38, Tryd.ntmps38
    go_wp2_with (go_at_call 54; ((with_reducible refine (C.out _).mono ?_); rintro e w1 ⟨rfl, rfl⟩); have hb := HB.out)
    go_ret
    exact ⟨cs, F, rfl, H.out, Grows.refl _ _, rfl, fun _ _ _ => rfl⟩
  · cases hp : plB ds s
    · obtain ⟨e1, e2⟩ := def_yes (ds := ds) p hb hp
      rw [e1, e2]
      obtain ⟨v, u, h1, g1, g2, h2, h3, h4, h5, h6⟩ := h.ex
      have hT := h.typ
      obtain ⟨i0, hi, hz0, hz1, hz2⟩ := info_el infoRow
      have c1 : w.cell? ⟨x, o, none⟩ = some v := (h1.cell o).trans g1
      have G1 := Lib.hid g1
      have G2 := Lib.hid g2
      have hx1 := h1.lt
      have HB := Lib.hid hb
      have HP := Lib.hid hp
      have H := Lib.hid h
      have H1 := Lib.hid h1
      have H2 := Lib.hid h2
      have H3 := Lib.hid h3
      have H4 := Lib.hid h4
      have H5 := Lib.hid h5
      have H6 := Lib.hid h6
      have HUX := Lib.hid (own_off_type h2 h1 hT)
      clear h e1 e2 hb h1 h2 h3 h4 h5 h6 g1 g2 hp
      go_enter Tryd.func38, Tryd.ntmps38
      go_wp2_with (first
        | (go_at_call 54; ((with_reducible refine (C.out _).mono ?_); rintro e w1 ⟨rfl, rfl⟩); have hb := HB.out)
        | (go_at_call 47; ((with_reducible refine (CP.out _ H.out).mono ?_); rintro e w1 ⟨rfl, rfl⟩); have hp := HP.out)
        | (at_builtin; refine wpList_append_el1 rfl _ _ 33 rfl B 98 i0 _ Tryd.underlying33 hi hz0 hz1 (by omega) rfl rfl (H2.out.keep ((Below.refl _ _).alloc (Nat.le_refl _) _)) rfl (one_el (K := rowK) (b := w.heap.size) w 98 (s, p) #[.string s, .int .i64 p] rfl rfl) (by omega) (by simp; omega) ?_; intro v2 w2 hown2 hgrow2 hnext2; obtain ⟨a2, n2, c2, rfl⟩ := OwnEl.shape hown2; have hbk : BlkAt x T cs w2 := (H1.out.keep ((Below.refl _ _).alloc (Nat.le_refl _) _)).kept (Keeps.of_grown (F := fun j => v.ownBlock = some j) hgrow2 fun _ q => q) HUX.out; have q1 := (hbk.cell o).trans G1.out; have q2 := hbk.free o; have HG := Lib.hid (TabIn.grown0 H1.out G1.out G2.out H2.out H3.out H4.out H5.out H6.out H.out.own H.out.low H.out.typ hB hown2 hgrow2 hnext2); clear hown2 hgrow2 hnext2 hbk))
      go_ret
      exact ⟨_, _, rfl, HG.out.1, HG.out.2.1, HG.out.2.2.1, HG.out.2.2.2⟩
    · obtain ⟨e1, e2⟩ := def_twice (ds := ds) p hb hp
      rw [e1, e2]
      have HB := Lib.hid hb
      have HP := Lib.hid hp
      have H := Lib.hid h
      clear h e1 e2 hb hp
      go_enter Tryd.func38, Tryd.ntmps38
      go_wp2_with (first
        | (go_at_call 54; ((with_reducible refine (C.out _).mono ?_); rintro e w1 ⟨rfl, rfl⟩); have hb := HB.out)
        | (go_at_call 47; ((with_reducible refine (CP.out _ H.out).mono ?_); rintro e w1 ⟨rfl, rfl⟩); have hp := HP.out))
      go_ret
      exact ⟨cs, F, rfl, H.out, Grows.refl _ _, rfl, fun _ _ _ => rfl⟩
set_option maxRecDepth 100000 in
set_option maxHeartbeats 2000000 in
theorem refResolve19o_is (T : TypeId) (o B x : Nat) (cs : Array Value) (ds us : Df) (F : Nat → Prop) (w : World) (h : TabIn T o B w x cs ds us F) (hd : ds.length ≤ 1000) (hn : us.length ≤ 1000) :
    Calls Tryd.prog 29 #[.pointer (some ⟨x, o, none⟩)] w (RetRes ds us w) := by
  have CP := Lib.hid fun s w h => refPlace19o_is T o B x cs ds us F s w h hd
  obtain ⟨v0, u, h1, -, g2, -, h3, -⟩ := h.ex
  obtain ⟨a, c, rfl, h4⟩ := h3.at
  obtain ⟨i0, hi, hz0, hz1, hz2⟩ := info_el infoFix
  obtain ⟨n, hnl⟩ : ∃ n, us.length = n := ⟨_, rfl⟩
  rw [hnl] at g2 h4 hn
  have G2 := Lib.hid g2
  have HNL := Lib.hid hnl
  have H := Lib.hid h
  have H1 := Lib.hid h1
  have H4 := Lib.hid h4
  clear h h1 h3 h4 hnl hd g2
  go_enter Tryd.func29, Tryd.ntmps29
  go_wp2
  go_loopw [5, 6] (fun v i wr => ∃ k : Nat, k ≤ n ∧ i = .int .i64 k ∧ OwnEl fixK wr w.heap.size 68 v ((us.take k).map (fixOf ds)) ∧ Below w.heap.size w wr ∧ ∀ j, j < k → plB ds (el us j).1 = true) (fun _ i _ => n - (intOf i).toNat)
  case atStart => exact ⟨0, by omega, rfl, by rw [List.take_zero]; exact OwnEl.nil _ _ _ _, Below.refl _ _, fun j hj => by omega⟩
  case round =>
    obtain ⟨k, hk, rfl, ho, hb, hall⟩ := hrel
    have HA := Lib.hid hall
    have HO := Lib.hid ho
    have HB := Lib.hid hb
    have hsz := hb.size
    have c1 : wr.cell? ⟨x, o + 1, none⟩ = some (.slice a n c) := ((H1.out.keep hb).cell (o + 1)).trans G2.out
    have HR := Lib.hid (H.out.keep hb)
    by_cases hlt : k < n
    · have hlt' : (k : Int) < n := by omega
      have hkl : k < us.length := by rw [HNL.out]; exact hlt
      obtain ⟨b, off, rfl, d0, d1⟩ := (H4.out.keep hb).row hlt
      have HFS := Lib.hid (fixes_snoc ds us hkl)
      have HRN := Lib.hid (@res_no ds us k hkl HA.out)
      obtain ⟨M, hM⟩ : ∃ M, el us k = M := ⟨_, rfl⟩
      obtain ⟨s, at_⟩ := M
      rw [hM] at d0 d1 HFS HRN
      simp only at d0 d1 HFS HRN
      obtain ⟨L, hL⟩ : ∃ L, (us.take k).map (fixOf ds) = L := ⟨_, rfl⟩
      rw [hL] at HO HFS
      have hLl : L.length ≤ 1000 := by rw [← hL, List.length_map, List.length_take]; omega
      have HM := Lib.hid hM
      clear ho hb hall hM hL hkl
      cases hp : plB ds s
      · have HN := Lib.hid (HRN.out hp)
        have HP := Lib.hid hp
        clear hp
        go_wp2_with (go_at_call 47; ((with_reducible refine (CP.out _ _ HR.out).mono ?_); rintro e w1 ⟨rfl, rfl⟩); have hp := HP.out)
        go_quiet (fail)
        go_wp2
        refine bodyPost_ret (v := .tuple #[.slice none 0 0, .string s, .int .i64 10]) (by simp [results, Tryd.results29, go_sem]) rfl ⟨.slice none 0 0, ?_, ?_, ?_⟩
        · rw [HN.out.2.1, HN.out.2.2.1]
        · rw [HN.out.1]; exact OwnEl.nil _ _ _ _
        · exact ⟨HB.out.os, HB.out.tape, HB.out.output, HB.out.size, HB.out.block⟩
      · have HP := Lib.hid hp
        obtain ⟨a0, n0, c0, rfl⟩ := OwnEl.shape HO.out
        clear hp
        go_wp2_with (first
          | (go_at_call 47; ((with_reducible refine (CP.out _ _ HR.out).mono ?_); rintro e w1 ⟨rfl, rfl⟩); have hp := HP.out)
          | (at_builtin; refine wpList_append_el1 rfl _ _ 63 rfl w.heap.size 68 i0 _ Tryd.underlying63 hi hz0 hz1 (by omega) rfl rfl (HO.out.keep ((Below.refl _ _).alloc (Nat.le_refl _) _)) rfl (one_el (K := fixK) (b := wr.heap.size) wr 68 (at_, plV ds s) #[.int .i64 at_, .int .i64 (plV ds s)] rfl rfl) (by omega) (by simp; omega) ?_; intro v2 w2 hown2 hgrow2 hnext2; have HO2 := Lib.hid hown2; have HB2 := Lib.hid ((HB.out.alloc hsz _).grown hgrow2 (by simp; omega) fun j hj => (HO.out.lt j hj).1); obtain ⟨a2, n2, c2, rfl⟩ := OwnEl.shape hown2; clear hown2 hgrow2 hnext2))
        go_roundw
        case rel => exact ⟨k + 1, by omega, by go_num, by rw [HFS.out]; exact HO2.out, HB2.out, fun j hj => by
          rcases Nat.lt_succ_iff_lt_or_eq.1 hj with q | q
          · exact HA.out j q
          · subst q; rw [HM.out]; exact HP.out⟩
        case measure => simp [intOf]; omega
    · obtain rfl : k = n := by omega
      have HY := Lib.hid (@res_yes ds us (fun j hj => HA.out j (by have := HNL.out; omega)))
      clear ho hb hall
      obtain ⟨a0, n0, c0, rfl⟩ := OwnEl.shape HO.out
      go_wp2
      refine bodyPost_ret (v := .tuple #[.slice a0 n0 c0, .string ⟨#[]⟩, .int .i64 0]) (by simp [results, Tryd.results29, go_sem]) rfl ⟨.slice a0 n0 c0, ?_, ?_, HB.out⟩
      · rw [HY.out.2.1, HY.out.2.2.1]
      · have := HO.out
        rw [HY.out.1]
        rw [← HNL.out, List.take_length] at this
        exact this
end Go.Proofs.YtgmphfagflhglaaDoor
