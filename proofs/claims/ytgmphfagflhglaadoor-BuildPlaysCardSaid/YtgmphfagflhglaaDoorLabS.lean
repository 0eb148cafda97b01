/- The document's own names of places: what Define, Use, Resolve and Names leave and answer. Conditions: as few as 1000. -/
import Derived.Test.YtgmphfagflhglaaDoorLabR
namespace Go.Proofs.YtgmphfagflhglaaDoor
open Go.RowKit Go.IntWalk

/-- What a call that tells leaves. -/
def RefTo (B x : Nat) (k : Int) (ds us : Df) (F : Nat → Prop) (w : World) (e : Ending) (w' : World) : Prop := ∃ F', e = .returned (.int .i64 k) ∧ RefAt B w' x ds us F' ∧ Grows F w F' w'
/-- One of the table's two lists has grown, its header is stored. -/
theorem RefAt.grown0 {B x : Nat} {ds us : Df} {F : Nat → Prop} {w w1 : World} {v u v' : Value} {ds' : Df} {cs : Array Value}
    (h1 : BlkAt x 35 #[v, u] w) (h2 : OwnEl rowK w B 98 v ds) (h3 : OwnEl rowK w B 98 u us) (h4 : Apart v u) (h5 : ∀ j, v.ownBlock = some j → F j) (h6 : ∀ j, u.ownBlock = some j → F j) (hF : F x) (hl : ∀ j, F j → B ≤ j ∧ j < w.heap.size)
    (hB : B ≤ w.heap.size) (o1 : OwnEl rowK w1 B 98 v' ds') (hg : (w.alloc (.cells cs 98)).grownBy w1 v.ownBlock) (hx : Nexts (w.alloc (.cells cs 98)) v v') :
    RefAt B (w1.setCell ⟨x, 0, none⟩ v') x ds' us (Wide F w (w1.setCell ⟨x, 0, none⟩ v')) ∧ Grows F w (Wide F w (w1.setCell ⟨x, 0, none⟩ v')) (w1.setCell ⟨x, 0, none⟩ v') := by
  have hvx : v.ownBlock ≠ some x := own_off_type h2 h1 (by decide)
  have hux : u.ownBlock ≠ some x := own_off_type h3 h1 (by decide)
  have k0 : Keeps F w (w.alloc (.cells cs 98)) := Keeps.of_below F ((Below.refl _ _).alloc (Nat.le_refl _) _)
  have k1 : Keeps F (w.alloc (.cells cs 98)) w1 := Keeps.of_grown hg h5
  have k2 : Keeps F w1 (w1.setCell ⟨x, 0, none⟩ v') := Keeps.set hF _ _ _
  have K := (k0.trans k1).trans k2
  have b1 : BlkAt x 35 #[v, u] w1 := by
    have kx : Keeps (fun j => v.ownBlock = some j) (w.alloc (.cells cs 98)) w1 := Keeps.of_grown hg fun _ q => q
    exact (h1.keep ((Below.refl _ _).alloc (Nat.le_refl _) _)).kept kx hvx
  have hv'x : v'.ownBlock ≠ some x := own_off_type o1 b1 (by decide)
  have o3 : OwnEl rowK w1 B 98 u us := by
    have kx : Keeps (fun j => v.ownBlock = some j) (w.alloc (.cells cs 98)) w1 := Keeps.of_grown hg fun _ q => q
    exact (h3.keep ((Below.refl _ _).alloc (Nat.le_refl _) _)).kept kx fun j q r => h4 j r q
  refine ⟨⟨⟨v', u, (b1.set 0 v').eq rfl, o1.kept (Keeps.set1 w1 x 0 v') fun j q e => hv'x (e ▸ q), o3.kept (Keeps.set1 w1 x 0 v') fun j q e => hux (e ▸ q), ?_, ?_, ?_⟩, .inl hF, ?_⟩, Wide.grows K⟩
  · exact h4.next hx fun j q => by have := (h3.lt j q).2; simp; omega
  · intro j q
    rcases hx j q with r | r
    · exact .inl (h5 j r)
    · refine .inr ⟨by simp at r; omega, ?_⟩
      have := (o1.lt j q).2
      simpa using this
  · exact fun j q => .inl (h6 j q)
  · rintro j (q | q)
    · exact ⟨(hl j q).1, Nat.lt_of_lt_of_le (hl j q).2 K.size⟩
    · exact ⟨by omega, q.2⟩
theorem RefAt.grown1 {B x : Nat} {ds us : Df} {F : Nat → Prop} {w w1 : World} {v u u' : Value} {us' : Df} {cs : Array Value}
    (h1 : BlkAt x 35 #[v, u] w) (h2 : OwnEl rowK w B 98 v ds) (h3 : OwnEl rowK w B 98 u us) (h4 : Apart v u) (h5 : ∀ j, v.ownBlock = some j → F j) (h6 : ∀ j, u.ownBlock = some j → F j) (hF : F x) (hl : ∀ j, F j → B ≤ j ∧ j < w.heap.size)
    (hB : B ≤ w.heap.size) (o1 : OwnEl rowK w1 B 98 u' us') (hg : (w.alloc (.cells cs 98)).grownBy w1 u.ownBlock) (hx : Nexts (w.alloc (.cells cs 98)) u u') :
    RefAt B (w1.setCell ⟨x, 1, none⟩ u') x ds us' (Wide F w (w1.setCell ⟨x, 1, none⟩ u')) ∧ Grows F w (Wide F w (w1.setCell ⟨x, 1, none⟩ u')) (w1.setCell ⟨x, 1, none⟩ u') := by
  have hvx : v.ownBlock ≠ some x := own_off_type h2 h1 (by decide)
  have hux : u.ownBlock ≠ some x := own_off_type h3 h1 (by decide)
  have k0 : Keeps F w (w.alloc (.cells cs 98)) := Keeps.of_below F ((Below.refl _ _).alloc (Nat.le_refl _) _)
  have k1 : Keeps F (w.alloc (.cells cs 98)) w1 := Keeps.of_grown hg h6
  have k2 : Keeps F w1 (w1.setCell ⟨x, 1, none⟩ u') := Keeps.set hF _ _ _
  have K := (k0.trans k1).trans k2
  have kx : Keeps (fun j => u.ownBlock = some j) (w.alloc (.cells cs 98)) w1 := Keeps.of_grown hg fun _ q => q
  have b1 : BlkAt x 35 #[v, u] w1 := (h1.keep ((Below.refl _ _).alloc (Nat.le_refl _) _)).kept kx hux
  have hu'x : u'.ownBlock ≠ some x := own_off_type o1 b1 (by decide)
  have o2 : OwnEl rowK w1 B 98 v ds := (h2.keep ((Below.refl _ _).alloc (Nat.le_refl _) _)).kept kx fun j q r => h4 j q r
  refine ⟨⟨⟨v, u', (b1.set 1 u').eq rfl, o2.kept (Keeps.set1 w1 x 1 u') fun j q e => hvx (e ▸ q), o1.kept (Keeps.set1 w1 x 1 u') fun j q e => hu'x (e ▸ q), ?_, ?_, ?_⟩, .inl hF, ?_⟩, Wide.grows K⟩
  · exact (h4.symm.next hx fun j q => by have := (h2.lt j q).2; simp; omega).symm
  · exact fun j q => .inl (h5 j q)
  · intro j q
    rcases hx j q with r | r
    · exact .inl (h6 j r)
    · refine .inr ⟨by simp at r; omega, ?_⟩
      have := (o1.lt j q).2
      simpa using this
  · rintro j (q | q)
    · exact ⟨(hl j q).1, Nat.lt_of_lt_of_le (hl j q).2 K.size⟩
    · exact ⟨by omega, q.2⟩
set_option maxRecDepth 100000 in
set_option maxHeartbeats 2000000 in
theorem refUse19_is (B x : Nat) (ds us : Df) (F : Nat → Prop) (s : ByteArray) (p : Int) (w : World) (h : RefAt B w x ds us F) (hs : s.size ≤ maxLen) (hn : us.length ≤ 1000) (hB : B ≤ w.heap.size) :
    Calls Tryd.prog 40 #[.pointer (some ⟨x, 0, none⟩), .string s, .int .i64 p] w (RefTo B x (useE s) ds (useS us s p) F w) := by
  cases hb : nameB s
  · obtain ⟨e1, e2⟩ := use_no (us := us) p hb
    rw [e1, e2]
    have HB := Lib.hid hb
    have H := Lib.hid h
    clear h e1 e2 hb
    have C := Lib.hid fun w => refIs19_is s w hs
    clear hs
    go_enter Tryd.func40, Tryd.ntmps40
    go_wp2_with (go_at_call 54; ((with_reducible refine (C.out _).mono ?_); rintro e w1 ⟨rfl, rfl⟩); have hb := HB.out)
    go_ret
    exact ⟨F, rfl, H.out, Grows.refl _ _⟩
  · obtain ⟨e1, e2⟩ := use_yes (us := us) p hb
    rw [e1, e2]
    obtain ⟨v, u, h1, h2, h3, h4, h5, h6⟩ := h.ex
    obtain ⟨i0, hi, hz0, hz1, hz2⟩ := info_el infoRow
    have c1 : w.cell? ⟨x, 1, none⟩ = some u := h1.cell 1
    have hx1 := h1.lt
    have HB := Lib.hid hb
    have H := Lib.hid h
    have H1 := Lib.hid h1
    have H2 := Lib.hid h2
    have H3 := Lib.hid h3
    have H4 := Lib.hid h4
    have H5 := Lib.hid h5
    have H6 := Lib.hid h6
    have HUX := Lib.hid (own_off_type h3 h1 (by decide))
    clear h e1 e2 hb h1 h2 h3 h4 h5 h6
    have C := Lib.hid fun w => refIs19_is s w hs
    clear hs
    go_enter Tryd.func40, Tryd.ntmps40
    go_wp2_with (first
      | (go_at_call 54; ((with_reducible refine (C.out _).mono ?_); rintro e w1 ⟨rfl, rfl⟩); have hb := HB.out)
      | (at_builtin; refine wpList_append_el1 rfl _ _ 33 rfl B 98 i0 _ Tryd.underlying33 hi hz0 hz1 (by omega) rfl rfl (H3.out.keep ((Below.refl _ _).alloc (Nat.le_refl _) _)) rfl (one_el (K := rowK) (b := w.heap.size) w 98 (s, p) #[.string s, .int .i64 p] rfl rfl) (by omega) (by simp; omega) ?_; intro v2 w2 hown2 hgrow2 hnext2; obtain ⟨a2, n2, c2, rfl⟩ := OwnEl.shape hown2; have hbk : BlkAt x 35 #[v, u] w2 := (H1.out.keep ((Below.refl _ _).alloc (Nat.le_refl _) _)).kept (Keeps.of_grown (F := fun j => u.ownBlock = some j) hgrow2 fun _ q => q) HUX.out; have q1 := hbk.cell 1; have q2 := hbk.free 1; have HG := Lib.hid (RefAt.grown1 H1.out H2.out H3.out H4.out H5.out H6.out H.out.own H.out.low hB hown2 hgrow2 hnext2); clear hown2 hgrow2 hnext2 hbk))
    go_ret
    exact ⟨_, rfl, HG.out.1, HG.out.2⟩
set_option maxRecDepth 100000 in
set_option maxHeartbeats 2000000 in
theorem refDefine19_is (B x : Nat) (ds us : Df) (F : Nat → Prop) (s : ByteArray) (p : Int) (w : World) (h : RefAt B w x ds us F) (hs : s.size ≤ maxLen) (hn : ds.length ≤ 1000) (hB : B ≤ w.heap.size) :
    Calls Tryd.prog 38 #[.pointer (some ⟨x, 0, none⟩), .string s, .int .i64 p] w (RefTo B x (defE ds s) (defS ds s p) us F w) := by
  have C := Lib.hid fun w => refIs19_is s w hs
  clear hs
  have CP := Lib.hid fun w h => refPlace19_is B x ds us F s w h hn
  cases hb : nameB s
  · obtain ⟨e1, e2⟩ := def_no (ds := ds) p hb
    rw [e1, e2]
    have HB := Lib.hid hb
    have H := Lib.hid h
    clear h e1 e2 hb
    go_enter Tryd.func38, Tryd.ntmps38
    go_wp2_with (go_at_call 54; ((with_reducible refine (C.out _).mono ?_); rintro e w1 ⟨rfl, rfl⟩); have hb := HB.out)
    go_ret
    exact ⟨F, rfl, H.out, Grows.refl _ _⟩
  · cases hp : plB ds s
    · obtain ⟨e1, e2⟩ := def_yes (ds := ds) p hb hp
      rw [e1, e2]
      obtain ⟨v, u, h1, h2, h3, h4, h5, h6⟩ := h.ex
      obtain ⟨i0, hi, hz0, hz1, hz2⟩ := info_el infoRow
      have c1 : w.cell? ⟨x, 0, none⟩ = some v := h1.cell 0
      have hx1 := h1.lt
      have HB := Lib.hid hb
      have HP := Lib.hid hp
      have H := Lib.hid h
      have H1 := Lib.hid h1
      have H2 := Lib.hid h2
      have H3 := Lib.hid h3
      have H4 := Lib.hid h4
      have H5 := Lib.hid h5
      have H6 := Lib.hid h6
      have HUX := Lib.hid (own_off_type h2 h1 (by decide))
      clear h e1 e2 hb h1 h2 h3 h4 h5 h6 hp
      go_enter Tryd.func38, Tryd.ntmps38
      go_wp2_with (first
        | (go_at_call 54; ((with_reducible refine (C.out _).mono ?_); rintro e w1 ⟨rfl, rfl⟩); have hb := HB.out)
        | (go_at_call 47; ((with_reducible refine (CP.out _ H.out).mono ?_); rintro e w1 ⟨rfl, rfl⟩); have hp := HP.out)
        | (at_builtin; refine wpList_append_el1 rfl _ _ 33 rfl B 98 i0 _ Tryd.underlying33 hi hz0 hz1 (by omega) rfl rfl (H2.out.keep ((Below.refl _ _).alloc (Nat.le_refl _) _)) rfl (one_el (K := rowK) (b := w.heap.size) w 98 (s, p) #[.string s, .int .i64 p] rfl rfl) (by omega) (by simp; omega) ?_; intro v2 w2 hown2 hgrow2 hnext2; obtain ⟨a2, n2, c2, rfl⟩ := OwnEl.shape hown2; have hbk : BlkAt x 35 #[v, u] w2 := (H1.out.keep ((Below.refl _ _).alloc (Nat.le_refl _) _)).kept (Keeps.of_grown (F := fun j => v.ownBlock = some j) hgrow2 fun _ q => q) HUX.out; have q1 := hbk.cell 0; have q2 := hbk.free 0; have HG := Lib.hid (RefAt.grown0 H1.out H2.out H3.out H4.out H5.out H6.out H.out.own H.out.low hB hown2 hgrow2 hnext2); clear hown2 hgrow2 hnext2 hbk))
      go_ret
      exact ⟨_, rfl, HG.out.1, HG.out.2⟩
    · obtain ⟨e1, e2⟩ := def_twice (ds := ds) p hb hp
      rw [e1, e2]
      have HB := Lib.hid hb
      have HP := Lib.hid hp
      have H := Lib.hid h
      clear h e1 e2 hb hp
      go_enter Tryd.func38, Tryd.ntmps38
      go_wp2_with (first
        | (go_at_call 54; ((with_reducible refine (C.out _).mono ?_); rintro e w1 ⟨rfl, rfl⟩); have hb := HB.out)
        | (go_at_call 47; ((with_reducible refine (CP.out _ H.out).mono ?_); rintro e w1 ⟨rfl, rfl⟩); have hp := HP.out))
      go_ret
      exact ⟨F, rfl, H.out, Grows.refl _ _⟩
end Go.Proofs.YtgmphfagflhglaaDoor
