/- The document's own builder of code: what Ins, Label, Go, Set, Open, Close leave and answer. Conditions: as few as 1000. -/
import Derived.Test.YtgmphfagflhglaaDoorBldP
import Derived.Test.YtgmphfagflhglaaDoorLabV
import Derived.Test.YtgmphfagflhglaaDoorCodR
import Derived.StillTailTactics
namespace Go.Proofs.YtgmphfagflhglaaDoor
open Go.RowKit Go.IntWalk

theorem infoIns : (Tryd.prog.info? 25).map (fun i => (i.zero, i.size, i.bytes)) = some (some (.agg #[.int .i64 0, .int .i64 0, .int .i64 0, .int .i64 0, .int .i64 0]), 5, 40) := by kernel_rfl

/-- The document's builder in memory; F: its blocks. -/
structure RbAt (B : Nat) (w : World) (x : Nat) (s : Bst) (F : Nat → Prop) : Prop where
  ex : ∃ cs v G, TabIn 37 1 B w x cs s.ds s.us G ∧ cs.size = 3 ∧ cs[0]? = some v ∧ OwnEl insK w B 25 v s.L ∧ (∀ j, v.ownBlock = some j → F j) ∧ (∀ j, G j → F j) ∧ (∀ j, v.ownBlock = some j → ¬ G j)
  low : ∀ j, F j → B ≤ j ∧ j < w.heap.size
theorem RbAt.kept {B x : Nat} {w w' : World} {s : Bst} {F G : Nat → Prop} (h : RbAt B w x s F) (k : Keeps G w w') (hn : ∀ j, F j → ¬ G j) : RbAt B w' x s F := by
  obtain ⟨cs, v, H, h1, h2, h3, h4, h5, h6, h7⟩ := h.ex
  exact ⟨⟨cs, v, H, h1.kept k fun j q => hn j (h6 j q), h2, h3, h4.kept k fun j q => hn j (h5 j q), h5, h6, h7⟩, fun j q => ⟨(h.low j q).1, Nat.lt_of_lt_of_le (h.low j q).2 k.size⟩⟩
theorem RbAt.keep {B x : Nat} {w w' : World} {s : Bst} {F : Nat → Prop} (h : RbAt B w x s F) (k : Below w.heap.size w w') : RbAt B w' x s F :=
  h.kept (Keeps.of_below (fun _ => False) k) fun _ _ q => q
theorem RbAt.new (w : World) (B : Nat) (hB : B ≤ w.heap.size) : RbAt B (w.alloc (.cells #[.slice none 0 0, .slice none 0 0, .slice none 0 0] 37)) w.heap.size ⟨[], [], []⟩ (fun j => j = w.heap.size) := by
  refine ⟨⟨_, .slice none 0 0, fun j => j = w.heap.size, ⟨⟨.slice none 0 0, .slice none 0 0, BlkAt.new _ _ _, rfl, rfl, OwnEl.nil _ _ _ _, OwnEl.nil _ _ _ _, Apart.nil _, ?_, ?_⟩, rfl, ?_, by decide⟩, rfl, rfl, OwnEl.nil _ _ _ _, ?_, fun _ q => q, ?_⟩, ?_⟩
  · intro j q; cases q
  · intro j q; cases q
  · intro j q; subst q; simp; omega
  · intro j q; cases q
  · intro j q; cases q
  · intro j q; subst q; simp; omega
/-- What a call that tells leaves. -/
def RbTo (B x : Nat) (k : Int) (s : Bst) (F : Nat → Prop) (w : World) (e : Ending) (w' : World) : Prop := ∃ F', e = .returned (.int .i64 k) ∧ RbAt B w' x s F' ∧ Grows F w F' w'
/-- A call on the names alone. -/
theorem RbAt.named {B x : Nat} {w w' : World} {s : Bst} {F G G' : Nat → Prop} {cs cs' : Array Value} {v : Value} {ds us : Df} (h2 : cs.size = 3) (h3 : cs[0]? = some v) (h4 : OwnEl insK w B 25 v s.L) (h5 : ∀ j, v.ownBlock = some j → F j) (h6 : ∀ j, G j → F j) (h7 : ∀ j, v.ownBlock = some j → ¬ G j) (hl : ∀ j, F j → B ≤ j ∧ j < w.heap.size) (hB : B ≤ w.heap.size)
    (t : TabIn 37 1 B w' x cs' ds us G') (g : Grows G w G' w') (z : cs'.size = cs.size) (o : ∀ i, i ≠ 1 → i ≠ 1 + 1 → cs'[i]? = cs[i]?) : RbAt B w' x ⟨s.L, ds, us⟩ (Wide F w w') ∧ Grows F w (Wide F w w') w' := by
  have hs := g.keeps.size
  refine ⟨⟨⟨cs', v, G', t, z.trans h2, (o 0 (by decide) (by decide)).trans h3, h4.kept g.keeps h7, fun j q => .inl (h5 j q), fun j q => ?_, fun j q r => ?_⟩, fun j q => ?_⟩, Wide.grows (g.keeps.mono fun j _ q => h6 j q)⟩
  · rcases g.new j q with r | r
    · exact .inl (h6 j r)
    · exact .inr ⟨r, (t.low j q).2⟩
  · rcases g.new j r with e | e
    · exact h7 j q e
    · have := (h4.lt j q).2; omega
  · rcases q with r | r
    · exact ⟨(hl j r).1, Nat.lt_of_lt_of_le (hl j r).2 hs⟩
    · exact ⟨by omega, r.2⟩
/-- An instruction more. -/
theorem RbAt.more {B x : Nat} {w w1 : World} {s : Bst} {F G : Nat → Prop} {cs : Array Value} {v v' : Value} {i : I5} {ce : Array Value} (h1 : TabIn 37 1 B w x cs s.ds s.us G) (h2 : cs.size = 3) (h5 : ∀ j, v.ownBlock = some j → F j) (h6 : ∀ j, G j → F j) (h7 : ∀ j, v.ownBlock = some j → ¬ G j) (hl : ∀ j, F j → B ≤ j ∧ j < w.heap.size) (hB : B ≤ w.heap.size)
    (o1 : OwnEl insK w1 B 25 v' (s.L ++ [i])) (hg : (w.alloc (.cells ce 25)).grownBy w1 v.ownBlock) (hx : Nexts (w.alloc (.cells ce 25)) v v') :
    RbAt B (w1.setCell ⟨x, 0, none⟩ v') x (s.add [i]) (Wide F w (w1.setCell ⟨x, 0, none⟩ v')) ∧ Grows F w (Wide F w (w1.setCell ⟨x, 0, none⟩ v')) (w1.setCell ⟨x, 0, none⟩ v') := by
  have kv : Keeps (fun j => v.ownBlock = some j) w (w.alloc (.cells ce 25)) := Keeps.of_below _ ((Below.refl _ _).alloc (Nat.le_refl _) _)
  have kg := kv.trans (Keeps.of_grown (F := fun j => v.ownBlock = some j) hg fun _ q => q)
  have t1 : TabIn 37 1 B w1 x cs s.ds s.us G := h1.kept kg fun j q r => h7 j r q
  obtain ⟨a, b, hb, -⟩ := t1.ex
  have hvx : v'.ownBlock ≠ some x := own_off_type o1 hb (by decide)
  have ks : Keeps (fun j => j = x) w1 (w1.setCell ⟨x, 0, none⟩ v') := Keeps.set1 w1 x 0 v'
  have hsz := kg.size
  have hv' : ∀ j, v'.ownBlock = some j → v.ownBlock = some j ∨ w.heap.size ≤ j := fun j q => (hx j q).imp id fun e => by simp at e; omega
  have K : Keeps F w (w1.setCell ⟨x, 0, none⟩ v') := (kg.mono fun j _ q => h5 j q).trans (ks.mono fun j _ q => q ▸ h6 _ h1.own)
  refine ⟨⟨⟨cs.setIfInBounds 0 v', v', G, t1.of (hb.set 0 v') (by rw [Array.getElem?_setIfInBounds, if_neg (by decide)]) (by rw [Array.getElem?_setIfInBounds, if_neg (by decide)]) ks (fun j _ q r => q r), by rw [Array.size_setIfInBounds]; exact h2, by rw [Array.getElem?_setIfInBounds, if_pos rfl, if_pos (by omega)], o1.kept ks fun j q e => hvx (e ▸ q), ?_, fun j q => .inl (h6 j q), ?_⟩, ?_⟩, Wide.grows K⟩
  · intro j q
    rcases hv' j q with r | r
    · exact .inl (h5 j r)
    · exact .inr ⟨r, by have := (o1.lt j q).2; simpa using this⟩
  · intro j q r
    rcases hv' j q with e | e
    · exact h7 j e r
    · have := (h1.low j r).2; omega
  · rintro j (q | q)
    · exact ⟨(hl j q).1, Nat.lt_of_lt_of_le (hl j q).2 K.size⟩
    · exact ⟨by omega, q.2⟩
set_option maxRecDepth 100000 in
set_option maxHeartbeats 2000000 in
theorem refBIns_is (B x : Nat) (s : Bst) (F : Nat → Prop) (o d a b n : Int) (w : World) (h : RbAt B w x s F) (hn : s.L.length ≤ 1000) (hB : B ≤ w.heap.size) :
    Calls Tryd.prog 19 #[.pointer (some ⟨x, 0, none⟩), .agg #[.int .i64 o, .int .i64 d, .int .i64 a, .int .i64 b, .int .i64 n]] w (RbTo B x (insE (o, d, a, b, n)) (s.ins (o, d, a, b, n)) F w) := by
  have C := Lib.hid fun w => refCheckI_is o d a b n (insE (o, d, a, b, n)) w rfl
  have HI := Lib.hid (InsW.new w w o d a b n 25 (Below.refl _ _) (Nat.le_refl _))
  by_cases he : insE (o, d, a, b, n) = 0
  · rw [ins_yes he]
    rw [he] at C ⊢
    have H := Lib.hid h
    obtain ⟨i0, hi, hz0, hz1, hz2⟩ := info_el infoIns
    clear h he
    go_enter Tryd.func19, Tryd.ntmps19
    go_wp2_with (go_at_call 37; ((with_reducible refine (C.out _).mono ?_); rintro e w1 ⟨rfl, hb1⟩); have HW := Lib.hid (HI.out.keep hb1); have b0 := HW.out.c0; have b1 := HW.out.c1; have b2 := HW.out.c2; have b3 := HW.out.c3; have b4 := HW.out.c4; obtain ⟨cs, v, G, h1, h2, h3, h4, h5, h6, h7⟩ := (H.out.keep HW.out.below).ex; obtain ⟨va, ua, hbk, -⟩ := h1.ex; have c0 := (hbk.cell 0).trans h3; have hx1 := hbk.lt; have H1 := Lib.hid h1; have H2 := Lib.hid h2; have H3 := Lib.hid h3; have H4 := Lib.hid h4; have H5 := Lib.hid h5; have H6 := Lib.hid h6; have H7 := Lib.hid h7; have HBK := Lib.hid hbk; clear hb1 h1 h2 h3 h4 h5 h6 h7 hbk)
    have HB2 := Lib.hid (show Below w.heap.size w w1.drew from HW.out.below.drew)
    have H1 := Lib.hid (H1.out.keep ((Below.refl _ _).drew))
    have H4 := Lib.hid (H4.out.keep ((Below.refl _ _).drew))
    have HBK := Lib.hid (HBK.out.keep ((Below.refl _ _).drew))
    have HALL := Lib.hid (fun o => H4.out.keep ((Below.refl w1.drew.heap.size w1.drew).alloc (Nat.le_refl _) o))
    have HUX := Lib.hid (own_off_type H4.out HBK.out (by decide))
    have hsz : w.heap.size ≤ w1.heap.size := HB2.out.size
    have hx2 : x < w1.drew.heap.size := hx1
    go_region_law (refine step_append_el1 rfl _ _ 32 rfl B 25 i0 _ Tryd.underlying32 hi hz0 hz1 (by omega) rfl rfl (HALL.out _) rfl (one_el (K := insK) (b := w1.heap.size) w1.drew 25 (o, d, a, b, n) #[.int .i64 o, .int .i64 d, .int .i64 a, .int .i64 b, .int .i64 n] rfl rfl) (by omega) (by simp; omega) ?_; intro v2 w3 hown2 hgrow2 hnext2; obtain ⟨a2, n2, c2, rfl⟩ := OwnEl.shape hown2; have hbk : BlkAt x 37 cs w3 := (HBK.out.keep ((Below.refl _ _).alloc (Nat.le_refl _) _)).kept (Keeps.of_grown (F := fun j => v.ownBlock = some j) hgrow2 fun _ q => q) HUX.out; have q1 := (hbk.cell 0).trans H3.out; have q2 := hbk.free 0; have HG := Lib.hid (RbAt.more H1.out H2.out H5.out H6.out H7.out (H.out.keep HB2.out).low (show B ≤ w1.heap.size by omega) hown2 hgrow2 hnext2); clear hown2 hgrow2 hnext2 hbk)
    all_goals
      go_wp2
      go_ret
      exact ⟨_, rfl, HG.out.1, (Grows.of_below F HB2.out).trans HG.out.2⟩
  · rw [ins_no he]
    have H := Lib.hid h
    have HE := Lib.hid he
    have he1 : (insE (o, d, a, b, n) != 0) = true := by simpa using he
    clear h
    generalize insE (o, d, a, b, n) = z at *
    clear he
    go_enter Tryd.func19, Tryd.ntmps19
    go_wp2_with (go_at_call 37; ((with_reducible refine (C.out _).mono ?_); rintro e w1 ⟨rfl, hb1⟩))
    go_ret
    have hw := (HI.out.keep hb1).below
    exact ⟨F, rfl, H.out.keep hw, Grows.of_below _ hw⟩
set_option maxRecDepth 100000 in
set_option maxHeartbeats 2000000 in
theorem refBLabel_is (B x : Nat) (s : Bst) (F : Nat → Prop) (nm : ByteArray) (w : World) (h : RbAt B w x s F) (hs : nm.size ≤ maxLen) (hn : s.ds.length ≤ 1000) (hB : B ≤ w.heap.size) :
    Calls Tryd.prog 20 #[.pointer (some ⟨x, 0, none⟩), .string nm] w (RbTo B x (defE s.ds nm) (s.lab nm s.L.length) F w) := by
  obtain ⟨cs, v, G, h1, h2, h3, h4, h5, h6, h7⟩ := h.ex
  have HD := fun w2 (k : Below w.heap.size w w2) => refDefine19o_is _ _ B x cs s.ds s.us G nm s.L.length w2 (h1.keep k) hs hn (by have := k.size; omega)
  obtain ⟨va, ua, hbk, -⟩ := h1.ex
  obtain ⟨a1, c1, rfl, -⟩ := h4.at
  have c0 := (hbk.cell 0).trans h3
  have H := Lib.hid h
  have H2 := Lib.hid h2
  have H3 := Lib.hid h3
  have H4 := Lib.hid h4
  have H5 := Lib.hid h5
  have H6 := Lib.hid h6
  have H7 := Lib.hid h7
  clear h h1 h2 h3 h4 h5 h6 h7 hbk
  go_enter Tryd.func20, Tryd.ntmps20
  go_wp2
  go_still_tail 9, (by kernel_rfl)
  change wpList _ _ _ _ _ w.drew
  have HB2 := Lib.hid (show Below w.heap.size w w.drew from (Below.refl _ _).drew)
  have H := Lib.hid (H.out.keep HB2.out)
  have H4 := Lib.hid (H4.out.keep HB2.out)
  have hB : B ≤ w.drew.heap.size := hB
  have HD := Lib.hid (HD w.drew HB2.out)
  generalize w.drew = w2 at *
  clear c0
  go_wp2_with (go_at_call 38; ((with_reducible refine (HD.out).mono ?_); rintro e w1 ⟨cs1, G1, rfl, t1, g1, z1, o1⟩); have HG := Lib.hid (RbAt.named H2.out H3.out H4.out H5.out H6.out H7.out H.out.low hB t1 g1 z1 o1); clear t1 g1 z1 o1)
  go_ret
  exact ⟨_, rfl, HG.out.1, (Grows.of_below F HB2.out).trans HG.out.2⟩
end Go.Proofs.YtgmphfagflhglaaDoor
