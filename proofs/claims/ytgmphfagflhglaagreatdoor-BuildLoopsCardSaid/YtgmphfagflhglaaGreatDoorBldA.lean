/- Package build: a draft in memory (its instructions, its table of names); what add and aim leave. Conditions: as few as 1000. -/
import Derived.Test.YtgmphfagflhglaaGreatDoorBldP
import Derived.Test.YtgmphfagflhglaaGreatDoorLabF
import Derived.Test.YtgmphfagflhglaaGreatDoorCodC
import Derived.Test.YtgmphfagflhglaaGreatDoorBldQ
import Derived.Maps.AppendAt
import Derived.StillTailTactics
namespace Go.Proofs.YtgmphfagflhglaaGreatDoor
open Go.RowKit Go.Maps Go.IntWalk

/-- 'append(v, xs...)', v a call's own: what is owned next lies where v lay, or is new. -/
theorem run_append_elsN {α : Type} [Inhabited α] {K : Kd α} {P : Program} {w : World} (base : Nat) (t ty e : TypeId) (i : TypeInfo) (z : Value) (ht : P.underlying t = some (.slice e)) (hi : P.info? e = some i) (hz : i.zero = some z)
    (hsize : i.size = K.k) (hby : i.bytes ≤ 1000) (hzs : z.cells.size = K.k) {v : Value} {l : List α} (hown : OwnEl K w base e v l) {b off m c : Nat} {k : List α} (hk : ElAt K w (some ⟨b, off, none⟩) m c k) (hlen : l.length + m ≤ 1048576) (hbase : base ≤ w.heap.size) :
    ∃ v' w', (Builtin.append_ #[t, t] ty #[v, .slice (some ⟨b, off, none⟩) m c]).run P w = .ok v' w' ∧ OwnEl K w' base e v' (l ++ k) ∧ w.grownBy w' v.ownBlock ∧ Nexts w v v' := by
  obtain ⟨v', w', hr, h2, h3, -, h4⟩ := run_append_own_at (P := P) w base t ty e i z K.k i.bytes ht hi hz hsize rfl hzs K.pos v l.length (K.vs l) hown ⟨b, off, none⟩ m c (K.vs k) (by rw [K.vs_len, hk.len])
    (fun j u hj => by
      have hjk : j < k.length * K.k := by
        have := (List.getElem?_eq_some_iff.1 hj).1
        rwa [K.vs_len] at this
      have hkl := hk.len
      have hpos := K.pos
      have hm : 0 < m := by
        rcases Nat.eq_zero_or_pos k.length with h0 | h0
        · rw [h0] at hjk; simp at hjk
        · omega
      obtain ⟨b', off', e', hc⟩ := hk.lie hm
      simp only [Option.some.injEq, Addr.mk.injEq, and_true] at e'
      obtain ⟨rfl, rfl⟩ := e'
      have hq : j / K.k < k.length := Nat.div_lt_of_lt_mul (by rw [Nat.mul_comm]; exact hjk)
      have hr : j % K.k < K.k := Nat.mod_lt _ hpos
      have he : j / K.k * K.k + j % K.k = j := by rw [Nat.mul_comm]; exact Nat.div_add_mod j K.k
      have h1 := hc (j / K.k) (by omega) (j % K.k) hr
      have h2 := K.vs_at k hq hr
      rw [he] at h2
      rw [by_add, ← hj, h2, ← h1, Nat.add_assoc, he])
    (K.vs_ones k) (by unfold maxLen; omega) (by
      have : (l.length + m) * i.bytes ≤ 1048576 * 1000 := Nat.mul_le_mul hlen hby
      omega) hbase
  refine ⟨v', w', hr, ?_, h3, fun j hj => h4.elim (fun q => .inl (q ▸ hj)) fun q => .inr (by rw [q] at hj; cases hj; exact Nat.le_refl _)⟩
  unfold OwnEl
  rw [List.length_append, hk.len, K.vs_app]
  exact h2
theorem wpList_append_elsN {α : Type} [Inhabited α] {K : Kd α} {P : Program} {w : World} {ops : Array Oper} {rest : List Oper} {o : Oper} {a : Act} {Q : Exit → Act → World → Prop} (hgd : Region.wanted o (yielded ops a.tmps) = true) (s x : Operand) (t : TypeId)
    (ho : o.op = .call { callee := .builtin .append, args := #[s, x], argTypes := #[t, t] })
    (base : Nat) (e : TypeId) (i : TypeInfo) (z : Value) (ht : P.underlying t = some (.slice e)) (hi : P.info? e = some i) (hz : i.zero = some z)
    (hsize : i.size = K.k) (hby : i.bytes ≤ 1000) (hzs : z.cells.size = K.k) {v : Value} {l : List α} (hs : a.eval s = v) (hown : OwnEl K w base e v l) {b off m c : Nat} {k : List α} (hx : a.eval x = .slice (some ⟨b, off, none⟩) m c) (hk : ElAt K w (some ⟨b, off, none⟩) m c k)
    (hlen : l.length + m ≤ 1048576) (hbase : base ≤ w.heap.size)
    (h : ∀ v' w', OwnEl K w' base e v' (l ++ k) → w.grownBy w' v.ownBlock → Nexts w v v' → wpList P ops Q rest (a.put o.dst v') w') : wpList P ops Q (o :: rest) a w := by
  refine wpList_step fun K' hK => ?_
  rw [if_pos hgd]
  obtain ⟨v', w', hr, h2, h3, h4⟩ := run_append_elsN (P := P) (w := w) base t o.type e i z ht hi hz hsize hby hzs hown hk hlen hbase
  unfold Oper.wp execOp
  simp only [ho, resolve, invoke, builtin, Sem.run_bind, Sem.run_pure, Result.andThen_ok, List.map_toArray, List.map_cons, List.map_nil, hs, hx, hr]
  exact hK _ _ (h v' w' h2 h3 h4)

theorem infoInsA : (Tryz.prog.info? 29).map (fun i => (i.zero, i.size, i.bytes)) = some (some (.agg #[.int .i64 0, .int .i64 0, .int .i64 0, .int .i64 0, .int .i64 0]), 5, 40) := by kernel_rfl

/-- A draft in memory: its block, its table's (G), its list's; F: all of them. -/
structure DrIn (B : Nat) (w : World) (d t : Nat) (v : Value) (s : Bst) (F G : Nat → Prop) : Prop where
  blk : BlkAt d 46 #[.pointer (some ⟨t, 0, none⟩), v] w
  tab : LabAt B w t s.ds s.us G
  own : OwnEl insK w B 29 v s.L
  fd : F d
  fg : ∀ j, G j → F j
  fv : ∀ j, v.ownBlock = some j → F j
  gv : ∀ j, v.ownBlock = some j → ¬ G j
  gd : ¬ G d
  low : ∀ j, F j → B ≤ j ∧ j < w.heap.size
def DrAt (B : Nat) (w : World) (d : Nat) (s : Bst) (F : Nat → Prop) : Prop := ∃ t v G, DrIn B w d t v s F G
/-- What a call that tells leaves. -/
def DrTo (B d : Nat) (k : Int) (s : Bst) (F : Nat → Prop) (w : World) (e : Ending) (w' : World) : Prop := ∃ F', e = .returned (.int .i64 k) ∧ DrAt B w' d s F' ∧ Grows F w F' w'
section
variable {B d t : Nat} {w w' w1 : World} {v v' : Value} {s : Bst} {F G H : Nat → Prop}
theorem DrIn.kept (h : DrIn B w d t v s F G) (k : Keeps H w w') (hn : ∀ j, F j → ¬ H j) : DrIn B w' d t v s F G :=
  ⟨h.blk.kept k (hn _ h.fd), h.tab.kept k fun j q => hn j (h.fg j q), h.own.kept k fun j q => hn j (h.fv j q), h.fd, h.fg, h.fv, h.gv, h.gd, fun j q => ⟨(h.low j q).1, Nat.lt_of_lt_of_le (h.low j q).2 k.size⟩⟩
theorem DrIn.keep (h : DrIn B w d t v s F G) (k : Below w.heap.size w w') : DrIn B w' d t v s F G := h.kept (Keeps.of_below (fun _ => False) k) fun _ _ q => q
theorem DrAt.kept (h : DrAt B w d s F) (k : Keeps H w w') (hn : ∀ j, F j → ¬ H j) : DrAt B w' d s F := by
  obtain ⟨t, v, G, h⟩ := h
  exact ⟨t, v, G, h.kept k hn⟩
theorem DrAt.keep (h : DrAt B w d s F) (k : Below w.heap.size w w') : DrAt B w' d s F := h.kept (Keeps.of_below (fun _ => False) k) fun _ _ q => q
theorem DrAt.low (h : DrAt B w d s F) : ∀ j, F j → B ≤ j ∧ j < w.heap.size := by
  obtain ⟨t, v, G, h⟩ := h
  exact h.low
theorem DrTo.keep {k : Int} {e : Ending} (hb : Below w.heap.size w w1) (h : DrTo B d k s F w1 e w') : DrTo B d k s F w e w' := by
  obtain ⟨F', e1, h1, g1⟩ := h
  exact ⟨F', e1, h1, (Grows.of_below F hb).trans g1⟩
/-- A call on the names alone. -/
theorem DrIn.named {ds us : Df} {G' : Nat → Prop} (h : DrIn B w d t v s F G) (hB : B ≤ w.heap.size) (h1 : LabAt B w' t ds us G') (g : Grows G w G' w') : DrIn B w' d t v ⟨s.L, ds, us⟩ (Wide F w w') G' ∧ Grows F w (Wide F w w') w' := by
  have hs := g.keeps.size
  have K : Keeps F w w' := g.keeps.mono fun j _ q => h.fg j q
  refine ⟨⟨h.blk.kept g.keeps h.gd, h1, h.own.kept g.keeps h.gv, .inl h.fd, fun j q => ?_, fun j q => .inl (h.fv j q), fun j q r => ?_, fun r => ?_, fun j q => ?_⟩, Wide.grows K⟩
  · rcases g.new j q with r | r
    · exact .inl (h.fg j r)
    · exact .inr ⟨r, (h1.low j q).2⟩
  · rcases g.new j r with e | e
    · exact h.gv j q e
    · have := (h.own.lt j q).2; omega
  · rcases g.new d r with e | e
    · exact h.gd e
    · have := (h.low d h.fd).2; omega
  · rcases q with r | r
    · exact ⟨(h.low j r).1, Nat.lt_of_lt_of_le (h.low j r).2 hs⟩
    · exact ⟨by omega, r.2⟩
/-- Instructions more. -/
theorem DrIn.more {l : List I5} (h : DrIn B w d t v s F G) (hB : B ≤ w.heap.size)
    (o1 : OwnEl insK w1 B 29 v' (s.L ++ l)) {w0 : World} (hb0 : Below w.heap.size w w0) (hg : w0.grownBy w1 v.ownBlock) (hx : Nexts w0 v v') :
    DrIn B (w1.setCell ⟨d, 1, none⟩ v') d t v' (s.add l) (Wide F w (w1.setCell ⟨d, 1, none⟩ v')) G ∧ Grows F w (Wide F w (w1.setCell ⟨d, 1, none⟩ v')) (w1.setCell ⟨d, 1, none⟩ v') := by
  have hs0 := hb0.size
  have h0 := h.keep hb0
  have kg : Keeps (fun j => v.ownBlock = some j) w0 w1 := Keeps.of_grown hg fun _ q => q
  have b1 := h0.blk.kept kg (own_off_type h0.own h0.blk (by decide))
  have ks : Keeps (fun j => j = d) w1 (w1.setCell ⟨d, 1, none⟩ v') := Keeps.set1 w1 d 1 v'
  have hs1 := kg.size
  have K : Keeps F w (w1.setCell ⟨d, 1, none⟩ v') := ((Keeps.of_below F hb0).trans (kg.mono fun j _ q => h.fv j q)).trans (ks.mono fun j _ q => q ▸ h.fd)
  have hdv : v'.ownBlock ≠ some d := own_off_type o1 b1 (by decide)
  have hw : (w1.setCell ⟨d, 1, none⟩ v').heap.size = w1.heap.size := by simp [World.setCell]
  refine ⟨⟨(b1.set 1 v').eq rfl, (h0.tab.kept kg fun j q r => h.gv j r q).kept ks fun j q r => h.gd (r ▸ q), o1.kept ks fun j q e => hdv (e ▸ q), .inl h.fd, fun j q => .inl (h.fg j q), fun j q => ?_, fun j q r => ?_, h.gd, fun j q => ?_⟩, Wide.grows K⟩
  · rcases hx j q with r | r
    · exact .inl (h.fv j r)
    · exact .inr ⟨by omega, by rw [hw]; exact (o1.lt j q).2⟩
  · rcases hx j q with e | e
    · exact h.gv j e r
    · have := (h.low j (h.fg j r)).2; omega
  · rcases q with r | r
    · exact ⟨(h.low j r).1, Nat.lt_of_lt_of_le (h.low j r).2 K.size⟩
    · exact ⟨by omega, r.2⟩
end

theorem InsW.sh {w0 w : World} {b : Nat} {x0 x1 x2 x3 x4 : Int} (h : InsW w0 b x0 x1 x2 x3 x4 w) (hL : ShapesLaid w0) : ShapesLaid w := hL.below h.below hL.lt
set_option maxRecDepth 100000 in
set_option maxHeartbeats 2000000 in
theorem drAdd_is (B d : Nat) (s : Bst) (F : Nat → Prop) (o x a b n : Int) (w : World) (h : DrAt B w d s F) (hL : ShapesLaid w) (hn : s.L.length ≤ 1000) (hB : B ≤ w.heap.size) :
    Calls Tryz.prog 23 #[.pointer (some ⟨d, 0, none⟩), .agg #[.int .i64 o, .int .i64 x, .int .i64 a, .int .i64 b, .int .i64 n]] w (DrTo B d (insE (o, x, a, b, n)) (s.ins (o, x, a, b, n)) F w) := by
  have HI := Lib.hid (InsW.new w w o x a b n 29 (Below.refl _ _) (Nat.le_refl _))
  have C := Lib.hid (codeCheckI_is o x a b n (insE (o, x, a, b, n)) _ (HI.out.sh hL) rfl)
  clear hL
  by_cases he : insE (o, x, a, b, n) = 0
  · rw [ins_yes he]
    rw [he] at C ⊢
    obtain ⟨t, v, G, h⟩ := h
    have H := Lib.hid h
    obtain ⟨i0, hi, hz0, hz1, hz2⟩ := info_el infoInsA
    clear h he
    go_enter Tryz.func23, Tryz.ntmps23
    go_wp2_with (go_at_call 38; ((with_reducible refine (C.out).mono ?_); rintro e w1 ⟨rfl, hb1⟩); have HW := Lib.hid (HI.out.keep hb1); have b0 := HW.out.c0; have b1 := HW.out.c1; have b2 := HW.out.c2; have b3 := HW.out.c3; have b4 := HW.out.c4; have H1 := Lib.hid (H.out.keep HW.out.below); have c1 := H1.out.blk.cell 1; have hx1 := H1.out.blk.lt; clear hb1)
    have HB2 := Lib.hid (show Below w.heap.size w w1.drew from HW.out.below.drew)
    have H1 := Lib.hid (H1.out.keep ((Below.refl _ _).drew))
    have HALL := Lib.hid (fun o => H1.out.own.keep ((Below.refl w1.drew.heap.size w1.drew).alloc (Nat.le_refl _) o))
    have HUX := Lib.hid (own_off_type H1.out.own H1.out.blk (by decide))
    have hsz : w.heap.size ≤ w1.heap.size := HB2.out.size
    have hx2 : d < w1.drew.heap.size := hx1
    have HMR := Lib.hid (fun (q : Obj) (w3 : World) (v2 : Value) (q1 : OwnEl insK w3 B 29 v2 (s.L ++ [(o, x, a, b, n)])) (q2 : (w1.drew.alloc q).grownBy w3 v.ownBlock) (q3 : Nexts (w1.drew.alloc q) v v2) => H1.out.more (show B ≤ w1.drew.heap.size from Nat.le_trans hB hsz) q1 ((Below.refl w1.drew.heap.size w1.drew).alloc (Nat.le_refl _) q) q2 q3)
    go_region_law (refine step_append_el1 rfl _ _ 44 rfl B 29 i0 _ Tryz.underlying44 hi hz0 hz1 (by omega) rfl rfl (HALL.out _) rfl (one_el (K := insK) (b := w1.heap.size) w1.drew 29 (o, x, a, b, n) #[.int .i64 o, .int .i64 x, .int .i64 a, .int .i64 b, .int .i64 n] rfl rfl) (by omega) (by simp; omega) ?_; intro v2 w3 hown2 hgrow2 hnext2; obtain ⟨a2, n2, c2, rfl⟩ := OwnEl.shape hown2; have hbk := (H1.out.blk.keep ((Below.refl _ _).alloc (Nat.le_refl _) _)).kept (Keeps.of_grown (F := fun j => v.ownBlock = some j) hgrow2 fun _ q => q) HUX.out; have q1 := hbk.cell 1; have q2 := hbk.free 1; have HG := Lib.hid (HMR.out _ _ _ hown2 hgrow2 hnext2); clear hown2 hgrow2 hnext2 hbk)
    all_goals
      go_wp2
      go_ret
      exact ⟨_, rfl, ⟨_, _, _, HG.out.1⟩, (Grows.of_below F HB2.out).trans HG.out.2⟩
  · rw [ins_no he]
    have H := Lib.hid h
    have he1 : (insE (o, x, a, b, n) == 0) = false := by simpa using he
    clear h
    generalize insE (o, x, a, b, n) = z at *
    clear he
    go_enter Tryz.func23, Tryz.ntmps23
    go_wp2_with (go_at_call 38; ((with_reducible refine (C.out).mono ?_); rintro e w1 ⟨rfl, hb1⟩); have HW := Lib.hid (HI.out.keep hb1))
    go_ret
    exact ⟨F, rfl, H.out.keep HW.out.below, Grows.of_below F HW.out.below⟩
end Go.Proofs.YtgmphfagflhglaaGreatDoor
