/- Package graph's walk: a place comes up. Conditions: no more than 60 places. -/
import Derived.Test.YtggiaopdgijgnaaDoorGraH
namespace Go.Proofs.YtggiaopdgijgnaaDoor
open Go.RowKit Go.IntWalk

/-- What a walk came to, in memory: which places, in which order, from which one to each. -/
structure TripAt (w : World) (bt bc bf bo : Nat) (ov : Value) (n : Nat) (came : Nat → Bool) (ord : List Nat) (fr : Nat → Int) : Prop where
  box : BlkAt bt 49 #[.slice (some ⟨bc, 0, none⟩) (szS n) (szS n), ov, .slice (some ⟨bf, 0, none⟩) n n] w
  came : SetAt bc n came w
  ord : OwnW .i32 w bo 21 ov (ord.map Int.ofNat)
  frm : Ar .i32 21 bf n fr w
  lt : bf < bo ∧ bt < bo ∧ bc < bo
theorem SetAt.type {b n : Nat} {F : Nat → Bool} {w : World} (h : SetAt b n F w) : ∃ cs, BlkAt b 72 cs w := by
  obtain ⟨x, _, _, h3⟩ := h
  exact ⟨_, h3⟩
section
variable {w w' : World} {bt bc bf bo n : Nat} {ov : Value} {came : Nat → Bool} {ord : List Nat} {fr : Nat → Int}
theorem TripAt.keep (h : TripAt w bt bc bf bo ov n came ord fr) (k : Below w.heap.size w w') : TripAt w' bt bc bf bo ov n came ord fr := ⟨h.box.keep k, h.came.keep k, h.ord.keep k, h.frm.keep k, h.lt⟩
theorem TripAt.kept {F : Nat → Prop} (h : TripAt w bt bc bf bo ov n came ord fr) (k : Keeps F w w') (h1 : ¬ F bt) (h2 : ¬ F bc) (h3 : ¬ F bf) (h4 : ∀ j, ov.ownBlock = some j → ¬ F j) : TripAt w' bt bc bf bo ov n came ord fr :=
  ⟨h.box.kept k h1, h.came.kept k h2, h.ord.kept k h4, h.frm.kept k h3, h.lt⟩
theorem TripAt.ne (h : TripAt w bt bc bf bo ov n came ord fr) : bt ≠ bc ∧ bt ≠ bf ∧ bc ≠ bf ∧ ov.ownBlock ≠ some bt ∧ ov.ownBlock ≠ some bc ∧ ov.ownBlock ≠ some bf := by
  obtain ⟨cs, hs⟩ := h.came.type
  have h1 : bf ≠ bc := h.frm.ne_blk hs (by decide)
  refine ⟨fun e => ?_, fun e => (h.frm.ne_blk h.box (by decide)) e.symm, fun e => h1 e.symm, fun e => own_off_type h.ord h.box (by decide) e, fun e => own_off_type h.ord hs (by decide) e, fun e => ?_⟩
  · subst e
    exact absurd (BlkAt.type_eq h.box hs) (by decide)
  · have := (h.ord.lt bf e).1
    have := h.lt.1
    omega
end
/-- 'append(v, x)' at a step of a region that draws its order. -/
theorem step_append_1 {κ : IntKind} {P : Program} {w : World} {ops : Array Oper} {o : Oper} {a : Act} {K : Act → World → Prop} {Q : Exit → Act → World → Prop} {E : Prop} (hgd : Region.wanted o (yielded ops a.tmps) = true) (s x : Operand) (t : TypeId)
    (ho : o.op = .call { callee := .builtin .append, args := #[s, x], argTypes := #[t, t] })
    (base : Nat) (e : TypeId) (i : TypeInfo) (z : Value) (ht : P.underlying t = some (.slice e)) (hi : P.info? e = some i) (hz : i.zero = some z)
    (hsize : i.size = 1) (hby : i.bytes ≤ 1000) (hzs : z.cells.size = 1) {v : Value} {l : List Int} (hs : a.eval s = v) (hown : OwnW κ w base e v l) {b c : Nat} {u : Int} (hx : a.eval x = .slice (some ⟨b, 0, none⟩) 1 c) (hu : w.cell? ⟨b, 0, none⟩ = some (.int κ u))
    (hlen : l.length + 1 ≤ 1048576) (hbase : base ≤ w.heap.size)
    (h : ∀ v' w', OwnW κ w' base e v' (l ++ [u]) → w.grownBy w' v.ownBlock → Nexts w v v' → K (a.put o.dst v') w') : if Region.wanted o (yielded ops a.tmps) = true then Oper.wp P o a w K Q else E := by
  rw [if_pos hgd]
  obtain ⟨v', w', hr, h2, h3, h4⟩ := run_append_next (P := P) w base t o.type e i z i.bytes ht hi hz hsize rfl hzs v l.length (l.map (Value.int κ)) hown ⟨b, 0, none⟩ c (.int κ u) hu rfl (by unfold maxLen; omega) (by
    have := Nat.mul_le_mul hlen hby
    omega) hbase
  unfold Oper.wp execOp
  simp only [ho, resolve, invoke, builtin, Sem.run_bind, Sem.run_pure, Result.andThen_ok, List.map_toArray, List.map_cons, List.map_nil, hs, hx, hr]
  refine h v' w' ?_ h3 ?_
  · unfold OwnW
    rw [List.length_append, List.length_singleton, List.map_append]
    exact h2
  · intro j q
    rcases h4 with h4 | h4
    · exact .inl (h4 ▸ q)
    · rw [h4] at q
      exact .inr (by injection q with q; omega)
/-- What becomes of a place that comes up. -/
def ComeR (bt bc bf bo n x : Nat) (ov : Value) (came : Nat → Bool) (ord : List Nat) (fr : Nat → Int) (f : Int) (v : Bool) (w w' : World) : Prop :=
  (v = true ∧ Below w.heap.size w w') ∨ (v = false ∧ ∃ ov', TripAt w' bt bc bf bo ov' n (Gra.upB came x) (ord ++ [x]) (Gra.upI fr x f) ∧ Keeps (fun j => j = bt ∨ j = bc ∨ j = bf ∨ ov.ownBlock = some j) w w' ∧ Nexts w ov ov')
set_option maxRecDepth 100000 in
set_option maxHeartbeats 1000000 in
theorem graCome_is {w : World} {bt bc bf bo n x : Nat} {ov : Value} {came : Nat → Bool} {ord : List Nat} {fr : Nat → Int} {f : Int} {v : Bool} (h : TripAt w bt bc bf bo ov n came ord fr) (hn : n ≤ 60) (hx : x < n) (hv : came x = v) (hf : -1 ≤ f ∧ f ≤ 60) (hl : ord.length ≤ 100) (hbo : bo ≤ w.heap.size) :
    Calls Tryd.prog 51 #[.pointer (some ⟨bt, 0, none⟩), .agg #[.int .i32 f, .int .i32 x]] w fun e w' => e = .returned (.bool (!v)) ∧ ComeR bt bc bf bo n x ov came ord fr f v w w' := by
  obtain ⟨i0, hi, hz0, hz1, hz2⟩ := info_parts infoI32
  have H := Lib.hid h
  have HN := Lib.hid hn
  have HXN := Lib.hid hx
  have HL := Lib.hid hl
  have hx' : (x : Int) < n := by omega
  have hn' : (n : Int) ≤ 60 := by omega
  obtain ⟨hf0, hf1⟩ := hf
  obtain ⟨W1, hW1⟩ : ∃ W1, w.alloc (.cells #[.int .i32 f, .int .i32 x] 78) = W1 := ⟨_, rfl⟩
  have HB1 := Lib.hid (show Below w.heap.size w W1 from hW1 ▸ (Below.refl _ _).alloc (Nat.le_refl _) _)
  have H1 := Lib.hid (h.keep HB1.out)
  have hbx : BlkAt w.heap.size 78 #[.int .i32 f, .int .i32 x] W1 := hW1 ▸ BlkAt.new w _ _
  have HBX := Lib.hid hbx
  have HW1 := Lib.hid hW1
  have t0 := H1.out.box.cell 0
  have s1 := hbx.cell 1
  have HH := Lib.hid (fun k => show Calls Tryd.prog 27 #[.slice (some ⟨bc, 0, none⟩) (szS n) (szS n), .int .i64 (x : Int)] (W1.drewN k) fun e w' => e = .returned (.bool v) ∧ (W1.drewN k) = w' from by
    have := graHas_is (H1.out.came.keep (below_drewN (Below.refl _ _) k)) hn (x : Int)
    rw [hasB_nat came hx, hv] at this
    exact this)
  clear h hn hx hl hv hbx hW1
  cases v with
  | true =>
    go_enter Tryd.func51, Tryd.ntmps51
    go_upto_region 1 with (fail)
    rw [HW1.out]
    go_quiet ((go_at_call 27; exact quiet_here (HH.out _)))
    go_wp2
    go_ret
    exact ⟨rfl, .inl ⟨rfl, below_drewN HB1.out _⟩⟩
  | false =>
    go_enter Tryd.func51, Tryd.ntmps51
    go_upto_region 1 with (fail)
    rw [HW1.out]
    go_quiet ((go_at_call 27; exact quiet_here (HH.out _)))
    go_wp2
    generalize hW2 : World.drewN W1 _ = W2
    have HB2 := Lib.hid (show Below W1.heap.size W1 W2 from hW2 ▸ below_drewN (Below.refl _ _) _)
    have H2 := Lib.hid (H1.out.keep HB2.out)
    have HBX2 := Lib.hid (HBX.out.keep HB2.out)
    have t2 := H2.out.box.cell 0
    have x2 := HBX2.out.cell 1
    have HA := Lib.hid (show Calls Tryd.prog 37 #[.slice (some ⟨bc, 0, none⟩) (szS n) (szS n), .int .i64 (x : Int)] W2.drew fun e w' => e = .returned (.tuple #[]) ∧ SetAt bc n (Gra.upB came x) w' ∧ Keeps (fun j => j = bc) W2.drew w' from graAdd_is (H2.out.came.keep (Below.refl _ _).drew) HN.out x HXN.out)
    clear hW2 t0 s1
    go_still_tail 7, (by kernel_rfl)
    go_wp2_with (go_at_call 37; ((with_reducible refine HA.out.mono ?_); rintro e w3 ⟨rfl, hs3, hk3⟩))
    have hsz3 := hk3.size
    have HK3 := Lib.hid ((Keeps.of_below (fun j => j = bc) ((Below.refl W2.heap.size W2).drew)).trans hk3)
    have HN2 := Lib.hid H2.out.ne
    have hbx3 := H2.out.box.kept HK3.out fun e => HN2.out.1 e
    have HBX3 := Lib.hid hbx3
    have HO3 := Lib.hid (H2.out.ord.kept HK3.out fun j e f => HN2.out.2.2.2.2.1 (f ▸ e))
    have HF3 := Lib.hid (H2.out.frm.kept HK3.out fun e => HN2.out.2.2.1 e.symm)
    have HS3 := Lib.hid hs3
    have hne3 : w.heap.size ≠ bc := fun e => by have := H.out.came.lt; omega
    have hst3 := HBX2.out.kept HK3.out hne3
    have HST3 := Lib.hid hst3
    have t3 := hbx3.cell 1
    have x3 := hst3.cell 1
    have ft3 := hbx3.free 1
    have hwl : w.heap.size < W2.heap.size := HBX2.out.lt
    have hz2' : W2.heap.size ≤ w3.heap.size := HK3.out.size
    have hol : (ord.map Int.ofNat).length ≤ 100 := by rw [List.length_map]; exact HL.out
    clear hs3 hk3 hbx3 hst3 t2 x2 hne3
    have hall : ∀ o : Obj, OwnW .i32 (w3.drew.alloc o) bo 21 ov (ord.map Int.ofNat) := fun o => HO3.out.keep (((Below.refl _ _).drew).alloc (Nat.le_refl _) _)
    have HALL := Lib.hid hall
    have t3a := fun o => (HBX3.out.al o).cell 1
    have x3a := fun o => (HST3.out.al o).cell 1
    clear hall
    go_region_law (refine step_append_1 rfl _ _ 38 rfl bo 21 i0 (.int .i32 0) Tryd.underlying38 hi hz0 hz1 (by omega) rfl rfl (HALL.out _) rfl ((BlkAt.newb _ _ _ rfl).cell 0) (by omega) (by simp; omega) ?_; intro v' w4 hown hgr hnx; obtain ⟨a4, c4, rfl, -⟩ := hown.wsn (m := ord.length + 1) (by simp); have kg := (Keeps.of_below (fun j => ov.ownBlock = some j) (((Below.refl w3.heap.size w3).drew).alloc (Nat.le_refl _) (.cells #[.int .i32 x] 21))).trans (Keeps.of_grown hgr fun j e => e); have KG := Lib.hid kg; have hbx4 := HBX3.out.kept kg HN2.out.2.2.2.1; have HBX4 := Lib.hid hbx4; have hst4 := HST3.out.kept kg (fun e => own_off_type HO3.out HST3.out (by decide) e); have HST4 := Lib.hid hst4; have hfr4 := HF3.out.kept kg HN2.out.2.2.2.2.2; have HF4 := Lib.hid hfr4; have t4 := hbx4.cell 1; have t42 := hbx4.cell 2; have ft4 := hbx4.free 1; have x40 := hst4.cell 0; have x41 := hst4.cell 1; have r4 := hfr4.cell HXN.out; have fr4 := hfr4.free x; have hwb : ¬ w.heap.size = bt := (fun e => by have := H.out.box.lt; omega); have hbf : ¬ bf = bt := (fun e => HN2.out.2.1 e.symm); have HOW := Lib.hid hown; have HNX := Lib.hid hnx; clear kg hbx4 hst4 hfr4 hown hnx hgr t3 x3 ft3)
    all_goals
      go_wp2_with fail
      obtain ⟨W5, hW5⟩ : ∃ W5, w4.setCell ⟨bt, 1, none⟩ (.slice a4 (ord.length + 1) c4) = W5 := ⟨_, rfl⟩
      have hno : ∀ j, (Value.slice a4 (ord.length + 1) c4).ownBlock = some j → j ≠ bt ∧ j ≠ bf := fun j e => ⟨fun q => own_off_type HOW.out HBX4.out (by decide) (q ▸ e), fun q => by have := (HOW.out.lt j e).1; have := H.out.lt; omega⟩
      have KB := Lib.hid (show Keeps (fun j => j = bt) w4 W5 from hW5 ▸ Keeps.set1 w4 bt 1 _)
      have hbx5 : BlkAt bt 49 #[.slice (some ⟨bc, 0, none⟩) (szS n) (szS n), .slice a4 (ord.length + 1) c4, .slice (some ⟨bf, 0, none⟩) n n] W5 := hW5 ▸ (HBX4.out.set 1 _).eq rfl
      have hst5 := HST4.out.kept KB.out hwb
      have hfr5 := HF4.out.kept KB.out hbf
      have HO5 := Lib.hid (HOW.out.kept KB.out fun j e => (hno j e).1)
      have HNO := Lib.hid hno
      have HBX5 := Lib.hid hbx5
      have HF5 := Lib.hid hfr5
      have t52 := hbx5.cell 2
      have x50 := hst5.cell 0
      have x51 := hst5.cell 1
      have r5 := hfr5.cell HXN.out
      have fr5 := hfr5.free x
      rw [hW5]
      clear hW5 hno hbx5 hst5 hfr5 t4 t42 ft4 x40 x41 r4 fr4
      go_still_tail 9, (by kernel_rfl)
      go_wp2
      go_ret
      have q0 := HN2.out
      have kf := Keeps.set1 W5 bf x (.int .i32 f)
      have kd : Keeps (fun _ => False) (W5.setCell ⟨bf, x, none⟩ (.int .i32 f)) (W5.setCell ⟨bf, x, none⟩ (.int .i32 f)).drew := Keeps.of_below _ (Below.refl _ _).drew
      refine ⟨rfl, .inr ⟨rfl, .slice a4 (ord.length + 1) c4, ⟨?_, ?_, ?_, ?_, H.out.lt⟩, ?_, ?_⟩⟩
      · exact (HBX5.out.kept kf fun e => q0.2.1 e).kept kd id
      · exact (((HS3.out.kept KG.out q0.2.2.2.2.1).kept KB.out fun e => q0.1 e.symm).kept kf q0.2.2.1).kept kd id
      · have e : (ord ++ [x]).map Int.ofNat = ord.map Int.ofNat ++ [(x : Int)] := by simp
        rw [e]
        exact (HO5.out.kept kf fun j e => (HNO.out j e).2).kept kd fun _ _ => id
      · exact (HF5.out.set x f).kept kd id
      · have k12 := Keeps.of_below (fun j => j = bt ∨ j = bc ∨ j = bf ∨ ov.ownBlock = some j) (HB1.out.trans (HB2.out.mono HB1.out.size))
        exact ((((k12.trans (HK3.out.mono fun j _ e => .inr (.inl e))).trans (KG.out.mono fun j _ e => .inr (.inr (.inr e)))).trans (KB.out.mono fun j _ e => .inl e)).trans (kf.mono fun j _ e => .inr (.inr (.inl e)))).trans (kd.mono fun _ _ e => e.elim)
      · intro j e
        refine (HNX.out j e).imp id fun e => ?_
        have h2 : w3.heap.size ≤ j := Nat.le_trans (by simp) e
        omega
end Go.Proofs.YtggiaopdgijgnaaDoor
