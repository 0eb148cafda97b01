/- Package graph's walk: what waits, what comes. Conditions: ways lie in memory; what may be asked answers by a state of its own. -/
import Derived.Test.YtggiaopdgijgnaaDoorGraF
import Derived.Test.YtggiaopdgijgnaaDoorGraW
import Derived.RangeFuncCalls
import Derived.Laws.EntriesVeiled
namespace Go.Proofs.YtggiaopdgijgnaaDoor
open Go.RowKit Go.IntWalk

/-- 'append(v, x)' of an element of several cells, v a call's own: what is owned next is the same block, or a new one. -/
theorem run_append_nextK {P : Program} {α : Type} {K : Kd α} (w : World) (base : Nat) (t ty e : TypeId) (i : TypeInfo) (z : Value) (ht : P.underlying t = some (.slice e)) (hi : P.info? e = some i) (hz : i.zero = some z)
    (hsize : i.size = K.k) (hzs : z.cells.size = K.k) (v : Value) (l : List α) (hown : OwnEl K w base e v l)
    (a : Addr) (c : Nat) (x : α) (hx : ∀ j u, (K.enc x)[j]? = some u → w.cell? (a.add j) = some u) (h63 : l.length + 1 ≤ maxLen) (hbytes : (l.length + 1) * i.bytes ≤ 140737488355328) (hbase : base ≤ w.heap.size) :
    ∃ v' w', (Builtin.append_ #[t, t] ty #[v, .slice (some a) 1 c]).run P w = .ok v' w' ∧ OwnEl K w' base e v' (l ++ [x]) ∧ w.grownBy w' v.ownBlock ∧ Nexts w v v' := by
  have hl1 : (K.enc x).length = 1 * K.k := by rw [K.len, Nat.one_mul]
  obtain ⟨v', w', hr, h2, h3, -⟩ := run_append_own (P := P) w base t ty e i z K.k i.bytes ht hi hz hsize rfl hzs K.pos v l.length (K.vs l) hown a 1 c (K.enc x) hl1 hx (K.ones x) h63 hbytes hbase
  refine ⟨v', w', hr, ?_, h3, ?_⟩
  · unfold OwnEl
    rw [List.length_append, List.length_singleton, K.vs_app, K.vs_one]
    exact h2
  have hm : l.length + 1 ≤ 9223372036854775807 := by unfold maxLen at h63; omega
  have hbk : v'.ownBlock = v.ownBlock ∨ v'.ownBlock = some w.heap.size := by
    rcases hown.2 with ⟨rfl, hl0⟩ | ⟨g, cap, cur, rfl, hbg, hg, hnc, hcm, hcs, htake⟩
    · have hr2 := run_append_nil (P := P) w t ty e i z ht hi hz a 1 c (K.enc x) (by rw [hsize]; exact hl1) hx (by omega) (by omega) (by
        have : 1 * i.bytes ≤ (l.length + 1) * i.bytes := Nat.mul_le_mul_right _ (by omega)
        omega)
      rw [hr] at hr2
      simp only [Result.ok.injEq] at hr2
      rw [hr2.1]
      exact .inr rfl
    · by_cases hroom : l.length + 1 ≤ cap
      · have hr2 := run_append_room (P := P) w t ty e i ht hi g l.length cap cur hg a 1 c (K.enc x) (by rw [hsize]; exact hl1) hx (K.ones x) hroom (by
          rw [hsize, hl1, hcs, ← Nat.add_mul]
          exact Nat.mul_le_mul_right _ hroom)
        rw [hr] at hr2
        simp only [Result.ok.injEq] at hr2
        rw [hr2.1]
        exact .inl rfl
      · have holds : ∀ j u, (K.vs l)[j]? = some u → w.cell? ((⟨g, 0, none⟩ : Addr).add j) = some u := World.ownsRow.cells (g := g) hown rfl
        have hr2 := run_append_grow (P := P) w t ty e i z ht hi hz ⟨g, 0, none⟩ l.length cap (K.vs l) (by rw [K.vs_len, hsize]) holds a 1 c (K.enc x) (by rw [hsize]; exact hl1) hx (by omega) (by omega) (growslice_fits (by omega) hbytes)
        rw [hr] at hr2
        simp only [Result.ok.injEq] at hr2
        rw [hr2.1]
        exact .inr rfl
  intro j q
  rcases hbk with h | h
  · exact .inl (h ▸ q)
  · rw [h] at q
    exact .inr (by injection q with q; omega)
theorem wpList_append_el {P : Program} {α : Type} [Inhabited α] {K : Kd α} {w : World} {ops : Array Oper} {rest : List Oper} {o : Oper} {a : Act} {Q : Exit → Act → World → Prop} (hgd : Region.wanted o (yielded ops a.tmps) = true) (s x : Operand) (t : TypeId)
    (ho : o.op = .call { callee := .builtin .append, args := #[s, x], argTypes := #[t, t] })
    (base : Nat) (e : TypeId) (i : TypeInfo) (z : Value) (ht : P.underlying t = some (.slice e)) (hi : P.info? e = some i) (hz : i.zero = some z)
    (hsize : i.size = K.k) (hby : i.bytes ≤ 1000) (hzs : z.cells.size = K.k) {v : Value} {l : List α} (hs : a.eval s = v) (hown : OwnEl K w base e v l) {b c : Nat} {u : α} (hx : a.eval x = .slice (some ⟨b, 0, none⟩) 1 c) (hu : ∃ T, BlkAt b T (K.enc u).toArray w)
    (hlen : l.length + 1 ≤ 1048576) (hbase : base ≤ w.heap.size)
    (h : ∀ v' w', OwnEl K w' base e v' (l ++ [u]) → w.grownBy w' v.ownBlock → Nexts w v v' → wpList P ops Q rest (a.put o.dst v') w') : wpList P ops Q (o :: rest) a w := by
  refine wpList_step fun K' hK => ?_
  rw [if_pos hgd]
  obtain ⟨T, hu⟩ := hu
  obtain ⟨v', w', hr, h2, h3, h4⟩ := run_append_nextK (P := P) w base t o.type e i z ht hi hz hsize hzs v l hown ⟨b, 0, none⟩ c u (fun j y hj => by
    rw [by_add, Nat.zero_add, hu.cell]
    simpa using hj) (by unfold maxLen; omega) (by
    have := Nat.mul_le_mul hlen hby
    omega) hbase
  unfold Oper.wp execOp
  simp only [ho, resolve, invoke, builtin, Sem.run_bind, Sem.run_pure, Result.andThen_ok, List.map_toArray, List.map_cons, List.map_nil, hs, hx, hr]
  exact hK _ _ (h v' w' h2 h3 h4)
theorem OwnEl.atn {α : Type} [Inhabited α] {K : Kd α} {w : World} {base m : Nat} {e : TypeId} {v : Value} {l : List α} (h : OwnEl K w base e v l) (hm : l.length = m) : ∃ a c, v = .slice a m c ∧ ElAt K w a m c l := by
  subst hm; exact h.at
/-- A step that waits: from where, to where. -/
def stpK : Kd (Int × Nat) where
  k := 2
  enc x := [.int .i32 x.1, .int .i32 x.2]
  len _ := rfl
  ones _ v hv := by
    simp only [List.mem_cons, List.not_mem_nil, or_false] at hv
    rcases hv with rfl | rfl <;> rfl
  pos := by decide
/-- A function that is asked of places: what it answers by a state of its own, which is what J says of memory; what it may change is in K's blocks. -/
structure MayAt {σ : Type} (fn : Nat) (caps : Array Value) (n B : Nat) (K : Nat → Prop) (J : σ → World → Prop) (mv : σ → Nat → Bool) (ms : σ → Nat → σ) : Prop where
  ask : ∀ s w (p : Nat), p < n → J s w → Calls Tryd.prog fn (#[.int .i32 p] ++ caps) w fun e w' => e = .returned (.bool (mv s p)) ∧ J (ms s p) w' ∧ Keeps K w w'
  keep : ∀ s w w', J s w → Below B w w' → J s w'
  lt : ∀ j, K j → j < B
  cf : ∀ args w, Sem.run Tryd.prog (callFunc fn args) w = .ok (.enter fn args) w
theorem infoStp : (Tryd.prog.info? 78).map (fun i => (i.zero, i.size, i.bytes)) = some (some (.agg #[.int .i32 0, .int .i32 0]), 2, 8) := by kernel_rfl
set_option maxRecDepth 100000 in
set_option maxHeartbeats 1000000 in
theorem graWait_is {σ : Type} {fn : Nat} {caps : Array Value} {n B base : Nat} {K : Nat → Prop} {J : σ → World → Prop} {mv : σ → Nat → Bool} {ms : σ → Nat → σ} (hM : MayAt fn caps n B K J mv ms) {w : World} {bt bc bm bs k c : Nat} {a : Option Addr} {tx ty sv : Value} {came : Nat → Bool} {f : Int} {l : List Nat} {s : σ} {st : List (Int × Nat)}
    (hn : n ≤ 60) (hbt : BlkAt bt 49 #[.slice (some ⟨bc, 0, none⟩) (szS n) (szS n), tx, ty] w) (hbm : BlkAt bm 65 #[.func (.func fn) #[] caps] w) (hbs : BlkAt bs 76 #[sv] w)
    (hc : SetAt bc n came w) (hl : Ws .i32 w a k c (l.map Int.ofNat)) (hlk : ∀ b off, a = some ⟨b, off, none⟩ → ¬ K b ∧ b < base ∧ b ≠ bs) (hln : ∀ x ∈ l, x < n) (hst : OwnEl stpK w base 78 sv st) (hlen : st.length + l.length ≤ 100000) (hJ : J s w)
    (hB : B ≤ bt ∧ B ≤ bm ∧ B ≤ bs ∧ B ≤ bc ∧ B ≤ base) (hbase : base ≤ w.heap.size) (hbb : bs < base ∧ bt < base ∧ bm < base ∧ bc < base ∧ bs ≠ bt ∧ bs ≠ bm ∧ bs ≠ bc) :
    Calls Tryd.prog 49 #[.int .i32 f, .slice a k c, .pointer (some ⟨bt, 0, none⟩), .pointer (some ⟨bm, 0, none⟩), .pointer (some ⟨bs, 0, none⟩)] w fun e w' => e = .returned (.tuple #[]) ∧
      ∃ sv', BlkAt bs 76 #[sv'] w' ∧ OwnEl stpK w' base 78 sv' (Gra.waitS mv ms came f l s st).2 ∧ J (Gra.waitS mv ms came f l s st).1 w' ∧ Keeps (fun j => K j ∨ j = bs ∨ sv.ownBlock = some j) w w' ∧ Nexts w sv sv' := by
  obtain ⟨i0, hi, hz0, hz1, hz2⟩ := info_parts infoStp
  have hll := hl.len
  rw [List.length_map] at hll
  have hcap := hl.cap
  have hbig := hl.big
  unfold maxLen at hbig
  have hk : k ≤ 100000 := by omega
  have hk' : (k : Int) ≤ 100000 := by omega
  have HM := Lib.hid hM
  have hof : ∀ j, K j ∨ j = bs ∨ sv.ownBlock = some j → (j < B ∨ j = bs ∨ base ≤ j) := fun j e => e.elim (fun e => .inl (hM.lt j e)) fun e => e.elim (fun e => .inr (.inl e)) fun e => .inr (.inr (hst.lt j e).1)
  have HBT := Lib.hid (fun (wr : World) (h : Keeps (fun j => K j ∨ j = bs ∨ sv.ownBlock = some j) w wr) => hbt.kept h fun e => by rcases hof _ e with e | e | e <;> omega)
  have HBM := Lib.hid (fun (wr : World) (h : Keeps (fun j => K j ∨ j = bs ∨ sv.ownBlock = some j) w wr) => hbm.kept h fun e => by rcases hof _ e with e | e | e <;> omega)
  have HC := Lib.hid (fun (wr : World) (h : Keeps (fun j => K j ∨ j = bs ∨ sv.ownBlock = some j) w wr) => hc.kept h fun e => by rcases hof _ e with e | e | e <;> omega)
  have HL := Lib.hid (fun (wr : World) (h : Keeps (fun j => K j ∨ j = bs ∨ sv.ownBlock = some j) w wr) => hl.kept h fun b off e f => by
    obtain ⟨h1, h2, h3⟩ := hlk b off e
    rcases f with f | f | f
    · exact h1 f
    · exact h3 f
    · have := (hst.lt b f).1; omega)
  have HS := Lib.hid hst
  have HBS := Lib.hid hbs
  have HLN := Lib.hid hln
  have HLL := Lib.hid hll
  have HLEN := Lib.hid hlen
  have HJ := Lib.hid hJ
  have HBB := Lib.hid (And.intro hB hbb)
  have hbase' := hbase
  clear hM hof hbt hbm hc hl hst hbs hln hll hlen hJ hlk hB hbb hk
  go_enter Tryd.func49, Tryd.ntmps49
  go_wp2
  go_loopw [11, 8] (fun i _ wr => ∃ j : Nat, j ≤ k ∧ i = .int .i64 j ∧ (∃ sv', BlkAt bs 76 #[sv'] wr ∧ OwnEl stpK wr base 78 sv' (Gra.waitS mv ms came f (l.take j) s st).2 ∧ Nexts w sv sv') ∧ J (Gra.waitS mv ms came f (l.take j) s st).1 wr ∧ Keeps (fun j => K j ∨ j = bs ∨ sv.ownBlock = some j) w wr) (fun i _ _ => k - (intOf i).toNat)
  case atStart => exact ⟨0, by omega, rfl, ⟨sv, HBS.out, by rw [List.take_zero]; exact HS.out, Nexts.refl _ _⟩, by rw [List.take_zero]; exact HJ.out, Keeps.refl _ _⟩
  case round =>
    obtain ⟨j, hj, rfl, ⟨sv', hs1, hs2, hs3⟩, hJ, hK⟩ := hrel
    have HS1 := Lib.hid hs1
    have HS2 := Lib.hid hs2
    have HS3 := Lib.hid hs3
    have HJ1 := Lib.hid hJ
    have HK1 := Lib.hid hK
    by_cases hlt : j < k
    · have hlt' : (j : Int) < k := by omega
      obtain ⟨g, off, rfl, hcl⟩ := (HL.out wr hK).lie (by omega)
      have c0 := hcl j hlt
      have hjl : j < l.length := by rw [HLL.out]; exact hlt
      obtain ⟨x, hx⟩ : ∃ x, l[j] = x := ⟨_, rfl⟩
      have hxv : byAt (l.map Int.ofNat) j = (x : Int) := by rw [← byAt_eq (by simpa using hjl)]; simp [hx]
      rw [hxv] at c0
      have hxn := HLN.out x (by rw [← hx]; exact List.getElem_mem _)
      have HT := Lib.hid (show l.take (j + 1) = l.take j ++ [x] by rw [List.take_succ_eq_append_getElem hjl, hx])
      have b0 := (HBT.out wr hK).cell 0
      have m0 := (HBM.out wr hK).cell 0
      have s0 := hs1.cell 0
      have sf := hs1.free 0
      have hxn' : (x : Int) < n := by omega
      obtain ⟨v, hv⟩ : ∃ v, came x = v := ⟨_, rfl⟩
      have HH := Lib.hid (show Calls Tryd.prog 27 #[.slice (some ⟨bc, 0, none⟩) (szS n) (szS n), .int .i64 (x : Int)] wr fun e w' => e = .returned (.bool v) ∧ wr = w' from by
        have := graHas_is (HC.out wr hK) hn (x : Int)
        rw [hasB_nat came hxn, hv] at this
        exact this)
      have HV := Lib.hid hv
      obtain ⟨r, hr⟩ : ∃ r, Gra.waitS mv ms came f (l.take j) s st = r := ⟨_, rfl⟩
      rw [hr] at HJ1 HS2
      have HR := Lib.hid hr
      have hcf := HM.out.cf
      have HXN := Lib.hid hxn
      clear hs1 hs2 hs3 hJ hK hcl hjl hx hxv hr hv hlt hxn
      cases v with
      | true =>
        go_wp2_with (go_at_call 27; ((with_reducible refine HH.out.mono ?_); rintro e w2 ⟨rfl, rfl⟩))
        go_roundw
        case rel => exact ⟨j + 1, by omega, by go_num, ⟨sv', HS1.out, by rw [HT.out, Gra.waitS_snoc, HV.out, if_pos rfl, HR.out]; exact HS2.out, HS3.out⟩, by rw [HT.out, Gra.waitS_snoc, HV.out, if_pos rfl, HR.out]; exact HJ1.out, HK1.out⟩
        case measure => simp [intOf]; omega
      | false =>
        go_wp2_with (go_at_call 27; ((with_reducible refine HH.out.mono ?_); rintro e w2 ⟨rfl, rfl⟩))
        refine (HM.out.ask r.1 wr x HXN.out HJ1.out).mono ?_
        rintro e w3 ⟨rfl, hj3, hk3⟩
        have HJ3 := Lib.hid hj3
        have HK3 := Lib.hid (HK1.out.trans (hk3.mono fun j _ e => .inl e))
        have hnb : ∀ j, K j → j < B := HM.out.lt
        have hs13 := HS1.out.kept hk3 fun e => by have := hnb _ e; have := HBB.out; omega
        have HS13 := Lib.hid hs13
        have HS23 := Lib.hid (HS2.out.kept hk3 fun j e f => by have := hnb _ f; have := (HS2.out.lt j e).1; have := HBB.out; omega)
        have hz3 := hk3.size
        have s3 := hs13.cell 0
        have sf3 := hs13.free 0
        obtain ⟨u, hu⟩ : ∃ u, mv r.1 x = u := ⟨_, rfl⟩
        have HU := Lib.hid hu
        have hrl : r.2.length ≤ 200000 := by
          have h1 := Gra.waitS_len (mv := mv) (ms := ms) (came := came) (f := f) (l.take j) s st
          rw [HR.out, List.length_take] at h1
          have h2 := HLEN.out
          omega
        rw [hu]
        clear hj3 hk3 hnb hs13 hu
        cases u with
        | false =>
          go_wp2
          go_roundw
          case rel => exact ⟨j + 1, by omega, by go_num, ⟨sv', HS13.out, by rw [HT.out, Gra.waitS_snoc, HV.out, if_neg (by simp), HR.out, HU.out]; exact HS23.out, HS3.out⟩, by rw [HT.out, Gra.waitS_snoc, HV.out, if_neg (by simp), HR.out]; exact HJ3.out, HK3.out⟩
          case measure => simp [intOf]; omega
        | true =>
          go_wp2_with (at_builtin; refine wpList_append_el (K := stpK) rfl _ _ 76 rfl base 78 i0 (.agg #[.int .i32 0, .int .i32 0]) Tryd.underlying76 hi hz0 hz1 (by omega) rfl rfl (HS23.out.keep ((Below.refl _ _).alloc (Nat.le_refl _) _)) rfl (u := (f, x)) ⟨_, BlkAt.new _ _ _⟩ (by omega) (by have := HK3.out.size; simp; omega) ?_; intro v' w' hown hgr hnx; obtain ⟨a2, c2, rfl, -⟩ := hown.atn (m := r.2.length + 1) (by simp); have kg := (Keeps.of_below (fun j => sv'.ownBlock = some j) ((Below.refl w3.heap.size w3).alloc (Nat.le_refl _) (.cells #[.int .i32 f, .int .i32 x] 78))).trans (Keeps.of_grown hgr fun j e => e); have KG := Lib.hid kg; have hs15 := HS13.out.kept kg (fun e => own_off_type HS23.out HS13.out (by decide) e); have HS15 := Lib.hid hs15; have s5 := hs15.cell 0; have sf5 := hs15.free 0; have HOW := Lib.hid hown; have HNX := Lib.hid hnx; clear kg hs15 hown hnx hgr)
          go_roundw
          case rel =>
            have hbb := HBB.out
            have hbl : Below B w3 (w'.setCell ⟨bs, 0, none⟩ (.slice a2 (r.2.length + 1) c2)) :=
              (KG.out.below (Below.refl B w3) (by have := HK3.out.size; omega) fun j e => by have := (HS23.out.lt j e).1; omega).setCell (p := ⟨bs, 0, none⟩) hbb.1.2.2.1 _
            have kx := Keeps.set1 w' bs 0 (.slice a2 (r.2.length + 1) c2)
            refine ⟨j + 1, by omega, by go_num, ⟨_, (HS15.out.set 0 _).eq rfl, ?_, ?_⟩, ?_, ?_⟩
            · rw [HT.out, Gra.waitS_snoc, HV.out, if_neg (by simp), HR.out, HU.out]
              exact HOW.out.kept kx fun j e f => own_off_type HOW.out HS15.out (by decide) (f ▸ e)
            · refine HS3.out.trans (w' := w3) (fun j e => (HNX.out j e).imp id fun e => by simp at e; omega) HK3.out.size
            · rw [HT.out, Gra.waitS_snoc, HV.out, if_neg (by simp), HR.out]
              exact HM.out.keep _ _ _ HJ3.out hbl
            · exact (HK3.out.next KG.out fun j hj e => (HS3.out j e).elim (fun e => .inr (.inr e)) fun e => absurd e (by omega)).trans (kx.mono fun j _ e => .inr (.inl e))
          case measure => simp [intOf]; omega
    · obtain rfl : k = j := by omega
      have e : l.take k = l := by rw [← HLL.out, List.take_length]
      have HE := Lib.hid e
      clear hs1 hs2 hs3 hJ hK e
      go_wp2
      go_end0
      rw [HE.out] at HS2 HJ1
      exact ⟨rfl, sv', HS1.out, HS2.out, HJ1.out, HK1.out, HS3.out⟩
end Go.Proofs.YtggiaopdgijgnaaDoor
