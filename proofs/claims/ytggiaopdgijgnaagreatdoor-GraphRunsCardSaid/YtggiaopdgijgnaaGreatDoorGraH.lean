/- Package graph: the walk over ways. Conditions: no more than 60 places. -/
import Derived.Test.YtggiaopdgijgnaaGreatDoorGraF
import Derived.Test.YtggiaopdgijgnaaGreatDoorGraP
import Derived.RangeFuncCalls
import Derived.Laws.EntriesVeiled
import Derived.Deep.LoopGhost
namespace Go.Proofs.YtggiaopdgijgnaaGreatDoor
open Go.RowKit

open Go.RowKit Go.IntWalk

/-- 'append(v, x)' of an element of several cells, v a call's own: what is owned next is the same block, or a new one. -/
theorem run_append_nextK {P : Program} {α : Type} {K : Kd α} (w : World) (base : Nat) (t ty e : TypeId) (i : TypeInfo) (z : Value) (ht : P.underlying t = some (.slice e)) (hi : P.info? e = some i) (hz : i.zero = some z)
    (hsize : i.size = K.k) (hzs : z.cells.size = K.k) (v : Value) (l : List α) (hown : OwnEl K w base e v l)
    (a : Addr) (c : Nat) (x : α) (hx : ∀ j u, (K.enc x)[j]? = some u → w.cell? (a.add j) = some u) (h63 : l.length + 1 ≤ maxLen) (hbytes : (l.length + 1) * i.bytes ≤ 140737488355328) (hbase : base ≤ w.heap.size) :
    ∃ v' w', (Builtin.append_ #[t, t] ty #[v, .slice (some a) 1 c]).run P w = .ok v' w' ∧ OwnEl K w' base e v' (l ++ [x]) ∧ w.grownBy w' v.ownBlock ∧ Nexts w v v' := by
  have hl1 : (K.enc x).length = 1 * K.k := by rw [K.len, Nat.one_mul]
  obtain ⟨v', w', hr, h2, h3, -⟩ := run_append_own (P := P) w base t ty e i z K.k i.bytes ht hi hz hsize rfl hzs K.pos v l.length (K.vs l) hown a 1 c (K.enc x) hl1 hx (K.ones x) h63 hbytes hbase
  refine ⟨v', w', hr, ?_, h3, ?_⟩
  · unfold OwnEl
    rw [List.length_append, List.length_singleton, K.vs_app, K.vs_one]
    exact h2
  have hm : l.length + 1 ≤ 9223372036854775807 := by unfold maxLen at h63; omega
  have hbk : v'.ownBlock = v.ownBlock ∨ v'.ownBlock = some w.heap.size := by
    rcases hown.2 with ⟨rfl, hl0⟩ | ⟨g, cap, cur, rfl, hbg, hg, hnc, hcm, hcs, htake⟩
    · have hr2 := run_append_nil (P := P) w t ty e i z ht hi hz a 1 c (K.enc x) (by rw [hsize]; exact hl1) hx (by omega) (by omega) (by
        have : 1 * i.bytes ≤ (l.length + 1) * i.bytes := Nat.mul_le_mul_right _ (by omega)
        omega)
      rw [hr] at hr2
      simp only [Result.ok.injEq] at hr2
      rw [hr2.1]
      exact .inr rfl
    · by_cases hroom : l.length + 1 ≤ cap
      · have hr2 := run_append_room (P := P) w t ty e i ht hi g l.length cap cur hg a 1 c (K.enc x) (by rw [hsize]; exact hl1) hx (K.ones x) hroom (by
          rw [hsize, hl1, hcs, ← Nat.add_mul]
          exact Nat.mul_le_mul_right _ hroom)
        rw [hr] at hr2
        simp only [Result.ok.injEq] at hr2
        rw [hr2.1]
        exact .inl rfl
      · have holds : ∀ j u, (K.vs l)[j]? = some u → w.cell? ((⟨g, 0, none⟩ : Addr).add j) = some u := World.ownsRow.cells (g := g) hown rfl
        have hr2 := run_append_grow (P := P) w t ty e i z ht hi hz ⟨g, 0, none⟩ l.length cap (K.vs l) (by rw [K.vs_len, hsize]) holds a 1 c (K.enc x) (by rw [hsize]; exact hl1) hx (by omega) (by omega) (growslice_fits (by omega) hbytes)
        rw [hr] at hr2
        simp only [Result.ok.injEq] at hr2
        rw [hr2.1]
        exact .inr rfl
  intro j q
  rcases hbk with h | h
  · exact .inl (h ▸ q)
  · rw [h] at q
    exact .inr (by injection q with q; omega)
theorem wpList_append_el {P : Program} {α : Type} [Inhabited α] {K : Kd α} {w : World} {ops : Array Oper} {rest : List Oper} {o : Oper} {a : Act} {Q : Exit → Act → World → Prop} (hgd : Region.wanted o (yielded ops a.tmps) = true) (s x : Operand) (t : TypeId)
    (ho : o.op = .call { callee := .builtin .append, args := #[s, x], argTypes := #[t, t] })
    (base : Nat) (e : TypeId) (i : TypeInfo) (z : Value) (ht : P.underlying t = some (.slice e)) (hi : P.info? e = some i) (hz : i.zero = some z)
    (hsize : i.size = K.k) (hby : i.bytes ≤ 1000) (hzs : z.cells.size = K.k) {v : Value} {l : List α} (hs : a.eval s = v) (hown : OwnEl K w base e v l) {b c : Nat} {u : α} (hx : a.eval x = .slice (some ⟨b, 0, none⟩) 1 c) (hu : ∃ T, BlkAt b T (K.enc u).toArray w)
    (hlen : l.length + 1 ≤ 1048576) (hbase : base ≤ w.heap.size)
    (h : ∀ v' w', OwnEl K w' base e v' (l ++ [u]) → w.grownBy w' v.ownBlock → Nexts w v v' → wpList P ops Q rest (a.put o.dst v') w') : wpList P ops Q (o :: rest) a w := by
  refine wpList_step fun K' hK => ?_
  rw [if_pos hgd]
  obtain ⟨T, hu⟩ := hu
  obtain ⟨v', w', hr, h2, h3, h4⟩ := run_append_nextK (P := P) w base t o.type e i z ht hi hz hsize hzs v l hown ⟨b, 0, none⟩ c u (fun j y hj => by
    rw [by_add, Nat.zero_add, hu.cell]
    simpa using hj) (by unfold maxLen; omega) (by
    have := Nat.mul_le_mul hlen hby
    omega) hbase
  unfold Oper.wp execOp
  simp only [ho, resolve, invoke, builtin, Sem.run_bind, Sem.run_pure, Result.andThen_ok, List.map_toArray, List.map_cons, List.map_nil, hs, hx, hr]
  exact hK _ _ (h v' w' h2 h3 h4)
theorem OwnEl.atn {α : Type} [Inhabited α] {K : Kd α} {w : World} {base m : Nat} {e : TypeId} {v : Value} {l : List α} (h : OwnEl K w base e v l) (hm : l.length = m) : ∃ a c, v = .slice a m c ∧ ElAt K w a m c l := by
  subst hm; exact h.at
/-- A step that waits: from where, to where. -/
def stpK : Kd (Int × Nat) where
  k := 2
  enc x := [.int .i32 x.1, .int .i32 x.2]
  len _ := rfl
  ones _ v hv := by
    simp only [List.mem_cons, List.not_mem_nil, or_false] at hv
    rcases hv with rfl | rfl <;> rfl
  pos := by decide
/-- A function that is asked of places: what it answers by a state of its own, which is what J says of memory; what it may change is in K's blocks. -/
structure MayAt {σ : Type} (fn : Nat) (caps : Array Value) (n B : Nat) (K : Nat → Prop) (J : σ → World → Prop) (mv : σ → Nat → Bool) (ms : σ → Nat → σ) : Prop where
  ask : ∀ s w (p : Nat), p < n → J s w → Calls Tryz.prog fn (#[.int .i32 p] ++ caps) w fun e w' => e = .returned (.bool (mv s p)) ∧ J (ms s p) w' ∧ Keeps K w w'
  keep : ∀ s w w', J s w → Below B w w' → J s w'
  lt : ∀ j, K j → j < B
  cf : ∀ args w, Sem.run Tryz.prog (callFunc fn args) w = .ok (.enter fn args) w
theorem infoStp : (Tryz.prog.info? 98).map (fun i => (i.zero, i.size, i.bytes)) = some (some (.agg #[.int .i32 0, .int .i32 0]), 2, 8) := by kernel_rfl
set_option maxRecDepth 100000 in
set_option maxHeartbeats 1000000 in
theorem graWait_is {σ : Type} {fn : Nat} {caps : Array Value} {n B base : Nat} {K : Nat → Prop} {J : σ → World → Prop} {mv : σ → Nat → Bool} {ms : σ → Nat → σ} (hM : MayAt fn caps n B K J mv ms) {w : World} {bt bc bm bs k c : Nat} {a : Option Addr} {tx ty sv : Value} {came : Nat → Bool} {f : Int} {l : List Nat} {s : σ} {st : List (Int × Nat)}
    (hn : n ≤ 60) (hbt : BlkAt bt 58 #[.slice (some ⟨bc, 0, none⟩) (szS n) (szS n), tx, ty] w) (hbm : BlkAt bm 69 #[.func (.func fn) #[] caps] w) (hbs : BlkAt bs 96 #[sv] w)
    (hc : SetAt bc n came w) (hl : Ws .i32 w a k c (l.map Int.ofNat)) (hlk : ∀ b off, a = some ⟨b, off, none⟩ → ¬ K b ∧ b < base ∧ b ≠ bs) (hln : ∀ x ∈ l, x < n) (hst : OwnEl stpK w base 98 sv st) (hlen : st.length + l.length ≤ 100000) (hJ : J s w)
    (hB : B ≤ bt ∧ B ≤ bm ∧ B ≤ bs ∧ B ≤ bc ∧ B ≤ base) (hbase : base ≤ w.heap.size) (hbb : bs < base ∧ bt < base ∧ bm < base ∧ bc < base ∧ bs ≠ bt ∧ bs ≠ bm ∧ bs ≠ bc) :
    Calls Tryz.prog 49 #[.int .i32 f, .slice a k c, .pointer (some ⟨bt, 0, none⟩), .pointer (some ⟨bm, 0, none⟩), .pointer (some ⟨bs, 0, none⟩)] w fun e w' => e = .returned (.tuple #[]) ∧
      ∃ sv', BlkAt bs 96 #[sv'] w' ∧ OwnEl stpK w' base 98 sv' (Gra.waitS mv ms came f l s st).2 ∧ J (Gra.waitS mv ms came f l s st).1 w' ∧ Keeps (fun j => K j ∨ j = bs ∨ sv.ownBlock = some j) w w' ∧ Nexts w sv sv' := by
  obtain ⟨i0, hi, hz0, hz1, hz2⟩ := info_parts infoStp
  have hll := hl.len
  rw [List.length_map] at hll
  have hcap := hl.cap
  have hbig := hl.big
  unfold maxLen at hbig
  have hk : k ≤ 100000 := by omega
  have hk' : (k : Int) ≤ 100000 := by omega
  have HM := Lib.hid hM
  have hof : ∀ j, K j ∨ j = bs ∨ sv.ownBlock = some j → (j < B ∨ j = bs ∨ base ≤ j) := fun j e => e.elim (fun e => .inl (hM.lt j e)) fun e => e.elim (fun e => .inr (.inl e)) fun e => .inr (.inr (hst.lt j e).1)
  have HBT := Lib.hid (fun (wr : World) (h : Keeps (fun j => K j ∨ j = bs ∨ sv.ownBlock = some j) w wr) => hbt.kept h fun e => by rcases hof _ e with e | e | e <;> omega)
  have HBM := Lib.hid (fun (wr : World) (h : Keeps (fun j => K j ∨ j = bs ∨ sv.ownBlock = some j) w wr) => hbm.kept h fun e => by rcases hof _ e with e | e | e <;> omega)
  have HC := Lib.hid (fun (wr : World) (h : Keeps (fun j => K j ∨ j = bs ∨ sv.ownBlock = some j) w wr) => hc.kept h fun e => by rcases hof _ e with e | e | e <;> omega)
  have HL := Lib.hid (fun (wr : World) (h : Keeps (fun j => K j ∨ j = bs ∨ sv.ownBlock = some j) w wr) => hl.kept h fun b off e f => by
    obtain ⟨h1, h2, h3⟩ := hlk b off e
    rcases f with f | f | f
    · exact h1 f
    · exact h3 f
    · have := (hst.lt b f).1; omega)
  have HS := Lib.hid hst
  have HBS := Lib.hid hbs
  have HLN := Lib.hid hln
  have HLL := Lib.hid hll
  have HLEN := Lib.hid hlen
  have HJ := Lib.hid hJ
  have HBB := Lib.hid (And.intro hB hbb)
  have hbase' := hbase
  clear hM hof hbt hbm hc hl hst hbs hln hll hlen hJ hlk hB hbb hk
  go_enter Tryz.func49, Tryz.ntmps49
  go_wp2
  go_loopw [11, 8] (fun i _ wr => ∃ j : Nat, j ≤ k ∧ i = .int .i64 j ∧ (∃ sv', BlkAt bs 96 #[sv'] wr ∧ OwnEl stpK wr base 98 sv' (Gra.waitS mv ms came f (l.take j) s st).2 ∧ Nexts w sv sv') ∧ J (Gra.waitS mv ms came f (l.take j) s st).1 wr ∧ Keeps (fun j => K j ∨ j = bs ∨ sv.ownBlock = some j) w wr) (fun i _ _ => k - (intOf i).toNat)
  case atStart => exact ⟨0, by omega, rfl, ⟨sv, HBS.out, by rw [List.take_zero]; exact HS.out, Nexts.refl _ _⟩, by rw [List.take_zero]; exact HJ.out, Keeps.refl _ _⟩
  case round =>
    obtain ⟨j, hj, rfl, ⟨sv', hs1, hs2, hs3⟩, hJ, hK⟩ := hrel
    have HS1 := Lib.hid hs1
    have HS2 := Lib.hid hs2
    have HS3 := Lib.hid hs3
    have HJ1 := Lib.hid hJ
    have HK1 := Lib.hid hK
    by_cases hlt : j < k
    · have hlt' : (j : Int) < k := by omega
      obtain ⟨g, off, rfl, hcl⟩ := (HL.out wr hK).lie (by omega)
      have c0 := hcl j hlt
      have hjl : j < l.length := by rw [HLL.out]; exact hlt
      obtain ⟨x, hx⟩ : ∃ x, l[j] = x := ⟨_, rfl⟩
      have hxv : byAt (l.map Int.ofNat) j = (x : Int) := by rw [← byAt_eq (by simpa using hjl)]; simp [hx]
      rw [hxv] at c0
      have hxn := HLN.out x (by rw [← hx]; exact List.getElem_mem _)
      have HT := Lib.hid (show l.take (j + 1) = l.take j ++ [x] by rw [List.take_succ_eq_append_getElem hjl, hx])
      have b0 := (HBT.out wr hK).cell 0
      have m0 := (HBM.out wr hK).cell 0
      have s0 := hs1.cell 0
      have sf := hs1.free 0
      have hxn' : (x : Int) < n := by omega
      obtain ⟨v, hv⟩ : ∃ v, came x = v := ⟨_, rfl⟩
      have HH := Lib.hid (show Calls Tryz.prog 23 #[.slice (some ⟨bc, 0, none⟩) (szS n) (szS n), .int .i64 (x : Int)] wr fun e w' => e = .returned (.bool v) ∧ wr = w' from by
        have := graHas_is (HC.out wr hK) hn (x : Int)
        rw [hasB_nat came hxn, hv] at this
        exact this)
      have HV := Lib.hid hv
      obtain ⟨r, hr⟩ : ∃ r, Gra.waitS mv ms came f (l.take j) s st = r := ⟨_, rfl⟩
      rw [hr] at HJ1 HS2
      have HR := Lib.hid hr
      have hcf := HM.out.cf
      have HXN := Lib.hid hxn
      clear hs1 hs2 hs3 hJ hK hcl hjl hx hxv hr hv hlt hxn
      cases v with
      | true =>
        go_wp2_with (go_at_call 23; ((with_reducible refine HH.out.mono ?_); rintro e w2 ⟨rfl, rfl⟩))
        go_roundw
        case rel => exact ⟨j + 1, by omega, by go_num, ⟨sv', HS1.out, by rw [HT.out, Gra.waitS_snoc, HV.out, if_pos rfl, HR.out]; exact HS2.out, HS3.out⟩, by rw [HT.out, Gra.waitS_snoc, HV.out, if_pos rfl, HR.out]; exact HJ1.out, HK1.out⟩
        case measure => simp [intOf]; omega
      | false =>
        go_wp2_with (go_at_call 23; ((with_reducible refine HH.out.mono ?_); rintro e w2 ⟨rfl, rfl⟩))
        refine (HM.out.ask r.1 wr x HXN.out HJ1.out).mono ?_
        rintro e w3 ⟨rfl, hj3, hk3⟩
        have HJ3 := Lib.hid hj3
        have HK3 := Lib.hid (HK1.out.trans (hk3.mono fun j _ e => .inl e))
        have hnb : ∀ j, K j → j < B := HM.out.lt
        have hs13 := HS1.out.kept hk3 fun e => by have := hnb _ e; have := HBB.out; omega
        have HS13 := Lib.hid hs13
        have HS23 := Lib.hid (HS2.out.kept hk3 fun j e f => by have := hnb _ f; have := (HS2.out.lt j e).1; have := HBB.out; omega)
        have hz3 := hk3.size
        have s3 := hs13.cell 0
        have sf3 := hs13.free 0
        obtain ⟨u, hu⟩ : ∃ u, mv r.1 x = u := ⟨_, rfl⟩
        have HU := Lib.hid hu
        have hrl : r.2.length ≤ 200000 := by
          have h1 := Gra.waitS_len (mv := mv) (ms := ms) (came := came) (f := f) (l.take j) s st
          rw [HR.out, List.length_take] at h1
          have h2 := HLEN.out
          omega
        rw [hu]
        clear hj3 hk3 hnb hs13 hu
        cases u with
        | false =>
          go_wp2
          go_roundw
          case rel => exact ⟨j + 1, by omega, by go_num, ⟨sv', HS13.out, by rw [HT.out, Gra.waitS_snoc, HV.out, if_neg (by simp), HR.out, HU.out]; exact HS23.out, HS3.out⟩, by rw [HT.out, Gra.waitS_snoc, HV.out, if_neg (by simp), HR.out]; exact HJ3.out, HK3.out⟩
          case measure => simp [intOf]; omega
        | true =>
          go_wp2_with (at_builtin; refine wpList_append_el (K := stpK) rfl _ _ 96 rfl base 98 i0 (.agg #[.int .i32 0, .int .i32 0]) Tryz.underlying96 hi hz0 hz1 (by omega) rfl rfl (HS23.out.keep ((Below.refl _ _).alloc (Nat.le_refl _) _)) rfl (u := (f, x)) ⟨_, BlkAt.new _ _ _⟩ (by omega) (by have := HK3.out.size; simp; omega) ?_; intro v' w' hown hgr hnx; obtain ⟨a2, c2, rfl, -⟩ := hown.atn (m := r.2.length + 1) (by simp); have kg := (Keeps.of_below (fun j => sv'.ownBlock = some j) ((Below.refl w3.heap.size w3).alloc (Nat.le_refl _) (.cells #[.int .i32 f, .int .i32 x] 98))).trans (Keeps.of_grown hgr fun j e => e); have KG := Lib.hid kg; have hs15 := HS13.out.kept kg (fun e => own_off_type HS23.out HS13.out (by decide) e); have HS15 := Lib.hid hs15; have s5 := hs15.cell 0; have sf5 := hs15.free 0; have HOW := Lib.hid hown; have HNX := Lib.hid hnx; clear kg hs15 hown hnx hgr)
          go_roundw
          case rel =>
            have hbb := HBB.out
            have hbl : Below B w3 (w'.setCell ⟨bs, 0, none⟩ (.slice a2 (r.2.length + 1) c2)) :=
              (KG.out.below (Below.refl B w3) (by have := HK3.out.size; omega) fun j e => by have := (HS23.out.lt j e).1; omega).setCell (p := ⟨bs, 0, none⟩) hbb.1.2.2.1 _
            have kx := Keeps.set1 w' bs 0 (.slice a2 (r.2.length + 1) c2)
            refine ⟨j + 1, by omega, by go_num, ⟨_, (HS15.out.set 0 _).eq rfl, ?_, ?_⟩, ?_, ?_⟩
            · rw [HT.out, Gra.waitS_snoc, HV.out, if_neg (by simp), HR.out, HU.out]
              exact HOW.out.kept kx fun j e f => own_off_type HOW.out HS15.out (by decide) (f ▸ e)
            · refine HS3.out.trans (w' := w3) (fun j e => (HNX.out j e).imp id fun e => by simp at e; omega) HK3.out.size
            · rw [HT.out, Gra.waitS_snoc, HV.out, if_neg (by simp), HR.out]
              exact HM.out.keep _ _ _ HJ3.out hbl
            · exact (HK3.out.next KG.out fun j hj e => (HS3.out j e).elim (fun e => .inr (.inr e)) fun e => absurd e (by omega)).trans (kx.mono fun j _ e => .inr (.inl e))
          case measure => simp [intOf]; omega
    · obtain rfl : k = j := by omega
      have e : l.take k = l := by rw [← HLL.out, List.take_length]
      have HE := Lib.hid e
      clear hs1 hs2 hs3 hJ hK e
      go_wp2
      go_end0
      rw [HE.out] at HS2 HJ1
      exact ⟨rfl, sv', HS1.out, HS2.out, HJ1.out, HK1.out, HS3.out⟩

open Go.RowKit Go.IntWalk

/-- What a walk came to, in memory: which places, in which order, from which one to each. -/
structure TripAt (w : World) (bt bc bf bo : Nat) (ov : Value) (n : Nat) (came : Nat → Bool) (ord : List Nat) (fr : Nat → Int) : Prop where
  box : BlkAt bt 58 #[.slice (some ⟨bc, 0, none⟩) (szS n) (szS n), ov, .slice (some ⟨bf, 0, none⟩) n n] w
  came : SetAt bc n came w
  ord : OwnW .i32 w bo 21 ov (ord.map Int.ofNat)
  frm : Ar .i32 21 bf n fr w
  lt : bf < bo ∧ bt < bo ∧ bc < bo
theorem SetAt.type {b n : Nat} {F : Nat → Bool} {w : World} (h : SetAt b n F w) : ∃ cs, BlkAt b 92 cs w := by
  obtain ⟨x, _, _, h3⟩ := h
  exact ⟨_, h3⟩
section
variable {w w' : World} {bt bc bf bo n : Nat} {ov : Value} {came : Nat → Bool} {ord : List Nat} {fr : Nat → Int}
theorem TripAt.keep (h : TripAt w bt bc bf bo ov n came ord fr) (k : Below w.heap.size w w') : TripAt w' bt bc bf bo ov n came ord fr := ⟨h.box.keep k, h.came.keep k, h.ord.keep k, h.frm.keep k, h.lt⟩
theorem TripAt.kept {F : Nat → Prop} (h : TripAt w bt bc bf bo ov n came ord fr) (k : Keeps F w w') (h1 : ¬ F bt) (h2 : ¬ F bc) (h3 : ¬ F bf) (h4 : ∀ j, ov.ownBlock = some j → ¬ F j) : TripAt w' bt bc bf bo ov n came ord fr :=
  ⟨h.box.kept k h1, h.came.kept k h2, h.ord.kept k h4, h.frm.kept k h3, h.lt⟩
theorem TripAt.ne (h : TripAt w bt bc bf bo ov n came ord fr) : bt ≠ bc ∧ bt ≠ bf ∧ bc ≠ bf ∧ ov.ownBlock ≠ some bt ∧ ov.ownBlock ≠ some bc ∧ ov.ownBlock ≠ some bf := by
  obtain ⟨cs, hs⟩ := h.came.type
  have h1 : bf ≠ bc := h.frm.ne_blk hs (by decide)
  refine ⟨fun e => ?_, fun e => (h.frm.ne_blk h.box (by decide)) e.symm, fun e => h1 e.symm, fun e => own_off_type h.ord h.box (by decide) e, fun e => own_off_type h.ord hs (by decide) e, fun e => ?_⟩
  · subst e
    exact absurd (BlkAt.type_eq h.box hs) (by decide)
  · have := (h.ord.lt bf e).1
    have := h.lt.1
    omega
end
/-- 'append(v, x)' at a step of a region that draws its order. -/
theorem step_append_1 {κ : IntKind} {P : Program} {w : World} {ops : Array Oper} {o : Oper} {a : Act} {K : Act → World → Prop} {Q : Exit → Act → World → Prop} {E : Prop} (hgd : Region.wanted o (yielded ops a.tmps) = true) (s x : Operand) (t : TypeId)
    (ho : o.op = .call { callee := .builtin .append, args := #[s, x], argTypes := #[t, t] })
    (base : Nat) (e : TypeId) (i : TypeInfo) (z : Value) (ht : P.underlying t = some (.slice e)) (hi : P.info? e = some i) (hz : i.zero = some z)
    (hsize : i.size = 1) (hby : i.bytes ≤ 1000) (hzs : z.cells.size = 1) {v : Value} {l : List Int} (hs : a.eval s = v) (hown : OwnW κ w base e v l) {b c : Nat} {u : Int} (hx : a.eval x = .slice (some ⟨b, 0, none⟩) 1 c) (hu : w.cell? ⟨b, 0, none⟩ = some (.int κ u))
    (hlen : l.length + 1 ≤ 1048576) (hbase : base ≤ w.heap.size)
    (h : ∀ v' w', OwnW κ w' base e v' (l ++ [u]) → w.grownBy w' v.ownBlock → Nexts w v v' → K (a.put o.dst v') w') : if Region.wanted o (yielded ops a.tmps) = true then Oper.wp P o a w K Q else E := by
  rw [if_pos hgd]
  obtain ⟨v', w', hr, h2, h3, h4⟩ := run_append_next (P := P) w base t o.type e i z i.bytes ht hi hz hsize rfl hzs v l.length (l.map (Value.int κ)) hown ⟨b, 0, none⟩ c (.int κ u) hu rfl (by unfold maxLen; omega) (by
    have := Nat.mul_le_mul hlen hby
    omega) hbase
  unfold Oper.wp execOp
  simp only [ho, resolve, invoke, builtin, Sem.run_bind, Sem.run_pure, Result.andThen_ok, List.map_toArray, List.map_cons, List.map_nil, hs, hx, hr]
  refine h v' w' ?_ h3 ?_
  · unfold OwnW
    rw [List.length_append, List.length_singleton, List.map_append]
    exact h2
  · intro j q
    rcases h4 with h4 | h4
    · exact .inl (h4 ▸ q)
    · rw [h4] at q
      exact .inr (by injection q with q; omega)
/-- What becomes of a place that comes up. -/
def ComeR (bt bc bf bo n x : Nat) (ov : Value) (came : Nat → Bool) (ord : List Nat) (fr : Nat → Int) (f : Int) (v : Bool) (w w' : World) : Prop :=
  (v = true ∧ Below w.heap.size w w') ∨ (v = false ∧ ∃ ov', TripAt w' bt bc bf bo ov' n (Gra.upB came x) (ord ++ [x]) (Gra.upI fr x f) ∧ Keeps (fun j => j = bt ∨ j = bc ∨ j = bf ∨ ov.ownBlock = some j) w w' ∧ Nexts w ov ov')
set_option maxRecDepth 100000 in
set_option maxHeartbeats 1000000 in
theorem graCome_is {w : World} {bt bc bf bo n x : Nat} {ov : Value} {came : Nat → Bool} {ord : List Nat} {fr : Nat → Int} {f : Int} {v : Bool} (h : TripAt w bt bc bf bo ov n came ord fr) (hn : n ≤ 60) (hx : x < n) (hv : came x = v) (hf : -1 ≤ f ∧ f ≤ 60) (hl : ord.length ≤ 100) (hbo : bo ≤ w.heap.size) :
    Calls Tryz.prog 51 #[.pointer (some ⟨bt, 0, none⟩), .agg #[.int .i32 f, .int .i32 x]] w fun e w' => e = .returned (.bool (!v)) ∧ ComeR bt bc bf bo n x ov came ord fr f v w w' := by
  obtain ⟨i0, hi, hz0, hz1, hz2⟩ := info_parts infoI32
  have H := Lib.hid h
  have HN := Lib.hid hn
  have HXN := Lib.hid hx
  have HL := Lib.hid hl
  have hx' : (x : Int) < n := by omega
  have hn' : (n : Int) ≤ 60 := by omega
  obtain ⟨hf0, hf1⟩ := hf
  obtain ⟨W1, hW1⟩ : ∃ W1, w.alloc (.cells #[.int .i32 f, .int .i32 x] 98) = W1 := ⟨_, rfl⟩
  have HB1 := Lib.hid (show Below w.heap.size w W1 from hW1 ▸ (Below.refl _ _).alloc (Nat.le_refl _) _)
  have H1 := Lib.hid (h.keep HB1.out)
  have hbx : BlkAt w.heap.size 98 #[.int .i32 f, .int .i32 x] W1 := hW1 ▸ BlkAt.new w _ _
  have HBX := Lib.hid hbx
  have HW1 := Lib.hid hW1
  have t0 := H1.out.box.cell 0
  have s1 := hbx.cell 1
  have HH := Lib.hid (fun k => show Calls Tryz.prog 23 #[.slice (some ⟨bc, 0, none⟩) (szS n) (szS n), .int .i64 (x : Int)] (W1.drewN k) fun e w' => e = .returned (.bool v) ∧ (W1.drewN k) = w' from by
    have := graHas_is (H1.out.came.keep (below_drewN (Below.refl _ _) k)) hn (x : Int)
    rw [hasB_nat came hx, hv] at this
    exact this)
  clear h hn hx hl hv hbx hW1
  cases v with
  | true =>
    go_enter Tryz.func51, Tryz.ntmps51
    go_upto_region 1 with (fail)
    rw [HW1.out]
    go_quiet ((go_at_call 23; exact quiet_here (HH.out _)))
    go_wp2
    go_ret
    exact ⟨rfl, .inl ⟨rfl, below_drewN HB1.out _⟩⟩
  | false =>
    go_enter Tryz.func51, Tryz.ntmps51
    go_upto_region 1 with (fail)
    rw [HW1.out]
    go_quiet ((go_at_call 23; exact quiet_here (HH.out _)))
    go_wp2
    generalize hW2 : World.drewN W1 _ = W2
    have HB2 := Lib.hid (show Below W1.heap.size W1 W2 from hW2 ▸ below_drewN (Below.refl _ _) _)
    have H2 := Lib.hid (H1.out.keep HB2.out)
    have HBX2 := Lib.hid (HBX.out.keep HB2.out)
    have t2 := H2.out.box.cell 0
    have x2 := HBX2.out.cell 1
    have HA := Lib.hid (show Calls Tryz.prog 37 #[.slice (some ⟨bc, 0, none⟩) (szS n) (szS n), .int .i64 (x : Int)] W2.drew fun e w' => e = .returned (.tuple #[]) ∧ SetAt bc n (Gra.upB came x) w' ∧ Keeps (fun j => j = bc) W2.drew w' from graAdd_is (H2.out.came.keep (Below.refl _ _).drew) HN.out x HXN.out)
    clear hW2 t0 s1
    go_still_tail 7, (by kernel_rfl)
    go_wp2_with (go_at_call 37; ((with_reducible refine HA.out.mono ?_); rintro e w3 ⟨rfl, hs3, hk3⟩))
    have hsz3 := hk3.size
    have HK3 := Lib.hid ((Keeps.of_below (fun j => j = bc) ((Below.refl W2.heap.size W2).drew)).trans hk3)
    have HN2 := Lib.hid H2.out.ne
    have hbx3 := H2.out.box.kept HK3.out fun e => HN2.out.1 e
    have HBX3 := Lib.hid hbx3
    have HO3 := Lib.hid (H2.out.ord.kept HK3.out fun j e f => HN2.out.2.2.2.2.1 (f ▸ e))
    have HF3 := Lib.hid (H2.out.frm.kept HK3.out fun e => HN2.out.2.2.1 e.symm)
    have HS3 := Lib.hid hs3
    have hne3 : w.heap.size ≠ bc := fun e => by have := H.out.came.lt; omega
    have hst3 := HBX2.out.kept HK3.out hne3
    have HST3 := Lib.hid hst3
    have t3 := hbx3.cell 1
    have x3 := hst3.cell 1
    have ft3 := hbx3.free 1
    have hwl : w.heap.size < W2.heap.size := HBX2.out.lt
    have hz2' : W2.heap.size ≤ w3.heap.size := HK3.out.size
    have hol : (ord.map Int.ofNat).length ≤ 100 := by rw [List.length_map]; exact HL.out
    clear hs3 hk3 hbx3 hst3 t2 x2 hne3
    have hall : ∀ o : Obj, OwnW .i32 (w3.drew.alloc o) bo 21 ov (ord.map Int.ofNat) := fun o => HO3.out.keep (((Below.refl _ _).drew).alloc (Nat.le_refl _) _)
    have HALL := Lib.hid hall
    have t3a := fun o => (HBX3.out.al o).cell 1
    have x3a := fun o => (HST3.out.al o).cell 1
    clear hall
    go_region_law (refine step_append_1 rfl _ _ 23 rfl bo 21 i0 (.int .i32 0) Tryz.underlying23 hi hz0 hz1 (by omega) rfl rfl (HALL.out _) rfl ((BlkAt.newb _ _ _ rfl).cell 0) (by omega) (by simp; omega) ?_; intro v' w4 hown hgr hnx; obtain ⟨a4, c4, rfl, -⟩ := hown.wsn (m := ord.length + 1) (by simp); have kg := (Keeps.of_below (fun j => ov.ownBlock = some j) (((Below.refl w3.heap.size w3).drew).alloc (Nat.le_refl _) (.cells #[.int .i32 x] 21))).trans (Keeps.of_grown hgr fun j e => e); have KG := Lib.hid kg; have hbx4 := HBX3.out.kept kg HN2.out.2.2.2.1; have HBX4 := Lib.hid hbx4; have hst4 := HST3.out.kept kg (fun e => own_off_type HO3.out HST3.out (by decide) e); have HST4 := Lib.hid hst4; have hfr4 := HF3.out.kept kg HN2.out.2.2.2.2.2; have HF4 := Lib.hid hfr4; have t4 := hbx4.cell 1; have t42 := hbx4.cell 2; have ft4 := hbx4.free 1; have x40 := hst4.cell 0; have x41 := hst4.cell 1; have r4 := hfr4.cell HXN.out; have fr4 := hfr4.free x; have hwb : ¬ w.heap.size = bt := (fun e => by have := H.out.box.lt; omega); have hbf : ¬ bf = bt := (fun e => HN2.out.2.1 e.symm); have HOW := Lib.hid hown; have HNX := Lib.hid hnx; clear kg hbx4 hst4 hfr4 hown hnx hgr t3 x3 ft3)
    all_goals
      go_wp2_with fail
      obtain ⟨W5, hW5⟩ : ∃ W5, w4.setCell ⟨bt, 1, none⟩ (.slice a4 (ord.length + 1) c4) = W5 := ⟨_, rfl⟩
      have hno : ∀ j, (Value.slice a4 (ord.length + 1) c4).ownBlock = some j → j ≠ bt ∧ j ≠ bf := fun j e => ⟨fun q => own_off_type HOW.out HBX4.out (by decide) (q ▸ e), fun q => by have := (HOW.out.lt j e).1; have := H.out.lt; omega⟩
      have KB := Lib.hid (show Keeps (fun j => j = bt) w4 W5 from hW5 ▸ Keeps.set1 w4 bt 1 _)
      have hbx5 : BlkAt bt 58 #[.slice (some ⟨bc, 0, none⟩) (szS n) (szS n), .slice a4 (ord.length + 1) c4, .slice (some ⟨bf, 0, none⟩) n n] W5 := hW5 ▸ (HBX4.out.set 1 _).eq rfl
      have hst5 := HST4.out.kept KB.out hwb
      have hfr5 := HF4.out.kept KB.out hbf
      have HO5 := Lib.hid (HOW.out.kept KB.out fun j e => (hno j e).1)
      have HNO := Lib.hid hno
      have HBX5 := Lib.hid hbx5
      have HF5 := Lib.hid hfr5
      have t52 := hbx5.cell 2
      have x50 := hst5.cell 0
      have x51 := hst5.cell 1
      have r5 := hfr5.cell HXN.out
      have fr5 := hfr5.free x
      rw [hW5]
      clear hW5 hno hbx5 hst5 hfr5 t4 t42 ft4 x40 x41 r4 fr4
      go_still_tail 9, (by kernel_rfl)
      go_wp2
      go_ret
      have q0 := HN2.out
      have kf := Keeps.set1 W5 bf x (.int .i32 f)
      have kd : Keeps (fun _ => False) (W5.setCell ⟨bf, x, none⟩ (.int .i32 f)) (W5.setCell ⟨bf, x, none⟩ (.int .i32 f)).drew := Keeps.of_below _ (Below.refl _ _).drew
      refine ⟨rfl, .inr ⟨rfl, .slice a4 (ord.length + 1) c4, ⟨?_, ?_, ?_, ?_, H.out.lt⟩, ?_, ?_⟩⟩
      · exact (HBX5.out.kept kf fun e => q0.2.1 e).kept kd id
      · exact (((HS3.out.kept KG.out q0.2.2.2.2.1).kept KB.out fun e => q0.1 e.symm).kept kf q0.2.2.1).kept kd id
      · have e : (ord ++ [x]).map Int.ofNat = ord.map Int.ofNat ++ [(x : Int)] := by simp
        rw [e]
        exact (HO5.out.kept kf fun j e => (HNO.out j e).2).kept kd fun _ _ => id
      · exact (HF5.out.set x f).kept kd id
      · have k12 := Keeps.of_below (fun j => j = bt ∨ j = bc ∨ j = bf ∨ ov.ownBlock = some j) (HB1.out.trans (HB2.out.mono HB1.out.size))
        exact ((((k12.trans (HK3.out.mono fun j _ e => .inr (.inl e))).trans (KG.out.mono fun j _ e => .inr (.inr (.inr e)))).trans (KB.out.mono fun j _ e => .inl e)).trans (kf.mono fun j _ e => .inr (.inr (.inl e)))).trans (kd.mono fun _ _ e => e.elim)
      · intro j e
        refine (HNX.out j e).imp id fun e => ?_
        have h2 : w3.heap.size ≤ j := Nat.le_trans (by simp) e
        omega

open Go.RowKit Go.IntWalk

theorem own_cut {α : Type} {K : Kd α} {w : World} {base n g cap : Nat} {e : TypeId} {l : List α} (h : OwnEl K w base e (.slice (some ⟨g, 0, none⟩) n cap) l) (hl : l.length = n) {k : Nat} (hk : k ≤ n) : OwnEl K w base e (.slice (some ⟨g, 0, none⟩) k cap) (l.take k) := by
  obtain ⟨h1, hcase⟩ := h
  subst hl
  have hlt : (l.take k).length = k := by rw [List.length_take]; omega
  refine ⟨by rw [K.vs_len], ?_⟩
  rcases hcase with ⟨h0, _⟩ | ⟨g', cap', cur, hv, hb, hg, e1, e2, e3, e4⟩
  · cases h0
  · simp only [Value.slice.injEq, Option.some.injEq, Addr.mk.injEq, and_true] at hv
    obtain ⟨rfl, -, rfl⟩ := hv
    refine .inr ⟨g, cap, cur, by rw [hlt], hb, hg, by omega, e2, e3, ?_⟩
    rw [hlt]
    have e5 : K.vs l = K.vs (l.take k) ++ K.vs (l.drop k) := by rw [← K.vs_app, List.take_append_drop]
    have e6 : (K.vs (l.take k)).length = k * K.k := by rw [K.vs_len, hlt]
    have e7 : cur.toList.take (k * K.k) = (cur.toList.take (l.length * K.k)).take (k * K.k) := by
      rw [List.take_take, Nat.min_eq_left (Nat.mul_le_mul_right _ hk)]
    rw [e7, e4, e5, ← e6, List.take_left]
/-- A walk in memory: what it came to, what waits, what may be asked, its own functions, the ways. -/
structure WalkAt {σ : Type} (fn : Nat) (caps : Array Value) (J : σ → World → Prop) (w0 : World) (a : Option Addr) (m c : Nat) (a' : Option Addr) (n1 c' n B bt bc bf bo bs bm b9 b3 : Nat) (ov sv : Value) (s : σ) (T : Gra.Tr) (w : World) : Prop where
  trip : TripAt w bt bc bf bo ov n T.came T.ord T.fr
  box : BlkAt bs 96 #[sv] w
  st : OwnEl stpK w bo 98 sv T.st
  may : BlkAt bm 69 #[.func (.func fn) #[] caps] w
  wt : BlkAt b9 99 #[.func (.func 49) #[] #[.pointer (some ⟨bt, 0, none⟩), .pointer (some ⟨bm, 0, none⟩), .pointer (some ⟨bs, 0, none⟩)]] w
  wy : BlkAt b3 60 #[.slice a m c, .slice a' n1 c'] w
  j : J s w
  old : Below w0.heap.size w0 w
  ge : B ≤ bt ∧ B ≤ bc ∧ B ≤ bf ∧ B ≤ bo ∧ B ≤ bs ∧ B ≤ bm ∧ B ≤ b9 ∧ B ≤ b3 ∧ w0.heap.size ≤ B
  lo : bs < bo ∧ bm < bo ∧ b9 < bo ∧ b3 < bo ∧ bo ≤ w.heap.size
section
variable {σ : Type} {fn : Nat} {caps : Array Value} {J : σ → World → Prop} {w0 : World} {a : Option Addr} {m c : Nat} {a' : Option Addr} {n1 c' n B bt bc bf bo bs bm b9 b3 : Nat} {ov sv : Value} {s : σ} {T : Gra.Tr} {w : World}
theorem WalkAt.ne (h : WalkAt fn caps J w0 a m c a' n1 c' n B bt bc bf bo bs bm b9 b3 ov sv s T w) : bs ≠ bt ∧ bs ≠ bm ∧ bs ≠ bc ∧ bs ≠ bf ∧ bs ≠ b9 ∧ bs ≠ b3 ∧ bm ≠ bt ∧ bm ≠ bc ∧ bm ≠ bf ∧ b9 ≠ bt ∧ b9 ≠ bc ∧ b9 ≠ bf ∧ b3 ≠ bt ∧ b3 ≠ bc ∧ b3 ≠ bf := by
  obtain ⟨cs, hs⟩ := h.trip.came.type
  have hf : BlkAt bf 21 _ w := h.trip.frm
  have key : ∀ {x y : Nat} {T T' : TypeId} {cs cs' : Array Value}, BlkAt x T cs w → BlkAt y T' cs' w → T ≠ T' → x ≠ y := fun h1 h2 hT e => by
    subst e
    exact hT (BlkAt.type_eq h1 h2)
  exact ⟨key h.box h.trip.box (by decide), key h.box h.may (by decide), key h.box hs (by decide), key h.box hf (by decide), key h.box h.wt (by decide), key h.box h.wy (by decide), key h.may h.trip.box (by decide), key h.may hs (by decide), key h.may hf (by decide),
    key h.wt h.trip.box (by decide), key h.wt hs (by decide), key h.wt hf (by decide), key h.wy h.trip.box (by decide), key h.wy hs (by decide), key h.wy hf (by decide)⟩
theorem WalkAt.keep {w' : World} (h : WalkAt fn caps J w0 a m c a' n1 c' n B bt bc bf bo bs bm b9 b3 ov sv s T w) (hJ : ∀ s w w', J s w → Below B w w' → J s w') (k : Below w.heap.size w w') : WalkAt fn caps J w0 a m c a' n1 c' n B bt bc bf bo bs bm b9 b3 ov sv s T w' :=
  have hw : B ≤ w.heap.size := Nat.le_trans h.ge.2.2.2.1 h.lo.2.2.2.2
  ⟨h.trip.keep k, h.box.keep k, h.st.keep k, h.may.keep k, h.wt.keep k, h.wy.keep k, hJ _ _ _ h.j (k.mono hw), h.old.trans (k.mono (Nat.le_trans h.ge.2.2.2.2.2.2.2.2 hw)), h.ge, ⟨h.lo.1, h.lo.2.1, h.lo.2.2.1, h.lo.2.2.2.1, Nat.le_trans h.lo.2.2.2.2 k.size⟩⟩
end
set_option maxRecDepth 100000 in
set_option maxHeartbeats 4000000 in
theorem graLegEnd_is {σ : Type} {fn : Nat} {caps : Array Value} {J : σ → World → Prop} {w0 : World} {a : Option Addr} {m c : Nat} {a' : Option Addr} {n1 c' n B bt bc bf bo bs bm b9 b3 : Nat} {ov sv : Value} {s : σ} {T : Gra.Tr} {w : World} (self : Value)
    (h : WalkAt fn caps J w0 a m c a' n1 c' n B bt bc bf bo bs bm b9 b3 ov sv s T w) (hst : T.st = []) :
    Calls Tryz.prog 50 #[self, .pointer (some ⟨bs, 0, none⟩), .pointer (some ⟨bt, 0, none⟩), .pointer (some ⟨b9, 0, none⟩), .pointer (some ⟨b3, 0, none⟩)] w fun e w' => e = .returned .nilFunc ∧ w = w' := by
  obtain ⟨a2, c2, rfl, -⟩ := h.st.atn (m := 0) (by rw [hst]; rfl)
  have c0 := h.box.cell 0
  clear h hst
  go_enter Tryz.func50, Tryz.ntmps50
  go_wp2
  go_ret
  exact ⟨rfl, rfl⟩
/-- The blocks that a walk changes. -/
def LegK (K : Nat → Prop) (bs bt bc bf bo : Nat) (j : Nat) : Prop := K j ∨ j = bs ∨ j = bt ∨ j = bc ∨ j = bf ∨ bo ≤ j
/-- What becomes of a walk whose topmost one that waits goes. -/
def LegR {σ : Type} (fn : Nat) (caps : Array Value) (K : Nat → Prop) (J : σ → World → Prop) (w0 : World) (a : Option Addr) (m c : Nat) (a' : Option Addr) (n1 c' n B bt bc bf bo bs bm b9 b3 : Nat) (s : σ) (T : Gra.Tr) (w w' : World) : Prop :=
  ∃ ov' sv', WalkAt fn caps J w0 a m c a' n1 c' n B bt bc bf bo bs bm b9 b3 ov' sv' s T w' ∧ Keeps (LegK K bs bt bc bf bo) w w'
set_option maxRecDepth 100000 in
set_option maxHeartbeats 4000000 in
theorem graLeg_is {σ : Type} {fn : Nat} {caps : Array Value} {K : Nat → Prop} {J : σ → World → Prop} {mv : σ → Nat → Bool} {ms : σ → Nat → σ} {w0 : World} {a : Option Addr} {m c : Nat} {a' : Option Addr} {n1 c' n B bt bc bf bo bs bm b9 b3 : Nat} {ov sv : Value} {s : σ} {T : Gra.Tr} {w : World} {st0 : List (Int × Nat)} {f : Int} {x : Nat} {L : List (List Int)} {N : Nat → List Nat} (self : Value)
    (hM : MayAt fn caps n B K J mv ms) (h : WalkAt fn caps J w0 a m c a' n1 c' n B bt bc bf bo bs bm b9 b3 ov sv s T w) (hG : WayG w0 a m c a' n1 c' L) (hLn : L.length = n) (hN : ∀ p, p < n → el L p = (N p).map Int.ofNat) (hNn : ∀ p q, q ∈ N p → q < n) (hD : ∀ p, (N p).length ≤ 200)
    (hst : T.st = st0 ++ [(f, x)]) (hn : n ≤ 60) (hx : x < n) (hf : -1 ≤ f ∧ f ≤ 60) (hl : T.ord.length ≤ 60) (hlen : T.st.length ≤ 90000) (hK : ∀ j, K j → w0.heap.size ≤ j) (hA : ∀ b off, a = some ⟨b, off, none⟩ → b < w0.heap.size) :
    Calls Tryz.prog 50 #[self, .pointer (some ⟨bs, 0, none⟩), .pointer (some ⟨bt, 0, none⟩), .pointer (some ⟨b9, 0, none⟩), .pointer (some ⟨b3, 0, none⟩)] w fun e w' => e = .returned self ∧
      LegR fn caps K J w0 a m c a' n1 c' n B bt bc bf bo bs bm b9 b3 (Gra.stepT mv ms N st0 f x s T).1 (Gra.stepT mv ms N st0 f x s T).2 w w' := by
  obtain ⟨kk, hkk⟩ : ∃ k, st0.length = k := ⟨_, rfl⟩
  have hk1 : T.st.length = kk + 1 := by rw [hst]; simp [hkk]
  obtain ⟨g, cap, rfl, hg0, hg1, hg2, hg3⟩ := h.st.form hk1 (by omega)
  have hel : el T.st kk = (f, x) := by
    rw [← el_eq (by omega)]
    simp [hst, ← hkk]
  have c0 := h.box.cell 0
  have cf := h.box.free 0
  have e0 := h.st.cell hk1 (i := kk) (j := 0) (by omega) (by decide)
  have e1 := h.st.cell hk1 (i := kk) (j := 1) (by omega) (by decide)
  rw [hel] at e0 e1
  replace e0 : w.cell? ⟨g, kk * 2, none⟩ = some (.int .i32 f) := e0
  replace e1 : w.cell? ⟨g, kk * 2 + 1, none⟩ = some (.int .i32 (x : Int)) := e1
  have hrun := fun w => run_cut_to (P := Tryz.prog) 96 Tryz.underlying96 (s := 2) (fun w => Tryz.sizeOf98 w) (some ⟨g, 0, none⟩) (kk + 1) cap kk (by omega) w
  simp only [sliced_to] at hrun
  have hkb : kk ≤ 90000 := by omega
  have hkb' : (kk : Int) ≤ 90000 := by omega
  have hbw : bs < w.heap.size := h.box.lt
  obtain ⟨W2, hW2⟩ : ∃ W2, (w.setCell ⟨bs, 0, none⟩ (.slice (some ⟨g, 0, none⟩) kk cap)).alloc (.cells #[.int .i32 f, .int .i32 (x : Int)] 98) = W2 := ⟨_, rfl⟩
  have hgbs : g ≠ bs := fun e => by
    subst e
    exact own_off_type h.st h.box (by decide) rfl
  have hge := h.ge
  have hlo := h.lo
  have hne := h.ne
  have k1 : Keeps (fun j => j = bs) w W2 := hW2 ▸ ((Keeps.set1 _ _ _ _).trans (Keeps.of_below (fun j => j = bs) ((Below.refl _ _).alloc (Nat.le_refl _) _)))
  have hb2 : Below B w W2 := k1.below (Below.refl B w) (by omega) fun j e => by subst e; exact hge.2.2.2.2.1
  have h2 : WalkAt fn caps J w0 a m c a' n1 c' n B bt bc bf bo bs bm b9 b3 ov (.slice (some ⟨g, 0, none⟩) kk cap) s { T with st := st0 } W2 := by
    refine ⟨h.trip.kept k1 hne.1.symm hne.2.2.1.symm hne.2.2.2.1.symm fun j e q => own_off_type h.trip.ord h.box (by decide) (q ▸ e), ?_, ?_, h.may.kept k1 hne.2.1.symm, h.wt.kept k1 hne.2.2.2.2.1.symm, h.wy.kept k1 hne.2.2.2.2.2.1.symm, hM.keep _ _ _ h.j hb2, h.old.trans (hb2.mono hge.2.2.2.2.2.2.2.2), hge, ⟨hlo.1, hlo.2.1, hlo.2.2.1, hlo.2.2.2.1, Nat.le_trans hlo.2.2.2.2 k1.size⟩⟩
    · rw [← hW2]
      exact ((h.box.set 0 _).eq rfl).al _
    · have h9 := (own_cut (k := kk) h.st hk1 (by omega)).kept k1 fun j e q => by
        have : g = j := by simpa [Value.ownBlock] using e
        omega
      rw [hst, ← hkk, List.take_left] at h9
      rw [hkk] at h9
      exact h9
  have hC := graCome_is (w := W2) (f := f) h2.trip hn hx rfl hf (show T.ord.length ≤ 100 by omega) h2.lo.2.2.2.2
  obtain ⟨v, hv⟩ : ∃ v, T.came x = v := ⟨_, rfl⟩
  have HKB := Lib.hid (show Keeps (LegK K bs bt bc bf bo) w W2 from k1.mono fun j _ e => .inr (.inl e))
  have H2 := Lib.hid h2
  have HM := Lib.hid hM
  have hbx2 : BlkAt w.heap.size 98 #[.int .i32 f, .int .i32 (x : Int)] W2 := by
    rw [← hW2]
    exact BlkAt.newb _ _ _ (by simp)
  have HBX2 := Lib.hid hbx2
  simp only [hv] at hC
  rw [← hW2] at hC
  have HC := Lib.hid hC
  have HW2 := Lib.hid hW2
  have HV := Lib.hid hv
  have HGE := Lib.hid hge
  have HKK := Lib.hid (And.intro hkk hkb)
  clear hC hv h2 h k1 hb2 hbx2 hW2 hel hne hkb hg3 hst hlen hk1 hkk hge hlo
  cases v with
  | true =>
    go_enter Tryz.func50, Tryz.ntmps50
    go_wp2_with (go_at_call 51; ((with_reducible refine (HC.out).mono ?_); rintro e w3 ⟨rfl, hr⟩); have HR := Lib.hid hr; clear hr)
    go_ret
    have hr := HR.out
    rw [HW2.out] at hr
    rcases hr with ⟨-, hr⟩ | ⟨hr, -⟩
    · unfold Gra.stepT
      rw [HV.out, if_pos rfl]
      exact ⟨rfl, _, _, H2.out.keep HM.out.keep hr, HKB.out.trans (Keeps.of_below _ hr)⟩
    · cases hr
  | false =>
    go_enter Tryz.func50, Tryz.ntmps50
    go_wp2_with (go_at_call 51; ((with_reducible refine (HC.out).mono ?_); rintro e w3 ⟨rfl, hr⟩); have HR := Lib.hid hr; clear hr)
    have hr := HR.out
    rw [HW2.out] at hr
    rcases hr with ⟨hr, -⟩ | ⟨-, ov', ht, hk, hnx⟩
    · cases hr
    have hge := HGE.out
    have hlo := H2.out.lo
    have hn2 := H2.out.ne
    have hnt := H2.out.trip.ne
    have hb3 : Below B W2 w3 := hk.below (Below.refl B W2) (by omega) fun j e => by
      rcases e with e | e | e | e
      · omega
      · omega
      · omega
      · have := (H2.out.trip.ord.lt j e).1; omega
    have hKB3 := HKB.out.trans (hk.mono (G := LegK K bs bt bc bf bo) fun j _ e => by
      rcases e with e | e | e | e
      · exact .inr (.inr (.inl e))
      · exact .inr (.inr (.inr (.inl e)))
      · exact .inr (.inr (.inr (.inr (.inl e))))
      · exact .inr (.inr (.inr (.inr (.inr (H2.out.trip.ord.lt j e).1)))))
    have h3 : WalkAt fn caps J w0 a m c a' n1 c' n B bt bc bf bo bs bm b9 b3 ov' (.slice (some ⟨g, 0, none⟩) kk cap) s { Gra.comeT T f x with st := st0 } w3 := by
      have ho : ∀ {b' : Nat} {T' : TypeId} {cs : Array Value}, BlkAt b' T' cs W2 → T' ≠ 21 → b' ≠ bt → b' ≠ bc → b' ≠ bf → ¬ (b' = bt ∨ b' = bc ∨ b' = bf ∨ ov.ownBlock = some b') := fun hb hT e1 e2 e3 q => by
        rcases q with q | q | q | q
        · exact e1 q
        · exact e2 q
        · exact e3 q
        · exact own_off_type H2.out.trip.ord hb hT q
      refine ⟨ht, H2.out.box.kept hk (ho H2.out.box (by decide) hn2.1 hn2.2.2.1 hn2.2.2.2.1), H2.out.st.kept hk fun j e q => ?_, H2.out.may.kept hk (ho H2.out.may (by decide) hn2.2.2.2.2.2.2.1 hn2.2.2.2.2.2.2.2.1 hn2.2.2.2.2.2.2.2.2.1), H2.out.wt.kept hk (ho H2.out.wt (by decide) hn2.2.2.2.2.2.2.2.2.2.1 hn2.2.2.2.2.2.2.2.2.2.2.1 hn2.2.2.2.2.2.2.2.2.2.2.2.1), H2.out.wy.kept hk (ho H2.out.wy (by decide) hn2.2.2.2.2.2.2.2.2.2.2.2.2.1 hn2.2.2.2.2.2.2.2.2.2.2.2.2.2.1 hn2.2.2.2.2.2.2.2.2.2.2.2.2.2.2), HM.out.keep _ _ _ H2.out.j hb3, H2.out.old.trans (hb3.mono hge.2.2.2.2.2.2.2.2), hge, ⟨hlo.1, hlo.2.1, hlo.2.2.1, hlo.2.2.2.1, Nat.le_trans hlo.2.2.2.2 hk.size⟩⟩
      rcases q with q | q | q | q
      · subst q; exact own_off_type H2.out.st H2.out.trip.box (by decide) e
      · have := (H2.out.st.lt j e).1; have := H2.out.trip.lt; omega
      · have := (H2.out.st.lt j e).1; have := H2.out.trip.lt; omega
      · obtain ⟨_, hcase⟩ := H2.out.trip.ord
        rcases hcase with ⟨h0, _⟩ | ⟨g', _, _, h0, _, hg', _⟩
        · rw [h0] at q; cases q
        · rw [h0] at q
          obtain rfl : g' = j := by simpa [Value.ownBlock] using q
          exact own_off_type H2.out.st (b := g') hg' (by decide) e
    have hbx3 := HBX2.out.kept hk fun q => by
      rcases q with q | q | q | q
      · have := BlkAt.type_eq HBX2.out (q ▸ H2.out.trip.box); exact absurd this (by decide)
      · have := H2.out.trip.lt; omega
      · have := H2.out.trip.lt; omega
      · exact own_off_type H2.out.trip.ord HBX2.out (by decide) q
    have H3 := Lib.hid h3
    have HBX3 := Lib.hid hbx3
    have HKB3 := Lib.hid hKB3
    clear ht hk hnx hge hlo hn2 hnt hb3 hKB3 h3 hbx3
    refine wp_region_free (fun _ => True) [(0, 0, 24, 8), (1, 0, 25, 256), (2, 2, 26, 16777216), (3, 0, 27, 16), (4, 0, 28, 256), (5, 16, 29, 134217728), (6, 32, 30, 268435456), (7, 72, 31, 603979776), (8, 133, 32, 1115684864)] 8 [(0, 23), (1, 24), (2, 25), (3, 26), (4, 27), (5, 28), (6, 29), (7, 30)] [(0, []), (1, []), (2, [(1, 24)]), (3, []), (4, []), (5, [(4, 27)]), (6, [(5, 28)]), (7, [(3, 26), (6, 29)])] [(false, 8, 511)] []
      (fun i v w' => match i with
        | 0 => v = .func (.func 49) #[] #[.pointer (some ⟨bt, 0, none⟩), .pointer (some ⟨bm, 0, none⟩), .pointer (some ⟨bs, 0, none⟩)]
        | 1 => v = .pointer (some ⟨w.heap.size, 1, none⟩)
        | 2 => v = .int .i32 (x : Int)
        | 3 => v = .agg #[.slice a m c, .slice a' n1 c']
        | 4 => v = .pointer (some ⟨w.heap.size, 1, none⟩)
        | 5 => v = .int .i32 (x : Int)
        | 6 => v = .int .i64 (x : Int)
        | 7 => ∃ b k d, v = .slice b k d ∧ Ws .i32 w0 b k d (el L x) ∧ ∀ g off, b = some ⟨g, off, none⟩ → ∃ off', a = some ⟨g, off', none⟩
        | _ => True) (by kernel_rfl) (by kernel_rfl) (by kernel_rfl) (by kernel_rfl) (by kernel_rfl) (fun _ _ => trivial) ?_ ?_ ?_
    · intro i v w1 w2 h _
      match i, h with
      | 0, h | 1, h | 2, h | 3, h | 4, h | 5, h | 6, h | 7, h => exact h
      | _ + 8, _ => trivial
    · refine ⟨?_, ?_, ?_, ?_, ?_, ?_, ?_, ?_, trivial⟩
      · intro o ho vals w1 hb hd hne
        cases ho
        have g0 := (BlkAt.keep (w := w3.drew) H3.out.wt hb).cell 0
        exact .val (v := .func (.func 49) #[] #[.pointer (some ⟨bt, 0, none⟩), .pointer (some ⟨bm, 0, none⟩), .pointer (some ⟨bs, 0, none⟩)]) (w' := w1) (by simp [frA, execOp, Act.eval, go_sem, g0]) ⟨rfl, Below.refl _ _, fun q => by simp at q⟩
      · intro o ho vals w1 hb hd hne
        cases ho
        exact .val (v := .pointer (some ⟨w.heap.size, 1, none⟩)) (w' := w1) (by simp [frA, execOp, Act.eval, go_sem]) ⟨rfl, Below.refl _ _, fun q => by simp at q⟩
      · intro o ho vals w1 hb hd hne
        cases ho
        have e0 : vals 1 = _ := hd (1, 24) (.head _)
        have g0 := (BlkAt.keep (w := w3.drew) HBX3.out hb).cell 1
        exact .val (v := .int .i32 (x : Int)) (w' := w1) (by simp [frA, execOp, Act.put, Act.eval, go_sem, e0, g0]) ⟨rfl, Below.refl _ _, fun q => by simp at q⟩
      · intro o ho vals w1 hb hd hne
        cases ho
        have g0 := (BlkAt.keep (w := w3.drew) H3.out.wy hb).cell 0
        have g1 := (BlkAt.keep (w := w3.drew) H3.out.wy hb).cell 1
        exact .val (v := .agg #[.slice a m c, .slice a' n1 c']) (w' := w1) (by simp [frA, execOp, Act.eval, go_sem, g0, g1]) ⟨rfl, Below.refl _ _, fun q => by simp at q⟩
      · intro o ho vals w1 hb hd hne
        cases ho
        exact .val (v := .pointer (some ⟨w.heap.size, 1, none⟩)) (w' := w1) (by simp [frA, execOp, Act.eval, go_sem]) ⟨rfl, Below.refl _ _, fun q => by simp at q⟩
      · intro o ho vals w1 hb hd hne
        cases ho
        have e0 : vals 4 = _ := hd (4, 27) (.head _)
        have g0 := (BlkAt.keep (w := w3.drew) HBX3.out hb).cell 1
        exact .val (v := .int .i32 (x : Int)) (w' := w1) (by simp [frA, execOp, Act.put, Act.eval, go_sem, e0, g0]) ⟨rfl, Below.refl _ _, fun q => by simp at q⟩
      · intro o ho vals w1 hb hd hne
        cases ho
        have e0 : vals 5 = _ := hd (5, 28) (.head _)
        have hw : IntKind.i64.wrap (x : Int) = (x : Int) := IntWalk.i64_in _ (by omega)
        exact .val (v := .int .i64 (x : Int)) (w' := w1) (by simp [frA, execOp, Act.put, Act.eval, go_sem, e0, hw]) ⟨rfl, Below.refl _ _, fun q => by simp at q⟩
      · intro o ho vals w1 hb hd hne
        cases ho
        have e0 : vals 3 = _ := hd (3, 26) (.head _)
        have e1 : vals 6 = _ := hd (6, 29) (.tail _ (.head _))
        refine .call (f := 27) (vs := #[.agg #[.slice a m c, .slice a' n1 c'], .int .i64 (x : Int)]) (by simp [frA, execOp, Act.put, Act.eval, go_sem, e0, e1]) ((graOf_is (w := w1) hG (H3.out.old.trans (((Below.refl w3.heap.size w3).drew.trans hb).mono H3.out.old.size)) (by omega) (by omega)).mono ?_)
        rintro e w' ⟨b, k, d, rfl, h1, h2, hq⟩
        exact ⟨_, rfl, ⟨b, k, d, rfl, h1, h2⟩, hq, fun q => by simp at q⟩
    · intro vals a1 w1 hI
      have e := hI.frame (by kernel_rfl) (by kernel_rfl)
      subst e
      have e0 : vals 0 = _ := hI.psi 0 (by omega) (by decide)
      have e1 : vals 1 = _ := hI.psi 1 (by omega) (by decide)
      have e2 : vals 2 = _ := hI.psi 2 (by omega) (by decide)
      have e3 : vals 3 = _ := hI.psi 3 (by omega) (by decide)
      have e4 : vals 4 = _ := hI.psi 4 (by omega) (by decide)
      have e5 : vals 5 = _ := hI.psi 5 (by omega) (by decide)
      have e6 : vals 6 = _ := hI.psi 6 (by omega) (by decide)
      obtain ⟨b, k, d, e7, hw7, ha7⟩ := hI.psi 7 (by omega) (by decide)
      have hb1 : Below w3.heap.size w3 w1 := (Below.refl _ _).drew.trans hI.below
      have h1 := H3.out.keep HM.out.keep hb1
      have H1 := Lib.hid h1
      have hgg := HGE.out
      have hlo := h1.lo
      have hnn := h1.ne
      have hlt := h1.trip.lt
      rw [hN x hx] at hw7
      have hW := graWait_is (f := (x : Int)) (k := k) (c := d) (a := b) HM.out hn h1.trip.box h1.may h1.box h1.trip.came (hw7.keep h1.old) (fun b' off q => by
        obtain ⟨off', q'⟩ := ha7 b' off q
        have h9 := hA b' off' q'
        exact ⟨fun q => by have := hK b' q; omega, by omega, by omega⟩) (hNn x) h1.st (show st0.length + (N x).length ≤ 100000 from by have := hD x; have := HKK.out; omega) h1.j (by omega) hlo.2.2.2.2 (by refine ⟨by omega, by omega, by omega, by omega, hnn.1, hnn.2.1, hnn.2.2.1⟩)
      have HWt := Lib.hid hW
      have HB1 := Lib.hid hb1
      clear hI h1 hgg hlo hnn hlt hW hb1
      refine SeqH.step rfl rfl fun K' hK' => ?_
      simp only [frA, List.foldl, e0, e1, e2, e3, e4, e5, e6, e7]
      go_simp
      refine HWt.out.mono ?_
      rintro e w4 ⟨rfl, sv', q1, q2, q3, q4, q5⟩
      refine hK' _ _ trivial (SeqH.done (NoPanic.normal ?_))
      have HQ := Lib.hid (And.intro q1 (And.intro q2 (And.intro q3 (And.intro q4 q5))))
      clear q1 q2 q3 q4 q5
      go_wp2_with fail
      go_ret
      obtain ⟨q1, q2, q3, q4, q5⟩ := HQ.out
      have h1 := H1.out
      have hgg := HGE.out
      have hlo := h1.lo
      have hnn := h1.ne
      have hnt := h1.trip.ne
      have hlt := h1.trip.lt
      have hof : ∀ j, (K j ∨ j = bs ∨ (Value.slice (some ⟨g, 0, none⟩) kk cap).ownBlock = some j) → (j < B ∨ j = bs ∨ (bo ≤ j ∧ j = g)) := fun j e => e.elim (fun e => .inl (HM.out.lt j e)) fun e => e.elim (fun e => .inr (.inl e)) fun e => by
        have : g = j := by simpa [Value.ownBlock] using e
        exact .inr (.inr ⟨by omega, this.symm⟩)
      have hno : ∀ {b' : Nat}, B ≤ b' → b' ≠ bs → b' < bo → ¬ (K b' ∨ b' = bs ∨ (Value.slice (some ⟨g, 0, none⟩) kk cap).ownBlock = some b') := fun h1 h2 h3 e => by
        rcases hof _ e with e | e | e <;> omega
      unfold Gra.stepT
      rw [HV.out, if_neg (by simp)]
      refine ⟨rfl, ov', sv', ⟨h1.trip.kept q4 (hno hgg.1 hnn.1.symm hlt.2.1) (hno hgg.2.1 hnn.2.2.1.symm hlt.2.2) (hno hgg.2.2.1 hnn.2.2.2.1.symm hlt.1) fun j e q => ?_, q1, q2, h1.may.kept q4 (hno hgg.2.2.2.2.2.1 hnn.2.1.symm hlo.2.1), h1.wt.kept q4 (hno hgg.2.2.2.2.2.2.1 hnn.2.2.2.2.1.symm hlo.2.2.1), h1.wy.kept q4 (hno hgg.2.2.2.2.2.2.2.1 hnn.2.2.2.2.2.1.symm hlo.2.2.2.1), q3, ?_, hgg, ⟨hlo.1, hlo.2.1, hlo.2.2.1, hlo.2.2.2.1, Nat.le_trans hlo.2.2.2.2 q4.size⟩⟩, ?_⟩
      · rcases hof j q with q | q | ⟨-, q⟩
        · have := (h1.trip.ord.lt j e).1; omega
        · subst q; exact own_off_type h1.trip.ord h1.box (by decide) e
        · obtain ⟨_, hcase⟩ := h1.st
          rcases hcase with ⟨h0, _⟩ | ⟨g', _, _, h0, _, hg', _⟩
          · cases h0
          · simp only [Value.slice.injEq, Option.some.injEq, Addr.mk.injEq, and_true] at h0
            obtain ⟨rfl, -, -⟩ := h0
            exact own_off_type h1.trip.ord (b := g) hg' (by decide) (q ▸ e)
      · refine q4.below h1.old (Nat.le_trans h1.old.size (Nat.le_refl _)) fun j e => ?_
        rcases e with e | e | e
        · exact hK j e
        · omega
        · have := (h1.st.lt j e).1; omega
      · refine (HKB3.out.trans (Keeps.of_below _ HB1.out)).trans (q4.mono fun j _ e => ?_)
        rcases e with e | e | e
        · exact .inl e
        · exact .inr (.inl e)
        · exact .inr (.inr (.inr (.inr (.inr (h1.st.lt j e).1))))

open Go.RowKit Go.IntWalk

/-- A walk's trip, as it is handed on. -/
def TripV (w : World) (base n : Nat) (v : Value) (T : Gra.Tr) : Prop := ∃ bc bf bo ov, v = .agg #[.slice (some ⟨bc, 0, none⟩) (szS n) (szS n), ov, .slice (some ⟨bf, 0, none⟩) n n] ∧ SetAt bc n T.came w ∧ OwnW .i32 w bo 21 ov (T.ord.map Int.ofNat) ∧ Ar .i32 21 bf n T.fr w ∧ base ≤ bc ∧ base ≤ bf ∧ bf < bo ∧ base ≤ bo
/-- What walk's first statements make. -/
def WalkR (W : World) (n : Nat) (s7 : Value) (wx : World) : Prop := ∃ bt bc bf, s7 = .pointer (some ⟨bt, 0, none⟩) ∧ BlkAt bt 58 #[.slice (some ⟨bc, 0, none⟩) (szS n) (szS n), .slice none 0 0, .slice (some ⟨bf, 0, none⟩) n n] wx ∧ SetAt bc n (fun _ => false) wx ∧ Ar .i32 21 bf n (fun _ => 0) wx ∧ W.heap.size ≤ bt ∧ W.heap.size ≤ bc ∧ W.heap.size ≤ bf ∧ Below W.heap.size W wx
theorem legNil : ∀ w : World, Sem.run Tryz.prog (binOp BinOp.neq 101 Value.nilFunc Value.nilFunc) w = .ok (.bool false) w := fun _ => by kernel_rfl
theorem legSome (fn : Fn) (caps : Array Value) : ∀ w : World, Sem.run Tryz.prog (binOp BinOp.neq 101 (Value.func fn #[] caps) Value.nilFunc) w = .ok (.bool true) w := fun _ => by kernel_rfl
/-- A walk under way: what it came to, of what it began with; the box of the answer stands. -/
def WalkL {σ : Type} (mv : σ → Nat → Bool) (ms : σ → Nat → σ) (N : Nat → List Nat) (x0 : σ × Gra.Tr) (fn : Nat) (caps : Array Value) (K : Nat → Prop) (J : σ → World → Prop) (w0 : World) (a : Option Addr) (m c : Nat) (a' : Option Addr) (n1 c' n B bt bc bf bo bs bm b9 b3 br : Nat) (W : World) (nxt : Value) (k : Nat) (v10 : Value) (wr : World) : Prop :=
  ∃ s T ov sv, Gra.GoT mv ms N x0 (s, T) ∧ WalkAt fn caps J w0 a m c a' n1 c' n B bt bc bf bo bs bm b9 b3 ov sv s T wr ∧ Gra.SizeT n 200 90000 T ∧ Gra.FromT n T ∧ Keeps K W wr ∧ BlkAt br 58 #[.slice none 0 0, .slice none 0 0, .slice none 0 0] wr ∧
    ((v10 = nxt ∧ T.st.length + Gra.uncame n T.came * 201 + 1 ≤ k) ∨ (v10 = .nilFunc ∧ T.st = []))
set_option maxRecDepth 100000 in
set_option maxHeartbeats 4000000 in
theorem graWalk_is {σ : Type} {fn : Nat} {caps : Array Value} {K : Nat → Prop} {J : σ → World → Prop} {mv : σ → Nat → Bool} {ms : σ → Nat → σ} {w0 w : World} {a : Option Addr} {m c : Nat} {a' : Option Addr} {c' n k d : Nat} {b : Option Addr} {s : σ} {L : List (List Int)} {N : Nat → List Nat} {l : List Nat}
    (hM : MayAt fn caps n w.heap.size K J mv ms) (hG : WayG w0 a m c a' (n + 1) c' L) (hold : Below w0.heap.size w0 w) (hLn : L.length = n) (hN : ∀ p, p < n → el L p = (N p).map Int.ofNat) (hNn : ∀ p q, q ∈ N p → q < n) (hD : ∀ p, (N p).length ≤ 200)
    (hn : n ≤ 60) (hK : ∀ j, K j → w0.heap.size ≤ j) (hA : ∀ b off, a = some ⟨b, off, none⟩ → b < w0.heap.size) (hl : Ws .i32 w b k d (l.map Int.ofNat)) (hlk : ∀ b' off, b = some ⟨b', off, none⟩ → ¬ K b' ∧ b' < w.heap.size) (hln : ∀ x ∈ l, x < n) (hll : l.length ≤ 1000) (hJ : J s w) :
    Calls Tryz.prog 28 #[.agg #[.slice a m c, .slice a' (n + 1) c'], .slice b k d, .func (.func fn) #[] caps] w fun e w' => ∃ v s' T, e = .returned v ∧ TripV w' w.heap.size n v T ∧ T.st = [] ∧ Gra.GoT mv ms N ((Gra.waitS mv ms (fun _ => false) (-1) l s []).1, Gra.startT (Gra.waitS mv ms (fun _ => false) (-1) l s []).2) (s', T) ∧ J s' w' ∧ Keeps K w w' := by
  obtain ⟨i0, hi, hz0, hz1, hz2⟩ := info_parts infoI32
  have hmk := run_zeros (P := Tryz.prog) 23 21 i0 Tryz.underlying23 hi hz0 hz1 n (by rw [hz2]; omega) (by unfold maxLen; omega) n rfl
  have hn' : (n : Int) ≤ 60 := by omega
  have HM := Lib.hid hM
  have HG := Lib.hid hG
  have HL := Lib.hid hl
  have HJ := Lib.hid hJ
  have HNC := Lib.hid (And.intro hLn (And.intro hN (And.intro hNn (And.intro hD (And.intro hK (And.intro hA (And.intro hlk (And.intro hln hll))))))))
  have HOLD := Lib.hid hold
  clear hM hG hold hLn hN hNn hD hK hA hl hlk hln hll hJ
  go_enter Tryz.func28, Tryz.ntmps28
  go_upto_region 1 with (fail)
  obtain ⟨W0, hW0⟩ : ∃ W0, ((w.alloc (.cells #[.slice a m c, .slice a' (n + 1) c'] 60)).alloc (.cells #[.func (.func fn) #[] caps] 69)).alloc (.cells #[.slice none 0 0, .slice none 0 0, .slice none 0 0] 58) = W0 := ⟨_, rfl⟩
  rw [hW0]
  have hx : BlkAt w.heap.size 60 #[.slice a m c, .slice a' (n + 1) c'] W0 := hW0 ▸ ((BlkAt.new w _ _).al _).al _
  have hm0 : BlkAt (w.heap.size + 1) 69 #[.func (.func fn) #[] caps] W0 := hW0 ▸ (BlkAt.newb _ _ _ (by simp)).al _
  have hr0 : BlkAt (w.heap.size + 1 + 1) 58 #[.slice none 0 0, .slice none 0 0, .slice none 0 0] W0 := hW0 ▸ BlkAt.newb _ _ _ (by simp)
  have HX := Lib.hid hx
  have HM0 := Lib.hid hm0
  have HR0 := Lib.hid hr0
  have HB0 := Lib.hid (show Below w.heap.size w W0 from hW0 ▸ (((Below.refl _ _).alloc (Nat.le_refl _) _).alloc (by simp) _).alloc (by simp; omega) _)
  clear hW0 hx hm0 hr0
  go_cut [7] (fun s7 wx => WalkR W0 n s7 wx)
  case first =>
    refine wp_region_free (fun w' => Below W0.drew.heap.size W0.drew w') [(0, 0, 12, 8), (1, 1, 13, 2048), (2, 2, 14, 4096), (3, 0, 15, 8), (4, 12, 16, 16384), (5, 16, 17, 32768), (6, 36, 18, 73728), (7, 0, 8, 0), (8, 255, 0, 131200)] 8 [(0, 11), (1, 12), (2, 13), (3, 14), (4, 15), (5, 16), (6, 17), (7, 7)] [(0, []), (1, [(0, 11)]), (2, [(1, 12)]), (3, []), (4, [(3, 14)]), (5, [(4, 15)]), (6, [(2, 13), (5, 16)]), (7, [])] [(false, 8, 511)] [2, 5, 7]
      (fun i v w' => match i with
        | 0 => v = .agg #[.slice a m c, .slice a' (n + 1) c']
        | 1 => v = .int .i64 n
        | 2 => ∃ b, v = .slice (some ⟨b, 0, none⟩) (szS n) (szS n) ∧ SetAt b n (fun _ => false) w' ∧ W0.heap.size ≤ b
        | 3 => v = .agg #[.slice a m c, .slice a' (n + 1) c']
        | 4 => v = .int .i64 n
        | 5 => ∃ b, v = .slice (some ⟨b, 0, none⟩) n n ∧ Ar .i32 21 b n (fun _ => 0) w' ∧ W0.heap.size ≤ b
        | 6 => ∃ b b', v = .agg #[.slice (some ⟨b, 0, none⟩) (szS n) (szS n), .slice none 0 0, .slice (some ⟨b', 0, none⟩) n n] ∧ SetAt b n (fun _ => false) w' ∧ Ar .i32 21 b' n (fun _ => 0) w' ∧ W0.heap.size ≤ b ∧ W0.heap.size ≤ b'
        | 7 => ∃ b, v = .pointer (some ⟨b, 0, none⟩) ∧ BlkAt b 58 #[.slice none 0 0, .slice none 0 0, .slice none 0 0] w' ∧ W0.heap.size ≤ b
        | _ => True) (by kernel_rfl) (by kernel_rfl) (by kernel_rfl) (by kernel_rfl) (by kernel_rfl) (fun _ h => h) ?_ ?_ ?_
    · intro i v w1 w2 h hb
      match i, h with
      | 0, h | 1, h | 3, h | 4, h => exact h
      | 2, ⟨b, e, h, h'⟩ => exact ⟨b, e, h.keep hb, h'⟩
      | 5, ⟨b, e, h, h'⟩ => exact ⟨b, e, h.keep hb, h'⟩
      | 6, ⟨b, b', e, h1, h2, h3⟩ => exact ⟨b, b', e, h1.keep hb, h2.keep hb, h3⟩
      | 7, ⟨b, e, h, h'⟩ => exact ⟨b, e, h.keep hb, h'⟩
      | _ + 8, _ => trivial
    · refine ⟨?_, ?_, ?_, ?_, ?_, ?_, ?_, ?_, trivial⟩
      · intro o ho vals w1 hb hd hne
        cases ho
        have g0 := (BlkAt.keep (w := W0.drew) HX.out hb).cell 0
        have g1 := (BlkAt.keep (w := W0.drew) HX.out hb).cell 1
        exact .val (v := .agg #[.slice a m c, .slice a' (n + 1) c']) (w' := w1) (by simp [frA, execOp, Act.eval, go_sem, g0, g1]) ⟨rfl, Below.refl _ _, fun q => by simp at q⟩
      · intro o ho vals w1 hb hd hne
        cases ho
        have e0 : vals 0 = _ := hd (0, 11) (.head _)
        refine .call (f := 47) (vs := #[.agg #[.slice a m c, .slice a' (n + 1) c']]) (by simp [frA, execOp, Act.put, Act.eval, go_sem, e0]) ((graSize_is (n := n) _ _ _ (by omega)).mono ?_)
        rintro e w' ⟨rfl, hq⟩
        exact ⟨_, rfl, rfl, hq, fun q => by simp at q⟩
      · intro o ho vals w1 hb hd hne
        cases ho
        have e0 : vals 1 = _ := hd (1, 12) (.head _)
        refine .call (f := 48) (vs := #[.int .i64 n]) (by simp [frA, execOp, Act.put, Act.eval, go_sem, e0]) ((graNewSet_is n w1 hn).mono ?_)
        rintro e w' ⟨rfl, hs, hq⟩
        exact ⟨_, rfl, ⟨_, rfl, hs, hb.size⟩, hq, fun _ => ⟨_, rfl, Nat.le_refl _, hs.lt⟩⟩
      · intro o ho vals w1 hb hd hne
        cases ho
        have g0 := (BlkAt.keep (w := W0.drew) HX.out hb).cell 0
        have g1 := (BlkAt.keep (w := W0.drew) HX.out hb).cell 1
        exact .val (v := .agg #[.slice a m c, .slice a' (n + 1) c']) (w' := w1) (by simp [frA, execOp, Act.eval, go_sem, g0, g1]) ⟨rfl, Below.refl _ _, fun q => by simp at q⟩
      · intro o ho vals w1 hb hd hne
        cases ho
        have e0 : vals 3 = _ := hd (3, 14) (.head _)
        refine .call (f := 47) (vs := #[.agg #[.slice a m c, .slice a' (n + 1) c']]) (by simp [frA, execOp, Act.put, Act.eval, go_sem, e0]) ((graSize_is (n := n) _ _ _ (by omega)).mono ?_)
        rintro e w' ⟨rfl, hq⟩
        exact ⟨_, rfl, rfl, hq, fun q => by simp at q⟩
      · intro o ho vals w1 hb hd hne
        cases ho
        have e0 : vals 4 = _ := hd (4, 15) (.head _)
        exact .val (v := .slice (some ⟨w1.heap.size, 0, none⟩) n n) (by simp [frA, execOp, Act.put, Act.eval, go_sem, e0, hmk]) ⟨⟨_, rfl, Ar.zeros w1 rfl, hb.size⟩, (Below.refl _ _).alloc (Nat.le_refl _) _, fun _ => ⟨_, rfl, Nat.le_refl _, by simp⟩⟩
      · intro o ho vals w1 hb hd hne
        cases ho
        obtain ⟨b1, e3, h3, g3⟩ := hd (2, 13) (.head _)
        obtain ⟨b2, e7, h7, g7⟩ := hd (5, 16) (.tail _ (.head _))
        simp only at e3 e7
        exact .val (v := .agg #[.slice (some ⟨b1, 0, none⟩) (szS n) (szS n), .slice none 0 0, .slice (some ⟨b2, 0, none⟩) n n]) (w' := w1) (by simp [frA, execOp, Act.put, Act.eval, go_sem, e3, e7]) ⟨⟨b1, b2, rfl, h3, h7, g3, g7⟩, Below.refl _ _, fun q => by simp at q⟩
      · intro o ho vals w1 hb hd hne
        cases ho
        exact .val (v := .pointer (some ⟨w1.heap.size, 0, none⟩)) (by simp [execOp, go_sem]) ⟨⟨_, rfl, BlkAt.new _ _ _, hb.size⟩, (Below.refl _ _).alloc (Nat.le_refl _) _, fun _ => ⟨_, rfl, Nat.le_refl _, by simp⟩⟩
    · intro vals a1 w1 hI
      have e := hI.frame (by kernel_rfl) (by kernel_rfl)
      subst e
      have e0 : vals 0 = _ := hI.psi 0 (by omega) (by decide)
      have e1 : vals 1 = _ := hI.psi 1 (by omega) (by decide)
      have e3 : vals 3 = _ := hI.psi 3 (by omega) (by decide)
      have e4 : vals 4 = _ := hI.psi 4 (by omega) (by decide)
      obtain ⟨b, b', e6, h1, h2, h3, h4⟩ := hI.psi 6 (by omega) (by decide)
      obtain ⟨bx, e7, h6, h7⟩ := hI.psi 7 (by omega) (by decide)
      have HI := Lib.hid hI
      generalize vals 2 = v2 at *
      generalize vals 5 = v5 at *
      have f0 := h6.free 0
      have f1 := h6.free 1
      have f2 := h6.free 2
      have c0 := h6.cell 0
      have c1 := h6.cell 1
      have c2 := h6.cell 2
      refine SeqH.step rfl rfl fun K hK => ?_
      simp only [frA, List.foldl, e0, e1, e3, e4, e6, e7]
      go_simp
      refine hK _ _ ?_ (SeqH.done (NoPanic.normal ?_))
      · exact ((HI.out.below.setCell (p := ⟨bx, 0, none⟩) h7 _).setCell (p := ⟨bx, 1, none⟩) h7 _).setCell (p := ⟨bx, 2, none⟩) h7 _
      · go_wp2_with fail
        go_meet
        obtain ⟨cs, hs⟩ := h1.type
        have hb0 : Below W0.heap.size W0 w1 := (Below.refl _ _).drew.trans HI.out.below
        have hk2 : Keeps (fun j => j = bx) w1 (((w1.setCell ⟨bx, 0, none⟩ (.slice (some ⟨b, 0, none⟩) (szS n) (szS n))).setCell ⟨bx, 1, none⟩ (.slice none 0 0)).setCell ⟨bx, 2, none⟩ (.slice (some ⟨b', 0, none⟩) n n)) := ((Keeps.set1 _ _ _ _).trans (Keeps.set1 _ _ _ _)).trans (Keeps.set1 _ _ _ _)
        exact ⟨bx, b, b', rfl, (((h6.set 0 _).set 1 _).set 2 _).eq rfl, h1.kept hk2 (fun e => by subst e; exact absurd (BlkAt.type_eq hs h6) (by decide)), h2.kept hk2 (h2.ne_blk h6 (by decide)), h7, h3, h4, hk2.below hb0 hb0.size fun j e => by subst e; exact h7⟩
  case rest =>
    obtain ⟨bt, bc, bf, rfl, hT, hC, hF, l1, l2, l3, hB⟩ := hcut
    have hW0s := HR0.out.lt
    have hx := HX.out.keep hB
    have hm := HM0.out.keep hB
    have hr := HR0.out.keep hB
    have HBc := Lib.hid (HB0.out.trans (hB.mono HB0.out.size))
    obtain ⟨bs, hbs⟩ : ∃ x, wc.heap.size = x := ⟨_, rfl⟩
    obtain ⟨cs, hcs⟩ := hC.type
    have hlt := (And.intro hT.lt (And.intro hcs.lt hF.lt))
    obtain ⟨W3, hW3⟩ : ∃ W3, (wc.alloc (.cells #[.slice none 0 0] 96)).alloc (.cells #[.func (.func 49) #[] #[.pointer (some ⟨bt, 0, none⟩), .pointer (some ⟨w.heap.size + 1, 0, none⟩), .pointer (some ⟨bs, 0, none⟩)]] 99) = W3 := ⟨_, rfl⟩
    have hb3 : Below wc.heap.size wc W3 := hW3 ▸ ((Below.refl _ _).alloc (Nat.le_refl _) _).alloc (by simp) _
    have hs3 : W3.heap.size = bs + 2 := by rw [← hW3, ← hbs]; simp
    have hbx3 : BlkAt bs 96 #[.slice none 0 0] W3 := by
      rw [← hW3, ← hbs]
      exact (BlkAt.new _ _ _).al _
    have hwt3 : BlkAt (bs + 1) 99 #[.func (.func 49) #[] #[.pointer (some ⟨bt, 0, none⟩), .pointer (some ⟨w.heap.size + 1, 0, none⟩), .pointer (some ⟨bs, 0, none⟩)]] W3 := by
      rw [← hW3, ← hbs]
      exact BlkAt.newb _ _ _ (by simp)
    have HT := Lib.hid (hT.keep hb3)
    have HC := Lib.hid (hC.keep hb3)
    have HF := Lib.hid (hF.keep hb3)
    have HXc := Lib.hid (hx.keep hb3)
    have HMc := Lib.hid (hm.keep hb3)
    have HRc := Lib.hid (hr.keep hb3)
    have HBX := Lib.hid hbx3
    have HWT := Lib.hid hwt3
    have HB3 := Lib.hid (HBc.out.trans (hb3.mono HBc.out.size))
    have HW3 := Lib.hid hW3
    have hne : bt ≠ w.heap.size + 1 := by have := HMc.out.lt; omega
    have hWt := graWait_is (w := W3) (f := -1) (bs := bs) (bt := bt) (bm := w.heap.size + 1) (bc := bc) (base := bs + 2) HM.out hn HT.out HMc.out HBX.out HC.out (HL.out.keep HB3.out) (fun b' off q => ⟨(HNC.out.2.2.2.2.2.2.1 b' off q).1, by have := (HNC.out.2.2.2.2.2.2.1 b' off q).2; omega, by have := (HNC.out.2.2.2.2.2.2.1 b' off q).2; omega⟩) HNC.out.2.2.2.2.2.2.2.1 (OwnEl.nil stpK W3 _ _) (show 0 + l.length ≤ 100000 by have := HNC.out.2.2.2.2.2.2.2.2; omega) (HM.out.keep _ _ _ HJ.out HB3.out) (by omega) (by omega) (by omega)
    have HWt := Lib.hid hWt
    have HS := Lib.hid (And.intro hbs (And.intro hs3 (And.intro hlt (And.intro l1 (And.intro l2 (And.intro l3 hW0s))))))
    clear hx hm hr hcs hlt hb3 hs3 hbx3 hwt3 hT hC hF l1 l2 l3 hB hW0s hWt hW3 hne HX HM0 HR0 HB0 HBc
    subst hbs
    have hWt := HWt.out
    rw [← HW3.out] at hWt
    have HWc := Lib.hid hWt
    clear hWt HWt
    go_wp2_with (go_at_call 49; ((with_reducible refine (HWc.out).mono ?_); rintro e w4 ⟨rfl, sv', q1, q2, q3, q4, q5⟩); rw [HW3.out] at q4; have HQ := Lib.hid (And.intro q1 (And.intro q2 (And.intro q3 q4))); clear q1 q2 q3 q4 q5)
    clear HWc HW3
    generalize wc.heap.size = bs at *
    obtain ⟨-, hs3, hlt, l1, l2, l3, hW0s⟩ := HS.out
    obtain ⟨q1, q2, q3, q4⟩ := HQ.out
    obtain ⟨r, hr⟩ : ∃ r, Gra.waitS mv ms (fun _ => false) (-1) l s [] = r := ⟨_, rfl⟩
    have hr1 := Gra.waitS_size (mv := mv) (ms := ms) (came := fun _ => false) (f := -1) l s [] HNC.out.2.2.2.2.2.2.2.1 (by simp)
    have hr2 := Gra.waitS_from (mv := mv) (ms := ms) (came := fun _ => false) (f := -1) l s []
    rw [hr] at q2 q3 hr1 hr2
    have HRE := Lib.hid hr
    have hKl := fun j (h : K j) => HM.out.lt j h
    have hno : ∀ {j : Nat}, w.heap.size ≤ j → j ≠ bs → ¬ (K j ∨ j = bs ∨ (Value.slice none 0 0).ownBlock = some j) := fun h1 h2 e => by
      rcases e with e | e | e
      · have := hKl _ e; omega
      · exact h2 e
      · cases e
    have hb4 : Keeps K w w4 := (Keeps.of_below K HB3.out).next q4 fun j hj e => by
      rcases e with e | e | e
      · exact e
      · omega
      · cases e
    have hst0 := Gra.SizeT.start (n := n) (D := 200) (st := r.2) hr1.2
    have hnm : n * 201 ≤ 60 * 201 := Nat.mul_le_mul_right _ hn
    have hW4 : WalkL mv ms N (r.1, Gra.startT r.2) fn caps K J w0 a m c a' (n + 1) c' n w.heap.size bt bc bf (bs + 2) bs (w.heap.size + 1) (bs + 1) w.heap.size (w.heap.size + 1 + 1) w (.func (.func 50) #[] #[.pointer (some ⟨bs, 0, none⟩), .pointer (some ⟨bt, 0, none⟩), .pointer (some ⟨bs + 1, 0, none⟩), .pointer (some ⟨w.heap.size, 0, none⟩)])
        (r.2.length + Gra.uncame n (fun _ => false) * 201 + 1) (.func (.func 50) #[] #[.pointer (some ⟨bs, 0, none⟩), .pointer (some ⟨bt, 0, none⟩), .pointer (some ⟨bs + 1, 0, none⟩), .pointer (some ⟨w.heap.size, 0, none⟩)]) w4 := by
      refine ⟨r.1, Gra.startT r.2, _, sv', .refl _, ⟨⟨HT.out.kept q4 (hno (by omega) (by omega)), HC.out.kept q4 (hno (by omega) (by omega)), OwnW.nil _ _ _, HF.out.kept q4 (hno (by omega) (by omega)), by omega⟩, q1, q2, HMc.out.kept q4 (hno (by omega) (by omega)), HWT.out.kept q4 (hno (by omega) (by omega)), HXc.out.kept q4 (hno (by omega) (by omega)), q3, ?_, ?_, ?_⟩, ⟨hst0.cnt, hst0.ins, ?_⟩, ?_, hb4, HRc.out.kept q4 (hno (by omega) (by omega)), .inl ⟨rfl, Nat.le_refl _⟩⟩
      · exact hb4.below HOLD.out HOLD.out.size HNC.out.2.2.2.2.1
      · have := HOLD.out.size; omega
      · have := q4.size; omega
      · have := hst0.room; have := hr1.1; have := HNC.out.2.2.2.2.2.2.2.2; simp only [List.length_nil] at *; omega
      · intro y hy
        rcases hr2 y hy with h | h
        · cases h
        · omega
    have HW4 := Lib.hid hW4
    have HN2 := Lib.hid (And.intro hs3 (And.intro hlt (And.intro l1 (And.intro l2 (And.intro l3 hW0s)))))
    clear hs3 hlt l1 l2 l3 hW0s q1 q2 q3 q4 hr1 hr2 hKl hno hb4 hst0 hW4 HQ HS HT HC HF HXc HMc HRc HBX HWT HB3 hr
    have hl1 := legNil
    have hl2 := legSome
    go_loopg [10] (r.2.length + Gra.uncame n (fun _ => false) * 201 + 1) (fun k v10 wr => WalkL mv ms N (r.1, Gra.startT r.2) fn caps K J w0 a m c a' (n + 1) c' n w.heap.size bt bc bf (bs + 2) bs (w.heap.size + 1) (bs + 1) w.heap.size (w.heap.size + 1 + 1) w (.func (.func 50) #[] #[.pointer (some ⟨bs, 0, none⟩), .pointer (some ⟨bt, 0, none⟩), .pointer (some ⟨bs + 1, 0, none⟩), .pointer (some ⟨w.heap.size, 0, none⟩)]) k v10 wr)
    case atStart => exact HW4.out
    case round =>
      obtain ⟨s', T, ov, sv, h1, h2, h3, h4, h5, h6, h7⟩ := hrel
      have H1 := Lib.hid h1
      have H2 := Lib.hid h2
      have H3 := Lib.hid h3
      have H4 := Lib.hid h4
      have H5 := Lib.hid h5
      have H6 := Lib.hid h6
      clear h1 h2 h3 h4 h5 h6 HW4
      rcases h7 with ⟨rfl, hk⟩ | ⟨rfl, hst⟩
      · have HK := Lib.hid hk
        clear hk
        rcases List.eq_nil_or_concat T.st with hst | ⟨st0, ⟨f, x⟩, hst⟩
        · have HST := Lib.hid hst
          have HE := Lib.hid (graLegEnd_is (.func (.func 50) #[] #[.pointer (some ⟨bs, 0, none⟩), .pointer (some ⟨bt, 0, none⟩), .pointer (some ⟨bs + 1, 0, none⟩), .pointer (some ⟨w.heap.size, 0, none⟩)]) H2.out hst)
          clear hst
          go_wp2_with (go_at_call 50; ((with_reducible refine (HE.out).mono ?_); rintro e w5 ⟨rfl, rfl⟩))
          go_roundg 0
          case measure => have := HK.out; omega
          case rel => exact ⟨s', T, ov, sv, H1.out, H2.out, H3.out, H4.out, H5.out, H6.out, .inr ⟨rfl, HST.out⟩⟩
        · rw [List.concat_eq_append] at hst
          have hx := H3.out.ins (f, x) (by rw [hst]; simp)
          have hf := H4.out (f, x) (by rw [hst]; simp)
          have HST := Lib.hid hst
          have HE := Lib.hid (graLeg_is (f := f) (x := x) (.func (.func 50) #[] #[.pointer (some ⟨bs, 0, none⟩), .pointer (some ⟨bt, 0, none⟩), .pointer (some ⟨bs + 1, 0, none⟩), .pointer (some ⟨w.heap.size, 0, none⟩)]) HM.out H2.out HG.out HNC.out.1 HNC.out.2.1 HNC.out.2.2.1 HNC.out.2.2.2.1 hst hn hx (by simp only at hf; omega) (by have := H3.out.cnt; omega) (by have := H3.out.room; omega) HNC.out.2.2.2.2.1 HNC.out.2.2.2.2.2.1)
          have HXF := Lib.hid (And.intro hx hf)
          clear hst hx hf
          go_wp2_with (go_at_call 50; ((with_reducible refine (HE.out).mono ?_); rintro e w5 ⟨rfl, hleg⟩); have HLEG := Lib.hid hleg; clear hleg)
          have hsz := H3.out.step (mv := mv) (ms := ms) (N := N) (s := s') HST.out HNC.out.2.2.1 HNC.out.2.2.2.1
          go_roundg ((Gra.stepT mv ms N st0 f x s' T).2.st.length + Gra.uncame n (Gra.stepT mv ms N st0 f x s' T).2.came * 201 + 1)
          case measure => have := HK.out; have := hsz.2; omega
          case rel =>
            obtain ⟨ov', sv', g1, g2⟩ := HLEG.out
            have hge := HN2.out
            have hbr := H6.out.lt
            refine ⟨_, _, ov', sv', H1.out.next HST.out, g1, hsz.1, H4.out.step HST.out HXF.out.1, H5.out.next g2 fun j hj e => ?_, H6.out.kept g2 fun e => ?_, .inl ⟨rfl, Nat.le_refl _⟩⟩
            · rcases e with e | e | e | e | e | e
              · exact e
              all_goals omega
            · rcases e with e | e | e | e | e | e
              · have := HM.out.lt _ e; omega
              all_goals omega
      · have HST := Lib.hid hst
        obtain ⟨ao, co, rfl, -⟩ := H2.out.trip.ord.wsn (m := T.ord.length) (by simp)
        have t0 := H2.out.trip.box.cell 0
        have t1 := H2.out.trip.box.cell 1
        have t2 := H2.out.trip.box.cell 2
        have g0 := H6.out.free 0
        have g1 := H6.out.free 1
        have g2 := H6.out.free 2
        have y0 := H6.out.cell 0
        have y1 := H6.out.cell 1
        have y2 := H6.out.cell 2
        clear hst
        have hge := HN2.out
        have nb1 : ¬ bt = w.heap.size + 1 + 1 := by omega
        have nb2 : ¬ w.heap.size + 1 + 1 = bt := by omega
        clear hge
        go_wp2_with fail
        refine bodyPost_ret (v := .agg #[.slice (some ⟨bc, 0, none⟩) (szS n) (szS n), .slice ao T.ord.length co, .slice (some ⟨bf, 0, none⟩) n n]) (by simp [results, Tryz.results28, go_sem, y0, y1, y2]) rfl ?_
        have hge := HN2.out
        have kx : Keeps (fun j => j = w.heap.size + 1 + 1) wr (((wr.setCell ⟨w.heap.size + 1 + 1, 0, none⟩ (.slice (some ⟨bc, 0, none⟩) (szS n) (szS n))).setCell ⟨w.heap.size + 1 + 1, 1, none⟩ (.slice ao T.ord.length co)).setCell ⟨w.heap.size + 1 + 1, 2, none⟩ (.slice (some ⟨bf, 0, none⟩) n n)) := ((Keeps.set1 _ _ _ _).trans (Keeps.set1 _ _ _ _)).trans (Keeps.set1 _ _ _ _)
        have hb : Below w.heap.size wr (((wr.setCell ⟨w.heap.size + 1 + 1, 0, none⟩ (.slice (some ⟨bc, 0, none⟩) (szS n) (szS n))).setCell ⟨w.heap.size + 1 + 1, 1, none⟩ (.slice ao T.ord.length co)).setCell ⟨w.heap.size + 1 + 1, 2, none⟩ (.slice (some ⟨bf, 0, none⟩) n n)) := kx.below (Below.refl _ _) H5.out.size fun j e => by omega
        have h1 := H1.out
        rw [← HRE.out] at h1
        refine ⟨_, s', T, rfl, ⟨bc, bf, bs + 2, _, rfl, H2.out.trip.came.kept kx (by omega), H2.out.trip.ord.kept kx fun j e q => ?_, H2.out.trip.frm.kept kx (by omega), by omega, by omega, by omega, by omega⟩, HST.out, h1, HM.out.keep _ _ _ H2.out.j hb, H5.out.next kx fun j hj e => by omega⟩
        have := (H2.out.trip.ord.lt j e).1
        omega

end Go.Proofs.YtggiaopdgijgnaaGreatDoor
