/- Package plan: what Alloc leaves. Conditions: as few regions as 1000; texts as short as any can be. -/
import Derived.Test.YtpgjdbnhbkggpaaPlaG
import Derived.Test.YtpgjdbnhbkggpaaPlaI
import Derived.Test.YtpgjdbnhbkggpaaLabI
import Derived.Test.YtpgjdbnhbkggpaaRgS
import Derived.Deep.RegionHeld3
namespace Go.Proofs.Ytpgjdbnhbkggpaa
open Go.RowKit Go.IntWalk

theorem NsOk.found {rs : Rgs} {ns : List Int} {s : ByteArray} (h : NsOk rs ns) {q : Nat} (hf : ∀ i, i < q → cmpB (nmA rs (el ns i)) s < 0) (hb : ∀ i, q ≤ i → i < ns.length → 0 ≤ cmpB (nmA rs (el ns i)) s) :
    (decide (q < ns.length) && decide (cmpB (nmA rs (el ns q)) s = 0)) = fB rs s := by
  by_cases h1 : q < ns.length ∧ cmpB (nmA rs (el ns q)) s = 0
  · rw [decide_eq_true h1.1, decide_eq_true h1.2, (h.hit h1.1 h1.2).1]; rfl
  · rw [(h.miss hf hb fun a b => h1 ⟨a, b⟩).2.1]
    cases z : (decide (q < ns.length) && decide (cmpB (nmA rs (el ns q)) s = 0))
    · rfl
    · simp only [Bool.and_eq_true, decide_eq_true_eq] at z
      exact absurd z h1
section
variable {B t : Nat} {w : World} {size : Int} {rs : Rgs} {F : Nat → Prop} {ns : List Int} {v1 v2 : Value}
/-- What the search of a name answers: where it stands, is it there? -/
def SkTo (rs : Rgs) (ns : List Int) (s : ByteArray) (w : World) (e : Ending) (w' : World) : Prop :=
  ∃ q : Nat, q ≤ ns.length ∧ (∀ i, i < q → cmpB (nmA rs (el ns i)) s < 0) ∧ (∀ i, q ≤ i → i < ns.length → 0 ≤ cmpB (nmA rs (el ns i)) s) ∧ e = .returned (.tuple #[.int .i64 q, .bool (fB rs s)]) ∧ Below w.heap.size w w'
theorem plaSeekB_is (h : PlaIn B w t size rs F ns v1 v2) (s : ByteArray) (hn : rs.length ≤ 2048) : Calls Try.prog 22 #[.pointer (some ⟨t, 0, none⟩), .string s] w (SkTo rs ns s w) := by
  refine (plaSeekName_is h s hn).mono ?_
  rintro e w' ⟨q, h1, h2, h3, rfl, h5⟩
  exact ⟨q, h1, h2, h3, by rw [h.idx.found h2 h3], h5⟩
/-- What Alloc leaves. -/
def PlaTo (B t : Nat) (size v k : Int) (rs : Rgs) (F : Nat → Prop) (w : World) (e : Ending) (w' : World) : Prop := ∃ F', e = .returned (.tuple #[.int .i64 v, .int .i64 k]) ∧ PlaAt B w' t size rs F' ∧ Grows F w F' w'
theorem plaAlloc_nobody {p : Value} (h : MadeP p w false) (s : ByteArray) (m : Int) (k : Bool) : Calls Try.prog 7 #[p, .string s, .int .i64 m, .bool k] w fun e w' => e = .returned (.tuple #[.int .i64 0, .int .i64 1]) ∧ w = w' := by
  have C := Lib.hid h
  clear h
  go_enter Try.func7, Try.ntmps7
  go_wp2_with (go_at_call 20; ((with_reducible refine (C.out.now).mono ?_); rintro e w1 ⟨rfl, rfl⟩))
  go_ret2
  exact ⟨rfl, rfl⟩
set_option maxRecDepth 100000 in
set_option maxHeartbeats 4000000 in
theorem plaAlloc_no (h : PlaAt B w t size rs F) (s : ByteArray) (m : Int) (k : Bool) (hs : s.size ≤ maxLen) (hn : rs.length ≤ 1000) (hz : allE size rs s m ≠ 0) :
    Calls Try.prog 7 #[.pointer (some ⟨t, 0, none⟩), .string s, .int .i64 m, .bool k] w (PlaTo B t size (allV size rs s m) (allE size rs s m) (allS size rs s m k) F w) := by
  have H := Lib.hid h
  obtain ⟨ns, v1, v2, h⟩ := h
  have HI := Lib.hid h
  have HMD := Lib.hid h.made
  have HIS := Lib.hid fun w => labIs_is s w hs
  have HSK := Lib.hid (plaSeekB_is h s (by omega))
  obtain ⟨n, hnl⟩ : ∃ n, rs.length = n := ⟨_, rfl⟩
  have HNL := Lib.hid hnl
  have HU := Lib.hid (fun W (q : Below w.heap.size w W) => by
    obtain ⟨a, c, e, r, hH⟩ := (h.keep q).held hnl
    exact plaUsed_is hH h.sid)
  have hfit := h.sid.fits
  have hbig := h.sid.big
  have hu0 := (h.sid.upto (Nat.le_refl _))
  rw [List.take_length] at hu0
  have c0 : w.cell? ⟨t, 0, none⟩ = some (.int .i64 size) := h.blk.cell 0
  have C0 := Lib.hid fun W (q : Below w.heap.size w W) => (q.cell (p := ⟨t, 0, none⟩) (cell_lt c0)).trans c0
  clear h hs hnl c0
  obtain ⟨u, hue⟩ : ∃ u, usedR rs = u := ⟨_, rfl⟩
  rcases all_ways size rs s m with q | ⟨q, q2 | ⟨q2, q3 | ⟨q3, q4 | q4⟩⟩⟩
  · obtain ⟨e1, e2, e3⟩ := all_name (size := size) (rs := rs) (n := m) (k := k) q
    rw [e1, e2, e3]
    have Q := Lib.hid q
    clear e1 e2 e3 q hz hue
    go_enter Try.func7, Try.ntmps7
    go_wp2_with (first
      | (go_at_call 20; ((with_reducible refine (HMD.out.now).mono ?_); rintro e w1 ⟨rfl, rfl⟩))
      | (go_at_call 21; ((with_reducible refine (HIS.out _).mono ?_); rintro e w1 ⟨rfl, rfl⟩); have hb := Q.out))
    go_ret2
    exact ⟨F, rfl, H.out, Grows.refl _ _⟩
  · obtain ⟨e1, e2, e3⟩ := all_twice (size := size) (rs := rs) (n := m) (k := k) q q2
    rw [e1, e2, e3]
    have Q := Lib.hid q
    have Q2 := Lib.hid q2
    rw [hue] at HU hu0 hfit
    clear e1 e2 e3 q q2 hz hue
    go_enter Try.func7, Try.ntmps7
    go_wp2_with (first
      | (go_at_call 20; ((with_reducible refine (HMD.out.now).mono ?_); rintro e w1 ⟨rfl, rfl⟩))
      | (go_at_call 21; ((with_reducible refine (HIS.out _).mono ?_); rintro e w1 ⟨rfl, rfl⟩); have hb := Q.out)
      | (go_at_call 22; ((with_reducible refine (HSK.out).mono ?_); rintro e w2 ⟨j, -, -, -, rfl, hb2⟩); have hb := Q2.out; have HB2 := Lib.hid hb2; clear hb2)
      | (go_at_call 13; ((with_reducible refine (HU.out _ HB2.out).mono ?_); rintro e w3 ⟨rfl, hb3⟩); have HB3 := Lib.hid (HB2.out.trans (hb3.mono HB2.out.size)); clear hb3))
    go_ret2
    exact ⟨F, rfl, H.out.keep HB3.out, Grows.of_below F HB3.out⟩
  · obtain ⟨e1, e2, e3⟩ := all_arg (size := size) (k := k) q q2 q3
    rw [e1, e2, e3]
    have Q := Lib.hid q
    have Q2 := Lib.hid q2
    rw [hue] at HU hu0 hfit
    clear e1 e2 e3 q q2 hz hue
    go_enter Try.func7, Try.ntmps7
    go_wp2_with (first
      | (go_at_call 20; ((with_reducible refine (HMD.out.now).mono ?_); rintro e w1 ⟨rfl, rfl⟩))
      | (go_at_call 21; ((with_reducible refine (HIS.out _).mono ?_); rintro e w1 ⟨rfl, rfl⟩); have hb := Q.out)
      | (go_at_call 22; ((with_reducible refine (HSK.out).mono ?_); rintro e w2 ⟨j, -, -, -, rfl, hb2⟩); have hb := Q2.out; have HB2 := Lib.hid hb2; clear hb2)
      | (go_at_call 13; ((with_reducible refine (HU.out _ HB2.out).mono ?_); rintro e w3 ⟨rfl, hb3⟩); have HB3 := Lib.hid (HB2.out.trans (hb3.mono HB2.out.size)); clear hb3))
    go_ret2
    exact ⟨F, rfl, H.out.keep HB3.out, Grows.of_below F HB3.out⟩
  · obtain ⟨e1, e2, e3⟩ := all_full (k := k) q q2 q3 q4
    rw [e1, e2, e3]
    have Q := Lib.hid q
    have Q2 := Lib.hid q2
    rw [hue] at HU hu0 hfit q4
    clear e1 e2 e3 q q2 hz hue
    go_enter Try.func7, Try.ntmps7
    go_wp2_with (first
      | (go_at_call 20; ((with_reducible refine (HMD.out.now).mono ?_); rintro e w1 ⟨rfl, rfl⟩))
      | (go_at_call 21; ((with_reducible refine (HIS.out _).mono ?_); rintro e w1 ⟨rfl, rfl⟩); have hb := Q.out)
      | (go_at_call 22; ((with_reducible refine (HSK.out).mono ?_); rintro e w2 ⟨j, -, -, -, rfl, hb2⟩); have hb := Q2.out; have HB2 := Lib.hid hb2; clear hb2)
      | (go_at_call 13; ((with_reducible refine (HU.out _ HB2.out).mono ?_); rintro e w3 ⟨rfl, hb3⟩); have HB3 := Lib.hid (HB2.out.trans (hb3.mono HB2.out.size)); have c0 := C0.out _ HB3.out; clear hb3))
    go_ret2
    exact ⟨F, rfl, H.out.keep HB3.out, Grows.of_below F HB3.out⟩
  · exact absurd (all_yes (k := k) q q2 q3 q4).1 hz
theorem op_append_el1 {α : Type} [Inhabited α] {K : Kd α} {P : Program} {w : World} {o : Oper} {a : Act} {K' : Act → World → Prop} {Q : Exit → Act → World → Prop} (hg : o.guard = none) (s x : Operand) (t : TypeId)
    (ho : o.op = .call { callee := .builtin .append, args := #[s, x], argTypes := #[t, t] })
    (base : Nat) (e : TypeId) (i : TypeInfo) (z : Value) (ht : P.underlying t = some (.slice e)) (hi : P.info? e = some i) (hz : i.zero = some z)
    (hsize : i.size = K.k) (hby : i.bytes ≤ 1000) (hzs : z.cells.size = K.k) {v : Value} {l : List α} (hs : a.eval s = v) (hown : OwnEl K w base e v l) {p : Option Addr} {c : Nat} {y : α} (hx : a.eval x = .slice p 1 c) (hk : ElAt K w p 1 c [y])
    (hlen : l.length + 1 ≤ 1048576) (hbase : base ≤ w.heap.size)
    (h : ∀ v' w', OwnEl K w' base e v' (l ++ [y]) → w.grownBy w' v.ownBlock → Nexts w v v' → K' (a.put o.dst v') w') : Oper.wp P o a w K' Q := by
  have hgd : Region.wanted o (yielded #[] a.tmps) = true := by simp [Region.wanted, hg]
  have := step_append_el1 (E := True) (Q := Q) (ops := #[]) hgd s x t ho base e i z ht hi hz hsize hby hzs hs hown hx hk hlen hbase h
  rwa [if_pos hgd] at this
section
variable {B t : Nat} {w w' : World} {size : Int} {rs rs' : Rgs} {F : Nat → Prop} {ns ns' : List Int} {v1 v2 v' : Value}
/-- A plan while a region is laid into it. -/
structure PlaMid (B : Nat) (w : World) (t : Nat) (size : Int) (rs : Rgs) (F : Nat → Prop) (ns : List Int) (v1 v2 : Value) : Prop where
  blk : BlkAt t 52 #[.int .i64 size, v1, v2, .pointer (some ⟨t, 0, none⟩)] w
  reg : OwnEl rgK w B 37 v1 rs
  nam : OwnEl (numK .i64) w B 3 v2 ns
  ft : F t
  f1 : ∀ j, v1.ownBlock = some j → F j
  f2 : ∀ j, v2.ownBlock = some j → F j
  low : ∀ j, F j → B ≤ j ∧ j < w.heap.size
theorem PlaIn.mid (h : PlaIn B w t size rs F ns v1 v2) : PlaMid B w t size rs F ns v1 v2 := ⟨h.blk, h.reg, h.nam, h.ft, h.f1, h.f2, h.low⟩
theorem PlaMid.keep (h : PlaMid B w t size rs F ns v1 v2) (k : Below w.heap.size w w') : PlaMid B w' t size rs F ns v1 v2 :=
  ⟨h.blk.keep k, h.reg.keep k, h.nam.keep k, h.ft, h.f1, h.f2, fun j q => ⟨(h.low j q).1, Nat.lt_of_lt_of_le (h.low j q).2 k.size⟩⟩
theorem PlaMid.ins (h : PlaMid B w t size rs F ns v1 v2) (hB : B ≤ w.heap.size) (o : OwnEl (numK .i64) w' B 3 v' ns') (hg : w.grownBy w' v2.ownBlock) (hx : Nexts w v2 v') :
    PlaMid B (w'.setCell ⟨t, 2, none⟩ v') t size rs (Wide F w (w'.setCell ⟨t, 2, none⟩ v')) ns' v1 v' ∧ Grows F w (Wide F w (w'.setCell ⟨t, 2, none⟩ v')) (w'.setCell ⟨t, 2, none⟩ v') := by
  have kx : Keeps (fun j => v2.ownBlock = some j) w w' := Keeps.of_grown hg fun _ q => q
  have b1 := h.blk.kept kx (own_off_type h.nam h.blk (by decide))
  have r1 := h.reg.kept kx (own_two h.reg h.nam (by decide))
  have K := (Keeps.of_grown (F := F) hg h.f2).trans (Keeps.set h.ft w' 2 v')
  have ks := Keeps.set1 w' t 2 v'
  refine ⟨⟨(b1.set 2 v').eq rfl, r1.kept ks fun j q e => own_off_type r1 b1 (by decide) (e ▸ q), o.kept ks fun j q e => own_off_type o b1 (by decide) (e ▸ q), .inl h.ft, fun j q => .inl (h.f1 j q), ?_, ?_⟩, Wide.grows K⟩
  · intro j q
    rcases hx j q with r | r
    · exact .inl (h.f2 j r)
    · refine .inr ⟨r, ?_⟩
      have := (o.lt j q).2
      simpa using this
  · rintro j (q | q)
    · exact ⟨(h.low j q).1, Nat.lt_of_lt_of_le (h.low j q).2 K.size⟩
    · exact ⟨by omega, q.2⟩
theorem PlaMid.app (h : PlaMid B w t size rs F ns v1 v2) (hB : B ≤ w.heap.size) (o : OwnEl rgK w' B 37 v' rs') (hg : w.grownBy w' v1.ownBlock) (hx : Nexts w v1 v') :
    PlaMid B (w'.setCell ⟨t, 1, none⟩ v') t size rs' (Wide F w (w'.setCell ⟨t, 1, none⟩ v')) ns v' v2 ∧ Grows F w (Wide F w (w'.setCell ⟨t, 1, none⟩ v')) (w'.setCell ⟨t, 1, none⟩ v') := by
  have kx : Keeps (fun j => v1.ownBlock = some j) w w' := Keeps.of_grown hg fun _ q => q
  have b1 := h.blk.kept kx (own_off_type h.reg h.blk (by decide))
  have r1 := h.nam.kept kx (own_two h.nam h.reg (by decide))
  have K := (Keeps.of_grown (F := F) hg h.f1).trans (Keeps.set h.ft w' 1 v')
  have ks := Keeps.set1 w' t 1 v'
  refine ⟨⟨(b1.set 1 v').eq rfl, o.kept ks fun j q e => own_off_type o b1 (by decide) (e ▸ q), r1.kept ks fun j q e => own_off_type r1 b1 (by decide) (e ▸ q), .inl h.ft, ?_, fun j q => .inl (h.f2 j q), ?_⟩, Wide.grows K⟩
  · intro j q
    rcases hx j q with r | r
    · exact .inl (h.f1 j r)
    · refine .inr ⟨r, ?_⟩
      have := (o.lt j q).2
      simpa using this
  · rintro j (q | q)
    · exact ⟨(h.low j q).1, Nat.lt_of_lt_of_le (h.low j q).2 K.size⟩
    · exact ⟨by omega, q.2⟩
theorem plaAlloc_end {w3 w6 W4 W8 w9 : World} {F6 F9 : Nat → Prop} {n j : Nat} {s : ByteArray} {u m : Int} {k : Bool} {vi va : Value} (h : PlaIn B w t size rs F ns v1 v2) (hb3 : Below w.heap.size w w3) (hg4 : Grows F W4 F6 w6) (hW4 : Below w3.heap.size w3 W4)
    (hb8 : Below w6.heap.size w6 W8) (h9 : PlaMid B w9 t size (rs ++ [(s, u, m, k)]) F9 (ns.take j ++ (n : Int) :: ns.drop j) va vi) (hg9 : Grows F6 W8 F9 w9) (hS : Sides size (rs ++ [(s, u, m, k)])) (hj : j ≤ ns.length)
    (h1 : ∀ i, i < j → cmpB (nmA rs (el ns i)) s < 0) (h2 : ∀ i, j ≤ i → i < ns.length → 0 ≤ cmpB (nmA rs (el ns i)) s) (hf : fB rs s = false) (hn : rs.length = n) :
    PlaTo B t size u 0 (rs ++ [(s, u, m, k)]) F w (.returned (.tuple #[.int .i64 u, .int .i64 0])) w9 := by
  subst hn
  have hno : j < ns.length → cmpB (nmA rs (el ns j)) s ≠ 0 := fun hl e => by
    have := (h.idx.hit hl e).1
    rw [hf] at this; cases this
  refine ⟨F9, rfl, ⟨_, va, vi, h9.blk, h9.reg, h9.nam, h.idx.ins hj rfl h1 h2 hno, hS, h9.ft, h9.f1, h9.f2, h9.low⟩, ?_⟩
  exact (((Grows.of_below F hb3).trans (Grows.of_below F hW4)).trans hg4).trans ((Grows.of_below F6 hb8).trans hg9)
set_option maxRecDepth 100000 in
set_option maxHeartbeats 4000000 in
theorem plaAlloc_yes (h : PlaAt B w t size rs F) (s : ByteArray) (m : Int) (k : Bool) (hs : s.size ≤ maxLen) (hn : rs.length ≤ 1000) (hB : B ≤ w.heap.size) (q : nameB s = true) (q2 : fB rs s = false) (q3 : 1 ≤ m) (q4 : m ≤ size - usedR rs) :
    Calls Try.prog 7 #[.pointer (some ⟨t, 0, none⟩), .string s, .int .i64 m, .bool k] w (PlaTo B t size (usedR rs) 0 (rs ++ [(s, usedR rs, m, k)]) F w) := by
  obtain ⟨ns, v1, v2, h⟩ := h
  obtain ⟨n, hnl⟩ : ∃ n, rs.length = n := ⟨_, rfl⟩
  obtain ⟨i0, hi, hz0, hz1, hz2⟩ := info_el infoRgP
  have HI := Lib.hid h
  have HSD := Lib.hid (h.sid.snoc (s := s) (k := k) q3 q4)
  have HMD := Lib.hid h.made
  have HIS := Lib.hid fun w => labIs_is s w hs
  have HSK := Lib.hid (plaSeekB_is h s (by omega))
  have HNL := Lib.hid hnl
  have HU := Lib.hid (fun W (q : Below w.heap.size w W) => by
    obtain ⟨a, c, e, r, hH⟩ := (h.keep q).held hnl
    exact plaUsed_is hH h.sid)
  have hsz := name_size q
  have HCL := Lib.hid fun w => strClone_is s w (by omega)
  have hfit := h.sid.fits
  have hbig := h.sid.big
  have hu0 := (h.sid.upto (Nat.le_refl _))
  rw [List.take_length] at hu0
  have hnl2 := h.idx.len
  have c0 : w.cell? ⟨t, 0, none⟩ = some (.int .i64 size) := h.blk.cell 0
  have C0 := Lib.hid fun W (q : Below w.heap.size w W) => (q.cell (p := ⟨t, 0, none⟩) (cell_lt c0)).trans c0
  obtain ⟨u, hue⟩ : ∃ u, usedR rs = u := ⟨_, rfl⟩
  have Q := Lib.hid q
  have Q2 := Lib.hid q2
  rw [hue] at HU hu0 hfit q4 HSD
  rw [hue]
  clear h hs c0 q q2 hue hsz
  rw [hnl] at hn hnl2
  go_enter Try.func7, Try.ntmps7
  go_upto_region 13 with (first
    | (go_at_call 20; ((with_reducible refine (HMD.out.now).mono ?_); rintro e w1 ⟨rfl, rfl⟩))
    | (go_at_call 21; ((with_reducible refine (HIS.out _).mono ?_); rintro e w1 ⟨rfl, rfl⟩); have hb := Q.out)
    | (go_at_call 22; ((with_reducible refine (HSK.out).mono ?_); rintro e w2 ⟨j, hj1, hj2, hj3, rfl, hb2⟩); have HJ1 := Lib.hid hj1; have HJ2 := Lib.hid hj2; have HJ3 := Lib.hid hj3; clear hj1 hj2 hj3; have hb := Q2.out; have HB2 := Lib.hid hb2; clear hb2)
    | (go_at_call 13; ((with_reducible refine (HU.out _ HB2.out).mono ?_); rintro e w3 ⟨rfl, hb3⟩); have HB3 := Lib.hid (HB2.out.trans (hb3.mono HB2.out.size)); have c0 := C0.out _ HB3.out; clear hb3))
  have HM3 := Lib.hid ((HI.out.keep HB3.out).mid.keep (Below.refl w3.heap.size w3).drew)
  have hs3 := HB3.out.size
  obtain ⟨a, c, ev, -⟩ := (HI.out.keep HB3.out).held hnl
  obtain ⟨a2, c2, ev2, -⟩ := HM3.out.nam.at
  rw [hnl2] at ev2
  subst ev ev2
  have HM4 := Lib.hid (((HI.out.keep HB3.out).mid.keep ((Below.refl _ _).alloc (Nat.le_refl _) (.cells #[.int .i64 n] 3))).keep (Below.refl _ _).drew)
  have e1 : w3.drew.cell? ⟨t, 1, none⟩ = some (.slice a n c) := HM3.out.blk.cell 1
  have e2 : w3.drew.cell? ⟨t, 2, none⟩ = some (.slice a2 n c2) := HM3.out.blk.cell 2
  have e3 : (w3.alloc (.cells #[.int .i64 n] 3)).drew.cell? ⟨t, 1, none⟩ = some (.slice a n c) := HM4.out.blk.cell 1
  have e4 : (w3.alloc (.cells #[.int .i64 n] 3)).drew.cell? ⟨t, 2, none⟩ = some (.slice a2 n c2) := HM4.out.blk.cell 2
  have HVB := Lib.hid ((BlkAt.new w3 3 #[.int .i64 n]).keep (Below.refl _ _).drew)
  have HINS := Lib.hid (plaInsert_is (vb := w3.heap.size) (p := j) (x := n) HM4.out.nam HVB.out (fun e => by have := (HM3.out.nam.lt _ e).2; simp at this) HJ1.out (by omega) (by simp; omega))
  have HGI := Lib.hid (fun v' w' o hg hx => HM4.out.ins (ns' := ns.take j ++ (n : Int) :: ns.drop j) (v' := v') (w' := w') (by simp; omega) o hg hx)
  refine wp_region_held_drew (S := fun W => W.cell? ⟨t, 1, none⟩ = some (.slice a n c)) (by kernel_rfl) ?_ (fun hH0 => ?_)
  · (try dsimp only); exact e1
  (refine any_take (v := ?_) 0 rfl (by kernel_rfl) (by kernel_rfl) (by kernel_rfl) (fun _ _ _ h => h) (by rfl) ?_ (by assumption) ?_; rotate_left; (intro w hSw; (try dsimp only at hSw); go_simp; try with_reducible rfl); try simp only [Act.put, List.setIfInBounds_toArray, List.set_cons_zero, List.set_cons_succ])
  (refine any_take (v := ?_) 1 rfl (by kernel_rfl) (by kernel_rfl) (by kernel_rfl) (fun _ _ _ h => h) (by rfl) ?_ (by assumption) ?_; rotate_left; (intro w hSw; (try dsimp only at hSw); go_simp; try with_reducible rfl); try simp only [Act.put, List.setIfInBounds_toArray, List.set_cons_zero, List.set_cons_succ])
  (refine any_take (v := ?_) 2 rfl (by kernel_rfl) (by kernel_rfl) (by kernel_rfl) (fun _ _ _ h => h) (by rfl) ?_ (by assumption) ?_; rotate_left; (intro w hSw; (try dsimp only at hSw); go_simp; try with_reducible rfl); try simp only [Act.put, List.setIfInBounds_toArray, List.set_cons_zero, List.set_cons_succ])
  (refine any_take (v := ?_) 3 rfl (by kernel_rfl) (by kernel_rfl) (by kernel_rfl) (fun _ _ _ h => h) (by rfl) ?_ (by assumption) ?_; rotate_left; (intro w hSw; (try dsimp only at hSw); go_simp; try with_reducible rfl); try simp only [Act.put, List.setIfInBounds_toArray, List.set_cons_zero, List.set_cons_succ])
  (refine any_take (v := ?_) 5 rfl (by kernel_rfl) (by kernel_rfl) (by kernel_rfl) (fun _ _ _ h => h) (by rfl) ?_ (by assumption) ?_; rotate_left; (intro w hSw; (try dsimp only at hSw); go_simp; try with_reducible rfl); try simp only [Act.put, List.setIfInBounds_toArray, List.set_cons_zero, List.set_cons_succ])
  (refine any_take (v := ?_) 6 rfl (by kernel_rfl) (by kernel_rfl) (by kernel_rfl) (fun _ _ _ h => h) (by rfl) ?_ (by assumption) ?_; rotate_left; (intro w hSw; (try dsimp only at hSw); go_simp; try with_reducible rfl); try simp only [Act.put, List.setIfInBounds_toArray, List.set_cons_zero, List.set_cons_succ])
  (refine any_take (v := ?_) 7 rfl (by kernel_rfl) (by kernel_rfl) (by kernel_rfl) (fun _ _ _ h => h) (by rfl) ?_ (by assumption) ?_; rotate_left; (intro w hSw; (try dsimp only at hSw); go_simp; try with_reducible rfl); try simp only [Act.put, List.setIfInBounds_toArray, List.set_cons_zero, List.set_cons_succ])
  (refine any_take (v := ?_) 8 rfl (by kernel_rfl) (by kernel_rfl) (by kernel_rfl) (fun _ _ _ h => h) (by rfl) ?_ (by assumption) ?_; rotate_left; (intro w hSw; (try dsimp only at hSw); go_simp; try with_reducible rfl); try simp only [Act.put, List.setIfInBounds_toArray, List.set_cons_zero, List.set_cons_succ])
  (refine any_take (v := ?_) 9 rfl (by kernel_rfl) (by kernel_rfl) (by kernel_rfl) (fun _ _ _ h => h) (by rfl) ?_ (by assumption) ?_; rotate_left; (intro w hSw; (try dsimp only at hSw); go_simp; try with_reducible rfl); try simp only [Act.put, List.setIfInBounds_toArray, List.set_cons_zero, List.set_cons_succ])
  (refine any_take (v := ?_) 10 rfl (by kernel_rfl) (by kernel_rfl) (by kernel_rfl) (fun _ _ _ h => h) (by rfl) ?_ (by assumption) ?_; rotate_left; (intro w hSw; (try dsimp only at hSw); go_simp; try with_reducible rfl); try simp only [Act.put, List.setIfInBounds_toArray, List.set_cons_zero, List.set_cons_succ])
  refine any_two 4 11 (by kernel_rfl) rfl rfl (by rfl) (by rfl) (fun K hK => ?_) (fun K hK => ?_)
  go_simp
  first | refine hK.out _ _ ?_ (fun hH1 => ?_) | (go_wp2_with fail; refine hK.out _ _ ?_ (fun hH1 => ?_))
  · (try dsimp only); first | with_reducible assumption | assumption
  clear hK K hH0
  try simp only [Act.put, List.setIfInBounds_toArray, List.set_cons_zero, List.set_cons_succ]
  refine any_one 11 (by kernel_rfl) rfl (by rfl) (fun K hK => ?_)
  go_simp
  first | refine hK.out _ _ ?_ (fun hH2 => ?_) | (go_wp2_with fail; refine hK.out _ _ ?_ (fun hH2 => ?_))
  · (try dsimp only); first | with_reducible assumption | assumption
  clear hK K hH1
  try simp only [Act.put, List.setIfInBounds_toArray, List.set_cons_zero, List.set_cons_succ]
  rotate_left
  go_simp
  first | refine hK.out _ _ ?_ (fun hH1 => ?_) | (go_wp2_with fail; refine hK.out _ _ ?_ (fun hH1 => ?_))
  · (try dsimp only); first | with_reducible assumption | assumption
  clear hK K hH0
  try simp only [Act.put, List.setIfInBounds_toArray, List.set_cons_zero, List.set_cons_succ]
  refine any_one 4 (by kernel_rfl) rfl (by rfl) (fun K hK => ?_)
  go_simp
  first | refine hK.out _ _ ?_ (fun hH2 => ?_) | (go_wp2_with fail; refine hK.out _ _ ?_ (fun hH2 => ?_))
  · (try dsimp only); first | with_reducible assumption | assumption
  clear hK K hH1
  try simp only [Act.put, List.setIfInBounds_toArray, List.set_cons_zero, List.set_cons_succ]
  rotate_left
  all_goals
    refine any_one 12 (by kernel_rfl) rfl (by rfl) (fun K hK => ?_)
    go_simp
    (go_at_call 23; ((with_reducible refine (HINS.out).mono ?_); rintro e w5 ⟨v5, rfl, ho5, hg5, hx5⟩); obtain ⟨a5, n5, c5, rfl⟩ := OwnEl.shape ho5; have hbk5 : BlkAt t 52 #[.int .i64 size, .slice a n c, .slice a2 n c2, .pointer (some ⟨t, 0, none⟩)] w5 := HM4.out.blk.kept (Keeps.of_grown (F := fun j => (Value.slice a2 n c2).ownBlock = some j) hg5 fun _ q => q) (own_off_type HM4.out.nam HM4.out.blk (by decide)); have e5 : w5.cell? ⟨t, 1, none⟩ = some (.slice a n c) := hbk5.cell 1; have e6 : w5.cell? ⟨t, 2, none⟩ = some (.slice a2 n c2) := hbk5.cell 2; have e7 := hbk5.free 2; have HG5 := Lib.hid (HGI.out _ _ ho5 hg5 hx5); have e8 : (w5.setCell ⟨t, 2, none⟩ (.slice a5 n5 c5)).cell? ⟨t, 1, none⟩ = some (.slice a n c) := HG5.out.1.blk.cell 1; clear ho5 hg5 hx5 hbk5)
    first | refine hK.out _ _ ?_ (fun hH3 => ?_) | (go_wp2_with fail; refine hK.out _ _ ?_ (fun hH3 => ?_))
    · (try dsimp only); first | with_reducible assumption | assumption
    clear hK K hH2
    try simp only [Act.put, List.setIfInBounds_toArray, List.set_cons_zero, List.set_cons_succ]
    (refine any_take (v := ?_) 13 rfl (by kernel_rfl) (by kernel_rfl) (by kernel_rfl) (fun _ _ _ h => h) (by rfl) ?_ (by assumption) ?_; rotate_left; (intro w hSw; (try dsimp only at hSw); go_simp; try with_reducible rfl); try simp only [Act.put, List.setIfInBounds_toArray, List.set_cons_zero, List.set_cons_succ])
    (refine any_take (v := ?_) 14 rfl (by kernel_rfl) (by kernel_rfl) (by kernel_rfl) (fun _ _ _ h => h) (by rfl) ?_ (by assumption) ?_; rotate_left; (intro w hSw; (try dsimp only at hSw); go_simp; try with_reducible rfl); try simp only [Act.put, List.setIfInBounds_toArray, List.set_cons_zero, List.set_cons_succ])
    refine any_one 15 (by kernel_rfl) rfl (by rfl) (fun K hK => ?_)
    go_simp
    first | refine hK.out _ _ ?_ (fun hH4 => ?_) | (go_wp2_with fail; refine hK.out _ _ ?_ (fun hH4 => ?_))
    · (try dsimp only); first | with_reducible assumption | assumption
    clear hK K hH3
    try simp only [Act.put, List.setIfInBounds_toArray, List.set_cons_zero, List.set_cons_succ]
    refine wpAnyH_done (by kernel_rfl) ?_ _
    obtain ⟨w6, hw6⟩ : ∃ W, w5.setCell ⟨t, 2, none⟩ (.slice a5 n5 c5) = W := ⟨_, rfl⟩
    have hs5 := HG5.out.2.keeps.size
    rw [hw6] at HG5 hs5 ⊢
    obtain ⟨F6, hF6⟩ : ∃ G, Wide F ((w3.alloc (.cells #[.int .i64 n] 3)).drew) w6 = G := ⟨_, rfl⟩
    rw [hF6] at HG5
    clear hw6 hF6 e1 e2 e3 e4 e5 e6 e7 e8 hH4 c0 hb
    have hs6 : B ≤ w6.heap.size := by simp at hs5; omega
    clear hs5
    have HM6 := Lib.hid HG5.out.1
    have f1 : w6.drew.cell? ⟨t, 1, none⟩ = some (.slice a n c) := (HM6.out.keep (Below.refl _ _).drew).blk.cell 1
    have f0 : w6.cell? ⟨t, 1, none⟩ = some (.slice a n c) := HM6.out.blk.cell 1
    go_upto_region 14 with (fail)
    refine wp_region_held_drew (S := fun _ => True) (by kernel_rfl) trivial (fun hH0 => ?_)
    (refine any_take (v := ?_) 0 rfl (by kernel_rfl) (by kernel_rfl) (by kernel_rfl) (fun _ _ _ h => h) (by rfl) ?_ (by assumption) ?_; rotate_left; (intro w hSw; (try dsimp only at hSw); go_simp; try with_reducible rfl); try simp only [Act.put, List.setIfInBounds_toArray, List.set_cons_zero, List.set_cons_succ])
    (refine any_take (v := ?_) 1 rfl (by kernel_rfl) (by kernel_rfl) (by kernel_rfl) (fun _ _ _ h => h) (by rfl) ?_ (by assumption) ?_; rotate_left; (intro w hSw; (try dsimp only at hSw); go_simp; try with_reducible rfl); try simp only [Act.put, List.setIfInBounds_toArray, List.set_cons_zero, List.set_cons_succ])
    (refine any_take (v := ?_) 2 rfl (by kernel_rfl) (by kernel_rfl) (by kernel_rfl) (fun _ _ _ h => h) (by rfl) ?_ (by assumption) ?_; rotate_left; (intro w hSw; (try dsimp only at hSw); go_simp; try with_reducible rfl); try simp only [Act.put, List.setIfInBounds_toArray, List.set_cons_zero, List.set_cons_succ])
    (refine any_take (v := ?_) 3 rfl (by kernel_rfl) (by kernel_rfl) (by kernel_rfl) (fun _ _ _ h => h) (by rfl) ?_ (by assumption) ?_; rotate_left; (intro w hSw; (try dsimp only at hSw); go_simp; try with_reducible rfl); try simp only [Act.put, List.setIfInBounds_toArray, List.set_cons_zero, List.set_cons_succ])
    (refine any_take (v := ?_) 5 rfl (by kernel_rfl) (by kernel_rfl) (by kernel_rfl) (fun _ _ _ h => h) (by rfl) ?_ (by assumption) ?_; rotate_left; (intro w hSw; (try dsimp only at hSw); go_simp; try with_reducible rfl); try simp only [Act.put, List.setIfInBounds_toArray, List.set_cons_zero, List.set_cons_succ])
    (refine any_take (v := ?_) 7 rfl (by kernel_rfl) (by kernel_rfl) (by kernel_rfl) (fun _ _ _ h => h) (by rfl) ?_ (by assumption) ?_; rotate_left; (intro w hSw; (try dsimp only at hSw); go_simp; try with_reducible rfl); try simp only [Act.put, List.setIfInBounds_toArray, List.set_cons_zero, List.set_cons_succ])
    (refine any_take (v := ?_) 8 rfl (by kernel_rfl) (by kernel_rfl) (by kernel_rfl) (fun _ _ _ h => h) (by rfl) ?_ (by assumption) ?_; rotate_left; (intro w hSw; (try dsimp only at hSw); go_simp; try with_reducible rfl); try simp only [Act.put, List.setIfInBounds_toArray, List.set_cons_zero, List.set_cons_succ])
    (refine any_take (v := ?_) 9 rfl (by kernel_rfl) (by kernel_rfl) (by kernel_rfl) (fun _ _ _ h => h) (by rfl) ?_ (by assumption) ?_; rotate_left; (intro w hSw; (try dsimp only at hSw); go_simp; try with_reducible rfl); try simp only [Act.put, List.setIfInBounds_toArray, List.set_cons_zero, List.set_cons_succ])
    refine any_two 4 6 (by kernel_rfl) rfl rfl (by rfl) (by rfl) (fun K hK => ?_) (fun K hK => ?_)
    go_simp
    first | refine hK.out _ _ ?_ (fun hH1 => ?_) | (go_wp2_with fail; refine hK.out _ _ ?_ (fun hH1 => ?_))
    · exact trivial
    clear hK K hH0
    try simp only [Act.put, List.setIfInBounds_toArray, List.set_cons_zero, List.set_cons_succ]
    refine any_one 6 (by kernel_rfl) rfl (by rfl) (fun K hK => ?_)
    go_simp
    (go_at_call 24; ((with_reducible refine (HCL.out _).mono ?_); rintro e w7 ⟨rfl, hb7⟩); have HM7 := Lib.hid ((HM6.out.keep (Below.refl _ _).drew).keep hb7); have HB7 := Lib.hid ((Below.refl w6.heap.size w6).drew.trans hb7); have g1 : w7.cell? ⟨t, 1, none⟩ = some (.slice a n c) := HM7.out.blk.cell 1; have g2 : (w7.alloc (.cells #[.string s, .int .i64 u, .int .i64 m, .bool k] 37)).cell? ⟨t, 1, none⟩ = some (.slice a n c) := (HM7.out.keep ((Below.refl _ _).alloc (Nat.le_refl _) _)).blk.cell 1; have HM8 := Lib.hid (HM7.out.keep ((Below.refl _ _).alloc (Nat.le_refl _) (.cells #[.string s, .int .i64 u, .int .i64 m, .bool k] 37))); have HB8 := Lib.hid (HB7.out.alloc HB7.out.size (.cells #[.string s, .int .i64 u, .int .i64 m, .bool k] 37)); have hs7 := HB7.out.size; clear hb7)
    first | refine hK.out _ _ ?_ (fun hH2 => ?_) | (go_wp2_with fail; refine hK.out _ _ ?_ (fun hH2 => ?_))
    · exact trivial
    clear hK K hH1
    try simp only [Act.put, List.setIfInBounds_toArray, List.set_cons_zero, List.set_cons_succ]
    (refine any_take (v := ?_) 10 rfl (by kernel_rfl) (by kernel_rfl) (by kernel_rfl) (fun _ _ _ h => h) (by rfl) ?_ (by assumption) ?_; rotate_left; (intro w hSw; (try dsimp only at hSw); go_simp; try with_reducible rfl); try simp only [Act.put, List.setIfInBounds_toArray, List.set_cons_zero, List.set_cons_succ])
    refine any_one 11 (by kernel_rfl) rfl (by rfl) (fun K hK => ?_)
    go_simp
    first | refine hK.out _ _ ?_ (fun hH3 => ?_) | (go_wp2_with fail; refine hK.out _ _ ?_ (fun hH3 => ?_))
    · exact trivial
    clear hK K hH2
    try simp only [Act.put, List.setIfInBounds_toArray, List.set_cons_zero, List.set_cons_succ]
    rotate_left
    go_simp
    (go_at_call 24; ((with_reducible refine (HCL.out _).mono ?_); rintro e w7 ⟨rfl, hb7⟩); have HM7 := Lib.hid ((HM6.out.keep (Below.refl _ _).drew).keep hb7); have HB7 := Lib.hid ((Below.refl w6.heap.size w6).drew.trans hb7); have g1 : w7.cell? ⟨t, 1, none⟩ = some (.slice a n c) := HM7.out.blk.cell 1; have g2 : (w7.alloc (.cells #[.string s, .int .i64 u, .int .i64 m, .bool k] 37)).cell? ⟨t, 1, none⟩ = some (.slice a n c) := (HM7.out.keep ((Below.refl _ _).alloc (Nat.le_refl _) _)).blk.cell 1; have HM8 := Lib.hid (HM7.out.keep ((Below.refl _ _).alloc (Nat.le_refl _) (.cells #[.string s, .int .i64 u, .int .i64 m, .bool k] 37))); have HB8 := Lib.hid (HB7.out.alloc HB7.out.size (.cells #[.string s, .int .i64 u, .int .i64 m, .bool k] 37)); have hs7 := HB7.out.size; clear hb7)
    first | refine hK.out _ _ ?_ (fun hH1 => ?_) | (go_wp2_with fail; refine hK.out _ _ ?_ (fun hH1 => ?_))
    · exact trivial
    clear hK K hH0
    try simp only [Act.put, List.setIfInBounds_toArray, List.set_cons_zero, List.set_cons_succ]
    (refine any_take (v := ?_) 10 rfl (by kernel_rfl) (by kernel_rfl) (by kernel_rfl) (fun _ _ _ h => h) (by rfl) ?_ (by assumption) ?_; rotate_left; (intro w hSw; (try dsimp only at hSw); go_simp; try with_reducible rfl); try simp only [Act.put, List.setIfInBounds_toArray, List.set_cons_zero, List.set_cons_succ])
    refine any_two 4 11 (by kernel_rfl) rfl rfl (by rfl) (by rfl) (fun K hK => ?_) (fun K hK => ?_)
    go_simp
    first | refine hK.out _ _ ?_ (fun hH2 => ?_) | (go_wp2_with fail; refine hK.out _ _ ?_ (fun hH2 => ?_))
    · exact trivial
    clear hK K hH1
    try simp only [Act.put, List.setIfInBounds_toArray, List.set_cons_zero, List.set_cons_succ]
    refine any_one 11 (by kernel_rfl) rfl (by rfl) (fun K hK => ?_)
    go_simp
    first | refine hK.out _ _ ?_ (fun hH3 => ?_) | (go_wp2_with fail; refine hK.out _ _ ?_ (fun hH3 => ?_))
    · exact trivial
    clear hK K hH2
    try simp only [Act.put, List.setIfInBounds_toArray, List.set_cons_zero, List.set_cons_succ]
    rotate_left
    go_simp
    first | refine hK.out _ _ ?_ (fun hH2 => ?_) | (go_wp2_with fail; refine hK.out _ _ ?_ (fun hH2 => ?_))
    · exact trivial
    clear hK K hH1
    try simp only [Act.put, List.setIfInBounds_toArray, List.set_cons_zero, List.set_cons_succ]
    refine any_one 4 (by kernel_rfl) rfl (by rfl) (fun K hK => ?_)
    go_simp
    first | refine hK.out _ _ ?_ (fun hH3 => ?_) | (go_wp2_with fail; refine hK.out _ _ ?_ (fun hH3 => ?_))
    · exact trivial
    clear hK K hH2
    try simp only [Act.put, List.setIfInBounds_toArray, List.set_cons_zero, List.set_cons_succ]
    rotate_left
    all_goals
      refine any_one 12 (by kernel_rfl) rfl (by rfl) (fun K hK => ?_)
      refine op_append_el1 rfl _ _ 29 rfl B 37 i0 _ Try.underlying29 hi hz0 hz1 (by omega) rfl rfl HM8.out.reg rfl (one_el (K := rgK) (b := w7.heap.size) w7 37 (s, u, m, k) #[.string s, .int .i64 u, .int .i64 m, .bool k] rfl rfl) (by omega) (by have := HB8.out.size; omega) ?_; intro v9 w9 hown9 hgrow9 hnext9; obtain ⟨a9, n9, c9, rfl⟩ := OwnEl.shape hown9; have hbk9 : BlkAt t 52 #[.int .i64 size, .slice a n c, .slice a5 n5 c5, .pointer (some ⟨t, 0, none⟩)] w9 := HM8.out.blk.kept (Keeps.of_grown (F := fun j => (Value.slice a n c).ownBlock = some j) hgrow9 fun _ q => q) (own_off_type HM8.out.reg HM8.out.blk (by decide)); have k1 : w9.cell? ⟨t, 1, none⟩ = some (.slice a n c) := hbk9.cell 1; have k2 := hbk9.free 1; have HG9 := Lib.hid (HM8.out.app (by have := HB8.out.size; omega) hown9 hgrow9 hnext9); clear hown9 hgrow9 hnext9 hbk9
      first | refine hK.out _ _ ?_ (fun hH4 => ?_) | (go_wp2_with fail; refine hK.out _ _ ?_ (fun hH4 => ?_))
      · exact trivial
      clear hK K hH3
      try simp only [Act.put, List.setIfInBounds_toArray, List.set_cons_zero, List.set_cons_succ]
      (refine any_take (v := ?_) 13 rfl (by kernel_rfl) (by kernel_rfl) (by kernel_rfl) (fun _ _ _ h => h) (by rfl) ?_ (by assumption) ?_; rotate_left; (intro w hSw; (try dsimp only at hSw); go_simp; try with_reducible rfl); try simp only [Act.put, List.setIfInBounds_toArray, List.set_cons_zero, List.set_cons_succ])
      (refine any_take (v := ?_) 14 rfl (by kernel_rfl) (by kernel_rfl) (by kernel_rfl) (fun _ _ _ h => h) (by rfl) ?_ (by assumption) ?_; rotate_left; (intro w hSw; (try dsimp only at hSw); go_simp; try with_reducible rfl); try simp only [Act.put, List.setIfInBounds_toArray, List.set_cons_zero, List.set_cons_succ])
      refine any_one 15 (by kernel_rfl) rfl (by rfl) (fun K hK => ?_)
      go_simp
      first | refine hK.out _ _ ?_ (fun hH5 => ?_) | (go_wp2_with fail; refine hK.out _ _ ?_ (fun hH5 => ?_))
      · exact trivial
      clear hK K hH4
      try simp only [Act.put, List.setIfInBounds_toArray, List.set_cons_zero, List.set_cons_succ]
      refine wpAnyH_done (by kernel_rfl) ?_ _
      go_wp2
      go_ret2
      exact plaAlloc_end HI.out HB3.out HG5.out.2 (((Below.refl _ _).alloc (Nat.le_refl _) _).drew) HB8.out HG9.out.1 HG9.out.2 HSD.out HJ1.out HJ2.out HJ3.out Q2.out HNL.out
end
end
theorem plaAlloc_is {B t : Nat} {w : World} {size : Int} {rs : Rgs} {F : Nat → Prop} (h : PlaAt B w t size rs F) (s : ByteArray) (m : Int) (k : Bool) (hs : s.size ≤ maxLen) (hn : rs.length ≤ 1000) (hB : B ≤ w.heap.size) :
    Calls Try.prog 7 #[.pointer (some ⟨t, 0, none⟩), .string s, .int .i64 m, .bool k] w (PlaTo B t size (allV size rs s m) (allE size rs s m) (allS size rs s m k) F w) := by
  by_cases hz : allE size rs s m = 0
  · rcases all_ways size rs s m with q | ⟨q, q2 | ⟨q2, q3 | ⟨q3, q4 | q4⟩⟩⟩
    · rw [(all_name (k := k) q).1] at hz; cases hz
    · rw [(all_twice (k := k) q q2).1] at hz; cases hz
    · rw [(all_arg (k := k) q q2 q3).1] at hz; cases hz
    · rw [(all_full (k := k) q q2 q3 q4).1] at hz; cases hz
    · obtain ⟨e1, e2, e3⟩ := all_yes (k := k) q q2 q3 q4
      rw [e1, e2, e3]
      exact plaAlloc_yes h s m k hs hn hB q q2 q3 q4
  · exact plaAlloc_no h s m k hs hn hz
end Go.Proofs.Ytpgjdbnhbkggpaa
