/- Package graph: Cyclic. Conditions: words lie in memory; no more than 60. -/
import Derived.Test.YtggiaopdgijgnaaDoorGraO
import Derived.Test.YtggiaopdgijgnaaDoorGraR
import Derived.Test.YtggiaopdgijgnaaDoorFreeK
namespace Go.Proofs.YtggiaopdgijgnaaDoor
open Go.RowKit Go.IntWalk

set_option maxRecDepth 100000 in
set_option maxHeartbeats 1000000 in
theorem mayCyc {n B bl br : Nat} (hn : n ≤ 60) (h1 : bl < B) (h2 : br < B) : MayAt 39 #[.pointer (some ⟨bl, 0, none⟩)] n B (fun j => j = br)
    (fun (s : Nat → Int) w => BlkAt bl 38 #[.slice (some ⟨br, 0, none⟩) n n] w ∧ Ar .i32 21 br n s w) Gra.cycM Gra.cycS where
  ask s w p hp h := by
    show Calls Tryd.prog 39 #[.int .i32 p, .pointer (some ⟨bl, 0, none⟩)] w _
    have hne : br ≠ bl := Ar.ne_blk h.2 h.1 (by decide)
    have hne2 : ¬ br = bl := hne
    have hne3 : ¬ bl = br := fun e => hne e.symm
    have c0 := h.1.cell 0
    have ck := h.2.cell hp
    have fk := h.2.free p
    have hp' : (p : Int) < n := by omega
    have hn' : (n : Int) ≤ 60 := by omega
    obtain ⟨v, hv⟩ : ∃ v, s p = v := ⟨_, rfl⟩
    obtain ⟨u, hu⟩ : ∃ u, IntKind.i32.wrap (v - 1) = u := ⟨_, rfl⟩
    have HH := Lib.hid (And.intro hv hu)
    have H := Lib.hid h
    rw [hv] at ck
    clear h hne hv
    go_enter Tryd.func39, Tryd.ntmps39
    go_wp2
    go_ret
    have k1 := Keeps.set1 w br p (.int .i32 u)
    refine ⟨?_, ⟨H.out.1.kept k1 fun e => hne2 e.symm, (H.out.2.set p u).eq fun i _ => ?_⟩, k1⟩
    · unfold Gra.cycM
      rw [HH.out.1, HH.out.2]
      by_cases e : u = 0 <;> simp [e]
    · unfold Gra.cycS
      rw [HH.out.1, HH.out.2]
  keep s w w' h k := ⟨(k.block bl h1).trans h.1, (k.block br h2).trans h.2⟩
  lt j h := by omega
  cf _ _ := by kernel_rfl
theorem cnt_up {L : List Nat} {j q0 : Nat} (h : j < L.length) (e : L[j] = q0) (q : Nat) : (L.take (j + 1)).count q = (L.take j).count q + if q = q0 then 1 else 0 := by
  rw [List.take_succ_eq_append_getElem h, List.count_append, e, List.count_singleton]
  congr 1
  by_cases h : q = q0
  · subst h; simp
  · rw [if_neg h, if_neg (by simpa using fun e : q0 = q => h e.symm)]
theorem flatMap_len {N : Nat → List Nat} {D : Nat} (h : ∀ p, (N p).length ≤ D) : ∀ O : List Nat, (O.flatMap N).length ≤ O.length * D
  | [] => by simp
  | x :: O => by
    have h1 := flatMap_len h O
    have h2 := h x
    rw [List.flatMap_cons, List.length_append, List.length_cons, Nat.add_mul]
    omega
theorem came_lt {l : List Int} {mv : Nat → Bool} {x : Nat} (h : Gra.Came (nxN l) mv (beginN l.length) x) : x < l.length := by
  cases h with
  | start h _ =>
    unfold beginN at h
    have h9 := List.eq_of_mem_replicate h
    have h8 : (List.replicate (min l.length 1) 0).length ≠ 0 := fun e => by
      rw [List.eq_nil_of_length_eq_zero e] at h; cases h
    rw [List.length_replicate] at h8
    omega
  | next _ h _ => exact nxN_in h
/-- How many ways lead to each place from some, and from without. -/
def cycIn (N : Nat → List Nat) (n : Nat) (O : List Nat) (q : Nat) : Int := ((beginN n).count q + (O.flatMap N).count q : Nat)
/-- What the second walk of Cyclic comes to. -/
def CycT (l : List Int) (T T2 : Gra.Tr) : Prop := ∃ s2, T2.st = [] ∧
      Gra.GoT Gra.cycM Gra.cycS (nxN l) ((Gra.waitS Gra.cycM Gra.cycS (fun _ => false) (-1) (beginN l.length) (cycIn (nxN l) l.length T.ord) []).1, Gra.startT (Gra.waitS Gra.cycM Gra.cycS (fun _ => false) (-1) (beginN l.length) (cycIn (nxN l) l.length T.ord) []).2) (s2, T2)
/-- Where it lies. -/
def CycR (l : List Int) (T : Gra.Tr) (br : Nat) (W : World) (s12 : Value) (wx : World) : Prop := ∃ b T2 bc bf ao co, s12 = .pointer (some ⟨b, 0, none⟩) ∧ BlkAt b 49 #[.slice (some ⟨bc, 0, none⟩) (szS l.length) (szS l.length), .slice ao T2.ord.length co, .slice (some ⟨bf, 0, none⟩) l.length l.length] wx ∧ CycT l T T2 ∧ W.heap.size ≤ b ∧ Keeps (fun j => j = br) W wx
set_option maxRecDepth 100000 in
set_option maxHeartbeats 4000000 in
theorem graCyclic_is {l : List Int} {a : Option Addr} {c : Nat} {w : World} (h : Ws .u32 w a l.length c l) (hn : l.length ≤ 60) (hs : ShapesLaid w) (hb : ∀ i, i < l.length → 0 ≤ byAt l i ∧ byAt l i < 4294967296) :
    Calls Tryd.prog 19 #[.slice a l.length c] w fun e w' => (∃ T s2 T2, e = .returned (.bool (decide (T2.ord.length < T.ord.length))) ∧ PureT (fun _ => true) (nxN l) (beginN l.length) T ∧ T2.st = [] ∧
      Gra.GoT Gra.cycM Gra.cycS (nxN l) ((Gra.waitS Gra.cycM Gra.cycS (fun _ => false) (-1) (beginN l.length) (cycIn (nxN l) l.length T.ord) []).1, Gra.startT (Gra.waitS Gra.cycM Gra.cycS (fun _ => false) (-1) (beginN l.length) (cycIn (nxN l) l.length T.ord) []).2) (s2, T2)) ∧ Below w.heap.size w w' := by
  obtain ⟨i0, hi, hz0, hz1, hz2⟩ := info_parts infoI32
  have hmk := run_zeros (P := Tryd.prog) 38 21 i0 Tryd.underlying38 hi hz0 hz1 l.length (by rw [hz2]; omega) (by unfold maxLen; omega) l.length rfl
  have HRd := Lib.hid (graRead_is h hn hs hb)
  have HN := Lib.hid hn
  have hf1 := trip_1
  clear h hs hb hn
  go_enter Tryd.func19, Tryd.ntmps19
  go_upto_region 4 with (first
    | (go_at_call 25; ((with_reducible refine (HRd.out).mono ?_); rintro e w2 ⟨v, rfl, hv, hq⟩); obtain ⟨a1, m1, c1, a2, c2, rfl, hwa, hwn⟩ := hv.ways; have HWN := Lib.hid hwn; have HQ1 := Lib.hid hq; clear hwn hwa hq hv HRd)
    | (go_at_call 26; ((with_reducible refine (graAll_is HWN.out ((Below.refl _ _).alloc (Nat.le_refl _) _) HN.out).mono ?_); rintro e w3 ⟨v, T, rfl, hv, ht, hq⟩); have HP := Lib.hid ht; have HQ3 := Lib.hid hq; clear ht hq; obtain ⟨bc, bf, bo, ov, rfl, hset, hord, hlo⟩ := hv; obtain ⟨ao, co, rfl, hws⟩ := hord.wsn (m := T.ord.length) (by simp); have HORD := Lib.hid hws; have HAO := Lib.hid (fun b off (q : ao = some ⟨b, off, none⟩) => (hord.lt b (by subst q; simp [Value.ownBlock])).2); clear hset hord hlo hws))
  obtain ⟨br, hbr⟩ : ∃ x, w3.heap.size = x := ⟨_, rfl⟩
  obtain ⟨W5, hW5⟩ : ∃ W5, (w3.alloc (.cells (fnArr l.length fun _ => .int .i32 0) 21)).alloc (.cells #[.slice (some ⟨w3.heap.size, 0, none⟩) l.length l.length] 38) = W5 := ⟨_, rfl⟩
  have k2 := (Below.refl w2.heap.size w2).alloc (Nat.le_refl _) (.cells #[.slice a1 m1 c1, .slice a2 (l.length + 1) c2] 51)
  have k5 : Below w3.heap.size w3 W5 := hW5 ▸ ((Below.refl _ _).alloc (Nat.le_refl _) _).alloc (by simp) _
  have k25 : Below w2.heap.size w2 W5 := k2.trans ((HQ3.out.trans (k5.mono HQ3.out.size)).mono k2.size)
  have HB5 := Lib.hid (HQ1.out.trans (k25.mono HQ1.out.size))
  have HX2 := Lib.hid (show BlkAt w2.heap.size 51 #[.slice a1 m1 c1, .slice a2 (l.length + 1) c2] W5 from (BlkAt.new w2 _ _).keep (HQ3.out.trans (k5.mono HQ3.out.size)))
  have HA0 := Lib.hid (show Ar .i32 21 br l.length (fun _ => 0) W5 from by rw [← hW5, ← hbr]; exact Ar.keep (Ar.zeros w3 rfl) ((Below.refl _ _).alloc (Nat.le_refl _) _))
  have HBX := Lib.hid (show BlkAt (br + 1) 38 #[.slice (some ⟨br, 0, none⟩) l.length l.length] W5 from by rw [← hW5, ← hbr]; exact BlkAt.newb _ _ _ (by simp))
  have HO5 := Lib.hid (HORD.out.keep k5)
  have HLE := Lib.hid (show w.heap.size ≤ w2.heap.size ∧ w2.heap.size < br ∧ br + 2 = W5.heap.size ∧ w.heap.size ≤ br from by
    have h1 := HQ1.out.size
    have h2 := HQ3.out.size
    have h3 : W5.heap.size = w3.heap.size + 2 := by rw [← hW5]; simp
    rw [World.size_alloc] at h2
    omega)
  have HK25 := Lib.hid k25
  have HAO2 := Lib.hid (fun b off q => hbr ▸ HAO.out b off q)
  rw [hW5]
  rw [hbr]
  have HOL := Lib.hid (show T.ord.length ≤ l.length ∧ ∀ x ∈ T.ord, x < l.length from by
    have h1 := Gra.GoP.came (mv := fun _ => true) (N := nxN l) (l0 := beginN l.length) HP.out.2 HP.out.1
    have h2 : ∀ x ∈ T.ord, x < l.length := fun x hx => came_lt ((h1.1 x).1 ((h1.2.2 x).1 hx))
    exact ⟨Gra.nodup_lt h1.2.1 h2, h2⟩)
  have x2 := HX2.out.cell 0
  have y2 := HX2.out.cell 1
  have hn := HN.out
  have hn' : (l.length : Int) ≤ 60 := by omega
  obtain ⟨b5, hb5⟩ : ∃ x, w2.heap.size = x := ⟨_, rfl⟩
  rw [hb5] at HX2 HLE HK25 x2 y2
  rw [hb5]
  have HB5E := Lib.hid hb5
  clear HAO hb5 hW5 hbr k2 k5 k25 HQ1 HQ3 hmk hi hz0 hz1 hz2 hn HORD
  go_wp2_with (go_at_call 38; ((with_reducible refine (graBegin_is (n := l.length) _ _ _ (by omega)).mono ?_); rintro e w6 ⟨g, k, rfl, hw6, hg1, hg2, hq⟩); have HW6 := Lib.hid hw6; have HG6 := Lib.hid hg1; have HQ6 := Lib.hid hq; clear hw6 hg1 hg2 hq)
  have hkl := HW6.out.len
  rw [beginN_is, List.length_map] at hkl
  have hk1 : k ≤ 1 := by rw [← hkl]; unfold beginN; rw [List.length_replicate]; omega
  have hk' : (k : Int) ≤ 1 := by omega
  have HKL := Lib.hid hkl
  clear x2 y2 hkl
  go_loopw [24] (fun i wr => ∃ j : Nat, j ≤ k ∧ i = .int .i64 j ∧ Ar .i32 21 br l.length (fun q => ((((beginN l.length).take j).count q : Nat) : Int)) wr ∧ Keeps (fun j => j = br) w6 wr) (fun i _ => k - (intOf i).toNat)
  case atStart => exact ⟨0, by omega, rfl, (HA0.out.keep HQ6.out).eq fun i _ => by simp, Keeps.refl _ _⟩
  case round =>
    obtain ⟨j, hj, rfl, hA, hK⟩ := hrel
    have HA := Lib.hid hA
    have HK := Lib.hid hK
    have hk6 : Keeps (fun j => j = br) W5 wr := (Keeps.of_below _ HQ6.out).trans hK
    have HK6 := Lib.hid hk6
    by_cases hlt : j < k
    · have hlt' : (j : Int) < k := by omega
      have hjl : j < (beginN l.length).length := by rw [HKL.out]; exact hlt
      obtain ⟨q0, hq0⟩ : ∃ q, (beginN l.length)[j] = q := ⟨_, rfl⟩
      have hc := (HW6.out.kept hK (fun b off e => by cases e; have := HG6.out; have := HLE.out; omega)).lie (by omega)
      obtain ⟨g', off, e', hc⟩ := hc
      cases e'
      have c0 := hc j hlt
      have hbq : byAt (beginL l.length) j = (q0 : Int) := by
        rw [beginN_is, ← byAt_eq (by rw [List.length_map]; exact hjl), List.getElem_map, hq0]; rfl
      rw [hbq, Nat.zero_add] at c0
      have hqn : q0 < l.length := by
        rw [← hq0]
        unfold beginN
        unfold beginN at hjl
        rw [List.length_replicate] at hjl
        simp only [List.getElem_replicate]
        omega
      have b0 := (HBX.out.kept hk6 (by omega)).cell 0
      have cv := hA.cell hqn
      have fv := hA.free q0
      have hbd : ((beginN l.length).take j).count q0 ≤ 1 := Nat.le_trans List.count_le_length (by rw [List.length_take]; omega)
      obtain ⟨v, hv⟩ : ∃ v : Nat, ((beginN l.length).take j).count q0 = v := ⟨_, rfl⟩
      rw [hv] at cv hbd
      have HN1 := Lib.hid (And.intro hv (cnt_up hjl hq0))
      have v0 : (0 : Int) ≤ (v : Int) := by omega
      have v1 : (v : Int) ≤ 1 := by omega
      have hq' : (q0 : Int) < l.length := by omega
      clear hA hK hk6 hlt hjl hc hbq hqn hbd hv hq0
      go_wp2
      go_roundw
      case rel => exact ⟨j + 1, by omega, by go_num, (HA.out.set q0 ((v : Int) + 1)).eq fun i _ => by
        unfold upn
        dsimp only
        have h1 := HN1.out.2 i
        have h2 := HN1.out.1
        split
        · rename_i e; subst e; rw [if_pos rfl] at h1; omega
        · rename_i e; rw [if_neg e] at h1; omega, HK.out.trans (Keeps.set1 _ _ _ _)⟩
      case measure => simp [intOf]; omega
    · obtain rfl : j = k := by omega
      have HA2 := Lib.hid (show Ar .i32 21 br l.length (fun q => (((beginN l.length).count q + ((T.ord.take 0).flatMap (nxN l)).count q : Nat) : Int)) wr from hA.eq fun i _ => by
        rw [List.take_of_length_le (by rw [HKL.out]; omega)]
        simp)
      clear hA hK HA HK hlt hk6
      go_wp2
      obtain ⟨mo, hmo⟩ : ∃ m, T.ord.length = m := ⟨_, rfl⟩
      have HMO := Lib.hid hmo
      rw [hmo]
      have hmo' : (mo : Int) ≤ 60 := by have := HOL.out.1; omega
      clear hmo
      go_loopw [37] (fun i wr => ∃ p : Nat, p ≤ mo ∧ i = .int .i64 p ∧ Ar .i32 21 br l.length (fun q => (((beginN l.length).count q + ((T.ord.take p).flatMap (nxN l)).count q : Nat) : Int)) wr ∧ Keeps (fun j => j = br) W5 wr) (fun i _ => mo - (intOf i).toNat)
      case atStart => exact ⟨0, by omega, rfl, HA2.out, HK6.out⟩
      case round =>
        obtain ⟨p, hp, rfl, hA, hK⟩ := hrel
        have HA := Lib.hid hA
        have HK := Lib.hid hK
        by_cases hlt : p < mo
        · have hlt' : (p : Int) < mo := by omega
          have hpl : p < T.ord.length := by rw [HMO.out]; exact hlt
          obtain ⟨P, hP⟩ : ∃ P, T.ord[p] = P := ⟨_, rfl⟩
          have hPn : P < l.length := HOL.out.2 P (by rw [← hP]; exact List.getElem_mem _)
          have hc := (HO5.out.kept hK (fun b off e => by have := HAO2.out b off e; omega)).lie (by omega)
          obtain ⟨g', off, rfl, hc⟩ := hc
          have c0 := hc p hpl
          have hbq : byAt (T.ord.map Int.ofNat) p = (P : Int) := by
            rw [← byAt_eq (by rw [List.length_map]; exact hpl), List.getElem_map, hP]; rfl
          rw [hbq] at c0
          have x2 := (HX2.out.kept hK (by have := HLE.out; omega)).cell 0
          have y2 := (HX2.out.kept hK (by have := HLE.out; omega)).cell 1
          have hold : Below w2.heap.size w2 wr := hK.below (by rw [HB5E.out]; exact HK25.out) (by rw [HB5E.out]; have := HLE.out; omega) fun j e => by rw [HB5E.out]; have := HLE.out; omega
          obtain ⟨L, hL1, hL2, hL3⟩ := HWN.out.ex
          have hO := graOf_is (w := wr) hL1 hold (by rw [hL2]; have := HN.out; omega) (p := P) (by omega)
          rw [hL3 P hPn] at hO
          have HO := Lib.hid hO
          have hw : IntKind.i64.wrap (P : Int) = (P : Int) := IntWalk.i64_in _ (by have := HN.out; omega)
          have HPP := Lib.hid (And.intro hP hPn)
          have HPL := Lib.hid hpl
          clear hA hK hc hbq hold hL1 hL2 hL3 hO hlt hP hPn
          go_wp2_with (go_at_call 32; ((with_reducible refine HO.out.mono ?_); rintro e w8 ⟨b, k8, d, rfl, hw8, -, hq⟩); have HW8 := Lib.hid hw8; have HQ8 := Lib.hid hq; clear hw8 hq)
          have hkl := HW8.out.len
          rw [List.length_map] at hkl
          have hk8 : k8 ≤ 200 := by have := HWN.out.few P; omega
          have hk8' : (k8 : Int) ≤ 200 := by omega
          have HKL8 := Lib.hid hkl
          clear x2 y2 hkl c0
          go_loopw [46] (fun i wr => ∃ j : Nat, j ≤ k8 ∧ i = .int .i64 j ∧ Ar .i32 21 br l.length (fun q => (((beginN l.length).count q + (((T.ord.take p).flatMap (nxN l)).count q + ((nxN l P).take j).count q) : Nat) : Int)) wr ∧ Keeps (fun j => j = br) W5 wr) (fun i _ => k8 - (intOf i).toNat)
          case atStart => exact ⟨0, by omega, rfl, (HA.out.keep HQ8.out).eq fun i _ => by simp, HK.out.trans (Keeps.of_below _ HQ8.out)⟩
          case round =>
            obtain ⟨j, hj, rfl, hA, hK⟩ := hrel
            have HA9 := Lib.hid hA
            have HK9 := Lib.hid hK
            by_cases hlt : j < k8
            · have hlt' : (j : Int) < k8 := by omega
              have hold : Below w2.heap.size w2 wr := hK.below (by rw [HB5E.out]; exact HK25.out) (by rw [HB5E.out]; have := HLE.out; omega) fun j e => by rw [HB5E.out]; have := HLE.out; omega
              obtain ⟨g2, off2, rfl, hc⟩ := (HW8.out.keep hold).lie (by omega)
              have c0 := hc j hlt
              have hjl : j < (nxN l P).length := by rw [HKL8.out]; exact hlt
              obtain ⟨q0, hq0⟩ : ∃ q, (nxN l P)[j] = q := ⟨_, rfl⟩
              have hbq : byAt ((nxN l P).map Int.ofNat) j = (q0 : Int) := by
                rw [← byAt_eq (by rw [List.length_map]; exact hjl), List.getElem_map, hq0]; rfl
              rw [hbq] at c0
              have hqn : q0 < l.length := HWN.out.ins P q0 (by rw [← hq0]; exact List.getElem_mem _)
              have b0 := (HBX.out.kept hK (by omega)).cell 0
              have cv := hA.cell hqn
              have fv := hA.free q0
              have hbd : (beginN l.length).count q0 + (((T.ord.take p).flatMap (nxN l)).count q0 + ((nxN l P).take j).count q0) ≤ 50000 := by
                have h1 : (beginN l.length).count q0 ≤ 1 := Nat.le_trans List.count_le_length (by unfold beginN; rw [List.length_replicate]; omega)
                have h2 : ((T.ord.take p).flatMap (nxN l)).count q0 ≤ (T.ord.take p).length * 200 := Nat.le_trans List.count_le_length (flatMap_len HWN.out.few _)
                have h3 : (T.ord.take p).length ≤ 60 := by rw [List.length_take]; have := HOL.out.1; have := HN.out; omega
                have h4 : ((nxN l P).take j).count q0 ≤ 200 := Nat.le_trans List.count_le_length (by rw [List.length_take]; omega)
                have h5 := Nat.mul_le_mul_right 200 h3
                omega
              obtain ⟨v, hv⟩ : ∃ v : Nat, (beginN l.length).count q0 + (((T.ord.take p).flatMap (nxN l)).count q0 + ((nxN l P).take j).count q0) = v := ⟨_, rfl⟩
              rw [hv] at cv hbd
              have HN1 := Lib.hid (And.intro hv (cnt_up hjl hq0))
              have v0 : (0 : Int) ≤ (v : Int) := by omega
              have v1 : (v : Int) ≤ 50000 := by omega
              have hq' : (q0 : Int) < l.length := by omega
              clear hA hK hold hlt hjl hc hbq hqn hbd hv hq0
              go_wp2
              go_roundw
              case rel => exact ⟨j + 1, by omega, by go_num, (HA9.out.set q0 ((v : Int) + 1)).eq fun i _ => by
                unfold upn
                dsimp only
                have h1 := HN1.out.2 i
                have h2 := HN1.out.1
                split
                · rename_i e; subst e; rw [if_pos rfl] at h1; omega
                · rename_i e; rw [if_neg e] at h1; omega, HK9.out.trans (Keeps.set1 _ _ _ _)⟩
              case measure => simp [intOf]; omega
            · obtain rfl : j = k8 := by omega
              have HA10 := Lib.hid (show Ar .i32 21 br l.length (fun q => (((beginN l.length).count q + ((T.ord.take (p + 1)).flatMap (nxN l)).count q : Nat) : Int)) wr from hA.eq fun i _ => by
                rw [show (nxN l P).take j = nxN l P from List.take_of_length_le (by rw [HKL8.out]; omega), List.take_succ_eq_append_getElem HPL.out, List.flatMap_append, List.count_append, HPP.out.1]
                simp)
              clear hA hK hlt
              go_wp2
              go_roundw
              case rel => exact ⟨p + 1, by omega, by go_num, HA10.out, HK9.out⟩
              case measure => simp [intOf]; omega
        · obtain rfl : p = mo := by omega
          have HA3 := Lib.hid (show Ar .i32 21 br l.length (cycIn (nxN l) l.length T.ord) wr from hA.eq fun i _ => by
            unfold cycIn
            rw [List.take_of_length_le (by rw [HMO.out]; omega)])
          clear hA hK hlt HA HA2 HK6
          go_upto_region 18 with (fail)
          have HX8 := Lib.hid (HX2.out.kept HK.out (by have := HLE.out; omega))
          have HL8 := Lib.hid (HBX.out.kept HK.out (by omega))
          have HB8 := Lib.hid (show Below w.heap.size w wr from HK.out.below HB5.out HB5.out.size fun j e => by have := HLE.out; omega)
          have HBW8 := Lib.hid (show Below w2.heap.size w2 wr from HK.out.below (by rw [HB5E.out]; exact HK25.out) (by rw [HB5E.out]; have := HLE.out; omega) fun j e => by rw [HB5E.out]; have := HLE.out; omega)
          go_cut [12] (fun s12 wx => CycR l T br wr s12 wx)
          case first =>
            refine wp_region_freeK (Rl := Keeps fun j => j = br) (X := fun w' => Ar .i32 21 br l.length (cycIn (nxN l) l.length T.ord) w') (jx := 4) (fun _ => True) [(0, 0, 59, 8), (1, 0, 60, 8), (2, 2, 61, 576460752303423488), (3, 0, 62, 32), (4, 13, 63, 3746994889972252672), (5, 0, 13, 0), (6, 63, 0, 4611686018427392000)] 6 [(0, 58), (1, 59), (2, 60), (3, 61), (4, 62), (5, 12)] [(0, []), (1, []), (2, [(1, 59)]), (3, []), (4, [(0, 58), (2, 60), (3, 61)]), (5, [])] [(false, 6, 127)] []
              (fun i v w' => match i with
                | 0 => v = .agg #[.slice a1 m1 c1, .slice a2 (l.length + 1) c2]
                | 1 => v = .agg #[.slice a1 m1 c1, .slice a2 (l.length + 1) c2]
                | 2 => ∃ g k, v = .slice (some ⟨g, 0, none⟩) k k ∧ Ws .i32 w' (some ⟨g, 0, none⟩) k k (beginL l.length) ∧ W5.heap.size ≤ g ∧ g < w'.heap.size
                | 3 => v = .func (.func 39) #[] #[.pointer (some ⟨br + 1, 0, none⟩)]
                | 4 => ∃ T2, TripV w' wr.heap.size l.length v T2 ∧ CycT l T T2
                | 5 => ∃ b, v = .pointer (some ⟨b, 0, none⟩) ∧ BlkAt b 49 #[.slice none 0 0, .slice none 0 0, .slice none 0 0] w' ∧ wr.heap.size ≤ b
                | _ => True) (keepsOk _) HA3.out (by kernel_rfl) (by kernel_rfl) (by kernel_rfl) (by kernel_rfl) (by kernel_rfl) (fun _ _ => trivial) ?_ ?_ ?_ ?_
            · intro i v w1 w2 h hb
              match i, h with
              | 0, h | 1, h | 3, h => exact h
              | 2, ⟨g, k, e, h, h', h2⟩ => exact ⟨g, k, e, h.keep hb, h', Nat.lt_of_lt_of_le h2 hb.size⟩
              | 4, ⟨T2, h, h'⟩ => exact ⟨T2, h.keep hb, h'⟩
              | 5, ⟨b, e, h, h'⟩ => exact ⟨b, e, h.keep hb, h'⟩
              | _ + 6, _ => trivial
            · intro i v w1 w2 _ h hb
              have hle := HLE.out
              have hsz := HK.out.size
              match i, h with
              | 0, h | 1, h | 3, h => exact h
              | 2, ⟨g, k, e, h, h', h2⟩ => exact ⟨g, k, e, h.kept hb (fun b off q => by cases q; omega), h', Nat.lt_of_lt_of_le h2 hb.size⟩
              | 4, ⟨T2, h, h'⟩ => exact ⟨T2, h.kept hb fun j e => by omega, h'⟩
              | 5, ⟨b, e, h, h'⟩ => exact ⟨b, e, h.kept hb (by omega), h'⟩
              | _ + 6, _ => trivial
            · refine ⟨?_, ?_, ?_, ?_, ?_, ?_, trivial⟩
              · intro o ho vals w1 hb hd hne hxx
                cases ho
                have g0 := (BlkAt.kept (w := wr.drew) HX8.out hb (by have := HLE.out; omega)).cell 0
                have g1 := (BlkAt.kept (w := wr.drew) HX8.out hb (by have := HLE.out; omega)).cell 1
                exact .val (v := .agg #[.slice a1 m1 c1, .slice a2 (l.length + 1) c2]) (w' := w1) (by simp [frA, execOp, Act.eval, go_sem, g0, g1]) ⟨rfl, Keeps.refl _ _, fun q => by simp at q, fun _ => ⟨Below.refl _ _, fun h => h⟩⟩
              · intro o ho vals w1 hb hd hne hxx
                cases ho
                have g0 := (BlkAt.kept (w := wr.drew) HX8.out hb (by have := HLE.out; omega)).cell 0
                have g1 := (BlkAt.kept (w := wr.drew) HX8.out hb (by have := HLE.out; omega)).cell 1
                exact .val (v := .agg #[.slice a1 m1 c1, .slice a2 (l.length + 1) c2]) (w' := w1) (by simp [frA, execOp, Act.eval, go_sem, g0, g1]) ⟨rfl, Keeps.refl _ _, fun q => by simp at q, fun _ => ⟨Below.refl _ _, fun h => h⟩⟩
              · intro o ho vals w1 hb hd hne hxx
                cases ho
                have e0 : vals 1 = _ := hd (1, 59) (.head _)
                refine .call (f := 38) (vs := #[.agg #[.slice a1 m1 c1, .slice a2 (l.length + 1) c2]]) (by simp [frA, execOp, Act.put, Act.eval, go_sem, e0]) ((graBegin_is (w := w1) (n := l.length) _ _ _ (by omega)).mono ?_)
                rintro e w' ⟨g, k, rfl, h1, h2, h3, hq⟩
                have hsz := HK.out.size
                have hsb := hb.size
                simp only [World.drew] at hsb
                exact ⟨_, rfl, ⟨g, k, rfl, h1, by omega, h3⟩, Keeps.of_below _ hq, fun q => by simp at q, fun _ => ⟨hq, fun h => h.keep hq⟩⟩
              · intro o ho vals w1 hb hd hne hxx
                cases ho
                exact .val (v := .func (.func 39) #[] #[.pointer (some ⟨br + 1, 0, none⟩)]) (w' := w1) (by simp [frA, execOp, Act.eval, go_sem]) ⟨rfl, Keeps.refl _ _, fun q => by simp at q, fun _ => ⟨Below.refl _ _, fun h => h⟩⟩
              · intro o ho vals w1 hb hd hne hxx
                cases ho
                have e3 : vals 3 = _ := hd (3, 61) (.tail _ (.tail _ (.head _)))
                have e0 : vals 0 = _ := hd (0, 58) (.head _)
                obtain ⟨g, k, e2, h2, h2', h3⟩ := hd (2, 60) (.tail _ (.head _))
                simp only at e2
                rw [beginN_is] at h2
                obtain ⟨L, hL1, hL2, hL3⟩ := HWN.out.ex
                have hle := HLE.out
                have hsz := HK.out.size
                have hsb := hb.size
                simp only [World.drew] at hsb
                have hold : Below w2.heap.size w2 w1 := (show Keeps (fun j => j = br) wr w1 from (Keeps.of_below _ (Below.refl _ _).drew).trans hb).below HBW8.out HBW8.out.size fun j e => by rw [HB5E.out]; omega
                have hlx : BlkAt (br + 1) 38 #[.slice (some ⟨br, 0, none⟩) l.length l.length] w1 := BlkAt.kept (w := wr.drew) HL8.out hb (by omega)
                refine .call (f := 35) (vs := #[.agg #[.slice a1 m1 c1, .slice a2 (l.length + 1) c2], .slice (some ⟨g, 0, none⟩) k k, .func (.func 39) #[] #[.pointer (some ⟨br + 1, 0, none⟩)]]) (by simp [frA, execOp, Act.put, Act.eval, go_sem, e0, e2, e3])
                  ((graWalk_is (w := w1) (mayCyc (n := l.length) (B := w1.heap.size) (bl := br + 1) (br := br) HN.out (by omega) (by omega)) hL1 hold hL2 hL3 HWN.out.ins HWN.out.few HN.out (fun j e => by rw [HB5E.out]; omega) HWN.out.lt h2 (fun b' off q => by
                    simp only [Option.some.injEq, Addr.mk.injEq] at q
                    rw [← q.1]; exact ⟨by omega, h3⟩) (fun x hx => by
                      unfold beginN at hx
                      have h9 := List.eq_of_mem_replicate hx
                      have h8 : (List.replicate (min l.length 1) 0).length ≠ 0 := fun e => by
                        rw [List.eq_nil_of_length_eq_zero e] at hx; cases hx
                      rw [List.length_replicate] at h8
                      omega) (by unfold beginN; rw [List.length_replicate]; omega) (s := cycIn (nxN l) l.length T.ord) ⟨hlx, hxx rfl⟩).mono ?_)
                rintro e w' ⟨v, s', T2, rfl, h4, h5, h6, -, h7⟩
                exact ⟨_, rfl, ⟨T2, h4.mono (show wr.heap.size ≤ w1.heap.size by omega), s', h5, h6⟩, h7, fun q => by simp at q, fun q => absurd rfl q⟩
              · intro o ho vals w1 hb hd hne hxx
                cases ho
                exact .val (v := .pointer (some ⟨w1.heap.size, 0, none⟩)) (by simp [execOp, go_sem]) ⟨⟨_, rfl, BlkAt.new _ _ _, hb.size⟩, Keeps.of_below _ ((Below.refl _ _).alloc (Nat.le_refl _) _), fun q => by simp at q, fun _ => ⟨(Below.refl _ _).alloc (Nat.le_refl _) _, fun h => h.keep ((Below.refl _ _).alloc (Nat.le_refl _) _)⟩⟩
            · intro vals ax w1 hI
              have e := hI.frame (by kernel_rfl) (by kernel_rfl)
              subst e
              have e0 : vals 0 = _ := hI.psi 0 (by omega) (by decide)
              have e1 : vals 1 = _ := hI.psi 1 (by omega) (by decide)
              have e3 : vals 3 = _ := hI.psi 3 (by omega) (by decide)
              obtain ⟨T2, h1, h2⟩ := hI.psi 4 (by omega) (by decide)
              obtain ⟨b, e5, h51, h52⟩ := hI.psi 5 (by omega) (by decide)
              have hbc : ∀ bb ∈ [b], True := fun _ _ => trivial
              obtain ⟨bc9, bf9, ao9, co9, e4⟩ := h1.form
              have HI := Lib.hid hI
              generalize vals 2 = v2 at *
              have f0 := h51.free 0
              have f1 := h51.free 1
              have f2 := h51.free 2
              have y0 := h51.cell 0
              have y1 := h51.cell 1
              have y2 := h51.cell 2
              have HT := Lib.hid (And.intro h1 (And.intro h2 (And.intro h51 h52)))
              clear h1 h2 hI h51 h52
              refine SeqH.step rfl rfl fun K hK => ?_
              simp only [frA, List.foldl, e0, e1, e3, e4, e5]
              go_simp
              refine hK _ _ trivial (SeqH.done (NoPanic.normal ?_))
              go_wp2_with fail
              go_meet
              have kx : Keeps (fun j => j = b) w1 (((w1.setCell ⟨b, 0, none⟩ (.slice (some ⟨bc9, 0, none⟩) (szS l.length) (szS l.length))).setCell ⟨b, 1, none⟩ (.slice ao9 T2.ord.length co9)).setCell ⟨b, 2, none⟩ (.slice (some ⟨bf9, 0, none⟩) l.length l.length)) := ((Keeps.set1 _ _ _ _).trans (Keeps.set1 _ _ _ _)).trans (Keeps.set1 _ _ _ _)
              have hb0 : Keeps (fun j => j = br) wr w1 := (Keeps.of_below _ (Below.refl _ _).drew).trans HI.out.below
              exact ⟨b, T2, bc9, bf9, ao9, co9, rfl, (((HT.out.2.2.1.set 0 _).set 1 _).set 2 _).eq rfl, HT.out.2.1, HT.out.2.2.2, hb0.next kx fun j hj e => by have := HT.out.2.2.2; omega⟩
          case rest =>
            obtain ⟨b, T2, bc9, bf9, ao9, co9, rfl, h1, h2, h3, h4⟩ := hcut
            have y1 := h1.cell 1
            have hlt : b < wc.heap.size := h1.lt
            have HH := Lib.hid (And.intro h2 (And.intro h3 h4))
            clear h1 h2 h3 h4
            go_wp2_with fail
            go_ret
            obtain ⟨s2, g1, g2⟩ := HH.out.1
            refine ⟨⟨T, s2, T2, ?_, HP.out, g1, g2⟩, HH.out.2.2.below HB8.out HB8.out.size fun j e => by have := HLE.out; omega⟩
            rw [HMO.out]
            rfl
/-- Can a place be come to from itself? -/
noncomputable def cycB (l : List Int) : Bool := @decide (∃ p, Gra.Came (nxN l) (fun _ => true) (beginN l.length) p ∧ ∃ q ∈ nxN l p, Gra.Came (nxN l) (fun _ => true) [q] p) (Classical.propDecidable _)
theorem cycB_iff {l : List Int} : cycB l = true ↔ ∃ p, Gra.Came (nxN l) (fun _ => true) (beginN l.length) p ∧ ∃ q ∈ nxN l p, Gra.Came (nxN l) (fun _ => true) [q] p := by
  unfold cycB
  exact ⟨fun h => @of_decide_eq_true _ (Classical.propDecidable _) h, fun h => @decide_eq_true _ (Classical.propDecidable _) h⟩
theorem fw_came {N : Nat → List Nat} {ok : Nat → Prop} {l0 : List Nat} {x y : Nat} (h : Gra.Fw (fun x z => z ∈ N x) ok x y) (hx : Gra.Came N (fun _ => true) l0 x) : Gra.Came N (fun _ => true) l0 y := by
  induction h with
  | nil _ => exact hx
  | cons _ e _ ih => exact ih (.next hx e rfl)
theorem came_fw {N : Nat → List Nat} {ok : Nat → Prop} {q y : Nat} (hok : ∀ x, ok x → ∀ z ∈ N x, ok z) (hq : ok q) (h : Gra.Came N (fun _ => true) [q] y) : Gra.Fw (fun x z => z ∈ N x) ok q y := by
  induction h with
  | start h _ => obtain rfl := List.mem_singleton.1 h; exact .nil hq
  | next _ e _ ih => exact ih.snoc e (hok _ ih.lst _ e)
theorem cyc_is {l : List Int} {s2 : Nat → Int} {T T2 : Gra.Tr} (hn : l.length ≤ 60) (hP : PureT (fun _ => true) (nxN l) (beginN l.length) T) (he : T2.st = [])
    (hg : Gra.GoT Gra.cycM Gra.cycS (nxN l) ((Gra.waitS Gra.cycM Gra.cycS (fun _ => false) (-1) (beginN l.length) (cycIn (nxN l) l.length T.ord) []).1, Gra.startT (Gra.waitS Gra.cycM Gra.cycS (fun _ => false) (-1) (beginN l.length) (cycIn (nxN l) l.length T.ord) []).2) (s2, T2)) :
    decide (T2.ord.length < T.ord.length) = cycB l := by
  have h1 := Gra.GoP.came (mv := fun _ => true) (N := nxN l) (l0 := beginN l.length) hP.2 hP.1
  have hc : ∀ x, x ∈ T.ord ↔ Gra.Came (nxN l) (fun _ => true) (beginN l.length) x := fun x => (h1.2.2 x).trans (h1.1 x)
  rcases Nat.eq_zero_or_pos l.length with h0 | h0
  · have hno : ∀ x, ¬ Gra.Came (nxN l) (fun _ => true) (beginN l.length) x := fun x h => by have := came_lt h; omega
    have e1 : T.ord = [] := List.eq_nil_iff_forall_not_mem.2 fun x hx => hno x ((hc x).1 hx)
    have e2 : cycB l = false := by
      cases h : cycB l with
      | false => rfl
      | true => obtain ⟨p, hp, _⟩ := cycB_iff.1 h; exact absurd hp (hno p)
    rw [e1, e2]
    simp
  · have hb : beginN l.length = [0] := by unfold beginN; rw [Nat.min_eq_right h0]; rfl
    have hO2 : ∀ x ∈ T.ord, ∀ q ∈ nxN l x, q ∈ T.ord := fun x hx q hq => (hc q).2 (.next ((hc x).1 hx) hq rfl)
    have hlt : ∀ x ∈ T.ord, x < l.length := fun x hx => came_lt ((hc x).1 hx)
    have hlen : T.ord.length ≤ 60 := Nat.le_trans (Gra.nodup_lt h1.2.1 hlt) hn
    rw [hb] at hg
    have hst := Gra.kahn_start (N := nxN l) (O := T.ord) (f := -1) ((hc 0).2 (.start (by rw [hb]; simp) rfl)) (fun q hq h0 => by
      have := (hc q).1 hq
      cases this with
      | start h _ => rw [hb] at h; exact absurd (List.mem_singleton.1 h) h0
      | next hp h _ => exact ⟨_, (hc _).2 hp, h⟩) (fun q => by
      have h2 : (T.ord.flatMap (nxN l)).count q ≤ T.ord.length * 200 := Nat.le_trans List.count_le_length (flatMap_len (fun p => by
        unfold nxN
        split
        · rw [List.length_map]; have := nxl_len l p; omega
        · simp) _)
      have := Nat.mul_le_mul_right 200 hlen
      omega) (s0 := cycIn (nxN l) l.length T.ord) fun q => by unfold cycIn; rw [hb]
    have hK := Gra.GoT.ind (I := fun s T2 => Gra.KahnI (nxN l) T.ord s T2) hg hst fun s T2 st0 f x h e => h.step h1.2.1 hO2 e
    have hfin := Gra.kahn_cyc h1.2.1 hlt hO2 hK he
    rw [Bool.eq_iff_iff, decide_eq_true_iff, hfin, cycB_iff]
    constructor
    · rintro ⟨p, hp, q, hq, hw⟩
      exact ⟨p, (hc p).1 hp, q, hq, fw_came hw (.start (by simp) rfl)⟩
    · rintro ⟨p, hp, q, hq, hw⟩
      exact ⟨p, (hc p).2 hp, q, hq, came_fw hO2 (hO2 p ((hc p).2 hp) q hq) hw⟩
theorem graCyclic_c {l : List Int} {a : Option Addr} {c : Nat} {w : World} (h : Ws .u32 w a l.length c l) (hn : l.length ≤ 60) (hs : ShapesLaid w) (hb : ∀ i, i < l.length → 0 ≤ byAt l i ∧ byAt l i < 4294967296) :
    Calls Tryd.prog 19 #[.slice a l.length c] w fun e w' => e = .returned (.bool (cycB l)) ∧ Below w.heap.size w w' := by
  refine (graCyclic_is h hn hs hb).mono ?_
  rintro e w' ⟨⟨T, s2, T2, rfl, h1, h2, h3⟩, h4⟩
  rw [cyc_is hn h1 h2 h3]
  exact ⟨rfl, h4⟩
end Go.Proofs.YtggiaopdgijgnaaDoor
