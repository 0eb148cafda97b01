/- Package image: pair, flag, places, written, Put. -/
import Derived.Test.YtochnjbacglhbaaDoorImgD
import Derived.Test.YtochnjbacglhbaaDoorImgI
import Derived.Test.YtochnjbacglhbaaDoorCrcA
import Derived.Deep.RegionLaw
import Derived.ArgAppend
import Derived.Lib.SlBytesConst
namespace Go.Proofs.YtochnjbacglhbaaDoor
open Go.RowKit Go.IntWalk

theorem flat_len {α : Type} {f : α → List Int} {k : Nat} (hf : ∀ x, (f x).length = k) : ∀ l : List α, (l.flatMap f).length = k * l.length
  | [] => rfl
  | x :: l => by rw [List.flatMap_cons, List.length_append, hf, flat_len hf l, List.length_cons, Nat.mul_succ]; omega
theorem raw_len (m : Img) (hs : m.sec.length = m.data.length) : (rawI m).length = 10 + 4 * m.code.length + 5 * m.data.length + 2 * m.inn.length + 2 * m.out.length := by
  have hz : (m.data.zip m.sec).length = m.data.length := by rw [List.length_zip]; omega
  unfold rawI
  simp only [List.length_append, beB_len, flat_len (f := beB 4) (fun x => beB_len 4 x), flat_len (f := beB 2) (fun x => beB_len 2 x), flat_len (f := encD) (k := 5) (fun x => by unfold encD; rw [List.length_append, beB_len]; rfl), hz]
  simp only [List.length_cons, List.length_nil]
  omega
theorem beB_two {n : Int} : beB 2 n = [n / 256 % 256, n % 256] := rfl
theorem beB_four {x : Int} : beB 4 (x % 4294967296) = [x / 16777216 % 256, x / 65536 % 256, x / 256 % 256, x % 256] := by
  show [x % 4294967296 / 256 / 256 / 256 % 256, x % 4294967296 / 256 / 256 % 256, x % 4294967296 / 256 % 256, x % 4294967296 % 256] = _
  rw [show x % 4294967296 / 256 / 256 / 256 % 256 = x / 16777216 % 256 by omega, show x % 4294967296 / 256 / 256 % 256 = x / 65536 % 256 by omega, show x % 4294967296 / 256 % 256 = x / 256 % 256 by omega, show x % 4294967296 % 256 = x % 256 by omega]
theorem PutSt.add {V W' : World} {k n : Nat} {l q : List Int} {b' : Value} (hl : l.length ≤ k) (hq : q.length = n) (ho : Own W' V.heap.size 5 b' (l ++ q)) (hb : Below V.heap.size V W') : PutSt V (k + n) (l ++ q) b' W' :=
  ⟨ho, by rw [List.length_append]; omega, hb⟩
set_option maxRecDepth 100000 in
set_option maxHeartbeats 1000000 in
theorem wordBytes_is (x : Int) (w : World) :
    Calls Tryd.prog 37 #[.int .i32 x] w fun e w' => e = .returned (.slice (some ⟨w.heap.size, 0, none⟩) 4 4) ∧
      w.alloc (.cells #[.int .u8 (x / 16777216 % 256), .int .u8 (x / 65536 % 256), .int .u8 (x / 256 % 256), .int .u8 (x % 256)] 71) = w' := by
  go_enter Tryd.func37, Tryd.ntmps37
  go_wp2
  go_rounds 5
  go_ret
  exact ⟨rfl, rfl⟩
/-- A word's bytes, in a caller's words. -/
theorem wordBytes_by (x : Int) (w : World) : Calls Tryd.prog 37 #[.int .i32 x] w fun e w' => ∃ a, e = .returned (.slice a 4 4) ∧ By w' a 4 4 (beB 4 (x % 4294967296)) ∧ Below w.heap.size w w' := by
  refine (wordBytes_is x w).mono ?_
  rintro e w' ⟨rfl, rfl⟩
  refine ⟨_, rfl, ?_, (Below.refl _ _).alloc (Nat.le_refl _) _⟩
  rw [beB_four]
  exact By.lit (l := [x / 16777216 % 256, x / 65536 % 256, x / 256 % 256, x % 256]) w _ rfl (by unfold maxLen; simp) (Bd8.cons (by omega) (by omega) (Bd8.cons (by omega) (by omega) (Bd8.cons (by omega) (by omega) (Bd8.cons (by omega) (by omega) Bd8.nil)))) rfl
set_option maxHeartbeats 1000000 in
theorem imgFlag_is (b : Bool) (w : World) : Calls Tryd.prog 38 #[.bool b] w fun e w' => e = .returned (.int .u8 (if b then 1 else 0)) ∧ w = w' := by
  cases b
  all_goals
    go_enter Tryd.func38, Tryd.ntmps38
    go_wp2
    go_ret
    exact ⟨rfl, rfl⟩
set_option maxRecDepth 100000 in
set_option maxHeartbeats 1000000 in
theorem imgPair_is {V W : World} {k : Nat} {l : List Int} {b : Value} {n : Int} (h : PutSt V k l b W) (hk : k ≤ 1000000) : Calls Tryd.prog 36 #[b, .int .i64 n] W fun e W' => ∃ b', e = .returned b' ∧ PutSt V (k + 2) (l ++ beB 2 n) b' W' := by
  obtain ⟨i0, hi, hz0, hz1, hz2⟩ := info_parts infoU8
  have hl := h.len
  have ho := h.own
  have hb := h.bel
  have D := Lib.hid (show Bd8 [n / 256 % 256, n % 256] from Bd8.cons (by omega) (by omega) (Bd8.cons (by omega) (by omega) Bd8.nil))
  have e1 : IntKind.u8.wrap (n / 256) = n / 256 % 256 := by simp [IntKind.wrap, IntKind.bits, IntKind.signed]
  have e2 : IntKind.u8.wrap n = n % 256 := by simp [IntKind.wrap, IntKind.bits, IntKind.signed]
  clear h
  go_enter Tryd.func36, Tryd.ntmps36
  go_wp2_with (at_builtin; refine wpList_append_by rfl _ _ 28 rfl V.heap.size 5 i0 (.int .u8 0) Tryd.underlying28 hi hz0 hz1 hz2 rfl rfl (ho.below ((Below.refl _ _).alloc (Nat.le_refl _) _) (Nat.le_refl _)) rfl (By.lit _ 5 rfl (by unfold maxLen; simp) D.out (by simp)) (by omega) (by have := hb.size; simp; omega) (hb.alloc hb.size _) ?_; intro v' w1 ho1 hb1 hS)
  go_ret
  exact ⟨_, rfl, PutSt.add hl rfl ho1 hb1⟩
set_option maxRecDepth 100000 in
set_option maxHeartbeats 2000000 in
theorem imgPlaces_is {V W : World} {k n c : Nat} {a : Option Addr} {q l : List Int} {b : Value} (h : PutSt V k l b W) (hk : k ≤ 900000) (hq : Ws .i64 V a n c q) (hn : n ≤ 255) : Calls Tryd.prog 39 #[b, .slice a n c] W fun e W' => ∃ b', e = .returned b' ∧ PutSt V (k + 1 + 2 * n) (l ++ beB 1 n ++ q.flatMap (beB 2)) b' W' := by
  obtain ⟨i0, hi, hz0, hz1, hz2⟩ := info_parts infoU8
  have hl := h.len
  have HL := Lib.hid hl
  have ho := h.own
  have hb := h.bel
  have hlen := hq.len
  have D := Lib.hid (show Bd8 [(n : Int) % 256] from Bd8.cons (by omega) (by omega) Bd8.nil)
  have e1 : IntKind.u8.wrap (n : Int) = (n : Int) % 256 := by simp [IntKind.wrap, IntKind.bits, IntKind.signed]
  have HQ := Lib.hid hq
  clear h hq
  go_enter Tryd.func39, Tryd.ntmps39
  go_wp2_with (at_builtin; refine wpList_append_by rfl _ _ 28 rfl V.heap.size 5 i0 (.int .u8 0) Tryd.underlying28 hi hz0 hz1 hz2 rfl rfl (ho.below ((Below.refl _ _).alloc (Nat.le_refl _) _) (Nat.le_refl _)) rfl (By.lit _ 5 rfl (by unfold maxLen; simp) D.out (by simp)) (by omega) (by have := hb.size; simp; omega) (hb.alloc hb.size _) ?_; intro v' w1 ho1 hb1 hS)
  have S1 : PutSt V (k + 1) (l ++ beB 1 n) v' w1 := PutSt.add HL.out rfl ho1 hb1
  clear ho hb hl ho1 hb1 hS
  go_loopw [0, 15] (fun b i wr => ∃ j : Nat, j ≤ n ∧ i = .int .i64 j ∧ PutSt V (k + 1 + 2 * j) (l ++ beB 1 n ++ (q.take j).flatMap (beB 2)) b wr) (fun _ i _ => n - (intOf i).toNat)
  case atStart => exact ⟨0, by omega, rfl, by simpa using S1⟩
  case round =>
    clear S1
    obtain ⟨j, hj, rfl, R⟩ := hrel
    by_cases hlt : j < n
    · have hlt' : (j : Int) < n := by omega
      obtain ⟨b, off, rfl, dd⟩ := (HQ.out.keep R.bel).lie (by omega)
      have d := dd j hlt
      clear dd
      have hjl : j < q.length := by omega
      have HS := Lib.hid (flat_snoc (f := beB 2) hjl)
      rw [byAt_eq hjl] at HS
      generalize byAt q j = x at *
      go_wp2_with (go_at_call 36; ((with_reducible refine (imgPair_is R (by omega)).mono ?_); rintro e wr2 ⟨b2, rfl, R2⟩))
      go_roundw
      case rel => exact ⟨j + 1, by omega, by go_num, by
                    rw [HS.out, ← List.append_assoc, show k + 1 + 2 * (j + 1) = k + 1 + 2 * j + 2 by omega]
                    exact R2⟩
      case measure => simp [intOf]; omega
    · obtain rfl : n = j := by omega
      rw [flat_all (f := beB 2) (l := q) (by omega)] at R
      go_wp2
      go_ret
      exact ⟨_, rfl, R⟩
theorem By.cellAt {w : World} {ad : Addr} {n c : Nat} {l : List Int} (h : By w (some ad) n c l) {j : Nat} {u : Value} (hj : (l.map (Value.int .u8))[j]? = some u) : w.cell? (ad.add j) = some u := by
  have hjk : j < l.length := by
    have := (List.getElem?_eq_some_iff.1 hj).1
    simpa using this
  obtain ⟨b, off, e', hc⟩ := h.lie (by have := h.len; omega)
  obtain rfl : ad = ⟨b, off, none⟩ := by simpa using e'
  rw [by_add, hc j (by have := h.len; omega)]
  rw [List.getElem?_map, List.getElem?_eq_getElem hjk, byAt_eq hjk] at hj
  exact hj
/-- pair behind bytes that are not the call's own and have no room: new ones. -/
theorem imgPair_new {V W : World} {g : Nat} {l : List Int} {n : Int} (hB : By W (some ⟨g, 0, none⟩) 4 4 l) (hb : Below V.heap.size V W) : Calls Tryd.prog 36 #[.slice (some ⟨g, 0, none⟩) 4 4, .int .i64 n] W fun e W' => ∃ b', e = .returned b' ∧ PutSt V 6 (l ++ beB 2 n) b' W' := by
  obtain ⟨i0, hi, hz0, hz1, hz2⟩ := info_parts infoU8
  have D := Lib.hid (show Bd8 [n / 256 % 256, n % 256] from Bd8.cons (by omega) (by omega) (Bd8.cons (by omega) (by omega) Bd8.nil))
  have HL := Lib.hid hB.len
  have HB := Lib.hid hB
  have HV := Lib.hid hb
  clear hB hb
  go_enter Tryd.func36, Tryd.ntmps36
  go_wp2_with (at_builtin; refine wpList_append_grows _ rfl _ _ 28 rfl 5 i0 (.int .u8 0) 1 1 Tryd.underlying28 hi hz0 hz1 hz2 rfl (by decide) (some ⟨g, 0, none⟩) 4 4 (l.map (Value.int .u8)) rfl (fun h => by cases h) (by rw [List.length_map, HL.out]) (fun b hb j u hj => by cases hb; exact (HB.out.keep ((Below.refl _ _).alloc (Nat.le_refl _) _) (Nat.le_refl _)).cellAt hj) ⟨W.heap.size, 0, none⟩ 2 2 ([n / 256 % 256, n % 256].map (Value.int .u8)) rfl rfl (fun j u hj => (By.lit W 5 rfl (by unfold maxLen; simp) D.out (by simp)).cellAt hj) (fun u hu => by obtain ⟨x, _, rfl⟩ := List.mem_map.1 hu; rfl) (by decide) (by unfold maxLen; decide) (by decide) ?_; intro v' w1 ho hg)
  go_ret
  refine ⟨_, rfl, ?_⟩
  have h1 := HV.out.alloc HV.out.size (.cells #[.int .u8 (n / 256 % 256), .int .u8 (n % 256)] 5)
  have h2 := h1.grown hg (by simp; have := HV.out.size; omega) (fun q hq => by cases hq)
  refine (show PutSt V (4 + 2) _ _ _ from ?_)
  refine PutSt.add (k := 4) (by rw [HL.out]; exact Nat.le_refl _) rfl (Own.mono (base := W.heap.size + 1) ?_ (by have := HV.out.size; omega)) h2
  unfold Own
  rw [List.length_append, HL.out, List.map_append]
  have ho' : w1.ownsRow (W.heap.size + 1) 5 1 v' 6 (l.map (Value.int .u8) ++ [.int .u8 (n / 256 % 256), .int .u8 (n % 256)]) := by simpa using ho
  exact ho'
/-- A word's bytes are put on. -/
theorem PutSt.own4 {V W : World} {k : Nat} {l : List Int} {b : Value} (h : PutSt V k l b W) {W' : World} (hb : Below W.heap.size W W') : Own W' V.heap.size 5 b l := h.own.below hb (Nat.le_refl _)
section
variable {w : World} {a0 a1 a2 a3 a4 : Option Addr} {n0 n1 n2 n3 n4 c0 c1 c2 c3 c4 : Nat} {m : Img}
set_option maxRecDepth 100000 in
set_option maxHeartbeats 4000000 in
theorem imgWritten_is (h : ImgAt w a0 n0 c0 a1 n1 c1 a2 n2 c2 a3 n3 c3 a4 n4 c4 m) (ht : Fits m) (hk : n0 ≤ 20000 ∧ n1 ≤ 20000) : Calls Tryd.prog 17 #[.agg #[.slice a0 n0 c0, .slice a1 n1 c1, .slice a2 n2 c2, .slice a3 n3 c3, .slice a4 n4 c4]] w fun e w' => ∃ b, e = .returned b ∧ Own w' w.heap.size 5 b (rawI m) ∧ Below w.heap.size w w' := by
  obtain ⟨i0, hi, hz0, hz1, hz2⟩ := info_parts infoU8
  have al := (Below.refl w.heap.size w).alloc (Nat.le_refl _) (.cells #[.slice a0 n0 c0, .slice a1 n1 c1, .slice a2 n2 c2, .slice a3 n3 c3, .slice a4 n4 c4] 27)
  have AL := Lib.hid al
  have bz := BlkAt.new w 27 #[.slice a0 n0 c0, .slice a1 n1 c1, .slice a2 n2 c2, .slice a3 n3 c3, .slice a4 n4 c4]
  have H := Lib.hid (h.keep al)
  have F0 := ht.nc
  have F1 := ht.nd
  have F2 := ht.sec
  have F3 := ht.ni
  have F4 := ht.no
  have l0 := h.code.len
  have l1 := h.data.len
  have l2 := h.sec.len
  have l3 := h.inn.len
  have l4 := h.out.len
  have T0 := Lib.hid ht.code
  obtain ⟨k0, k1⟩ := hk
  have hraw : rawI m = ((((([65, 83, 84, 49] ++ beB 2 n0) ++ m.code.flatMap (beB 4)) ++ beB 2 n1) ++ (m.data.zip m.sec).flatMap encD) ++ beB 1 n3 ++ m.inn.flatMap (beB 2)) ++ beB 1 n4 ++ m.out.flatMap (beB 2) := by
    unfold rawI
    rw [l0, l1, l3, l4]
    simp only [List.append_assoc]
  have hzl : (m.data.zip m.sec).length = n1 := by rw [List.length_zip]; omega
  have hze : ∀ (j : Nat) (hj : j < (m.data.zip m.sec).length), (m.data.zip m.sec)[j] = (byAt m.data j, el m.sec j) := by
    intro j hj
    rw [List.getElem_zip, byAt_eq (by omega), ← el_eq (by omega)]
  have HR := Lib.hid hraw
  clear h ht hraw al
  go_enter Tryd.func17, Tryd.ntmps17
  go_upto_region 1 with (fail)
  obtain ⟨q, hq⟩ : ∃ q, w.heap.size = q := ⟨_, rfl⟩
  generalize w.alloc (.cells #[.slice a0 n0 c0, .slice a1 n1 c1, .slice a2 n2 c2, .slice a3 n3 c3, .slice a4 n4 c4] 27) = V at *
  rw [hq] at bz AL
  simp only [hq]
  have BQ := Lib.hid bz
  have kc := Lib.run_convert_bytes_const (P := Tryd.prog) V 28 5 #[.int .u8 65, .int .u8 83, .int .u8 84, .int .u8 49] 4 4 Tryd.underlying28 Tryd.underlying5
  have S0 := Lib.hid (By.litm V 5 (4, 5) (n := 4) (l := [65, 83, 84, 49]) rfl (by unfold maxLen; simp) (Bd8.cons (by decide) (by decide) (Bd8.cons (by decide) (by decide) (Bd8.cons (by decide) (by decide) (Bd8.cons (by decide) (by decide) Bd8.nil)))) (cs := #[.int .u8 65, .int .u8 83, .int .u8 84, .int .u8 49]) rfl)
  have B0 := Lib.hid ((Below.refl V.heap.size V).alloc (Nat.le_refl _) (.cells #[.int .u8 65, .int .u8 83, .int .u8 84, .int .u8 49] 5 (4, 5)))
  have p0 := (BQ.out.keep B0.out).cell 0
  have HQ := Lib.hid hq
  clear bz hq
  go_wp2_with (go_at_call 36; ((with_reducible refine (imgPair_new (n := (n0 : Int)) S0.out B0.out).mono ?_); rintro e w2 ⟨b1, rfl, S1⟩); have p1 := (BQ.out.keep S1.bel).cell 0)
  clear S0 B0 p0 kc
  obtain ⟨L1, hL1⟩ : ∃ L, [65, 83, 84, 49] ++ beB 2 (n0 : Int) = L := ⟨_, rfl⟩
  rw [hL1] at S1
  have E1 := Lib.hid hL1
  clear hL1
  go_loopw [3, 17] (fun b i wr => ∃ j : Nat, j ≤ n0 ∧ i = .int .i64 j ∧ PutSt V (6 + 4 * j) (L1 ++ (m.code.take j).flatMap (beB 4)) b wr) (fun _ i _ => n0 - (intOf i).toNat)
  case atStart => exact ⟨0, by omega, rfl, by simpa using S1⟩
  case round =>
    clear S1 p1
    obtain ⟨j, hj, rfl, R⟩ := hrel
    by_cases hlt : j < n0
    · have hlt' : (j : Int) < n0 := by omega
      have d := (H.out.code.keep R.bel).lie (by omega)
      obtain ⟨b, off, rfl, dd⟩ := d
      have d := dd j hlt
      clear dd
      have hjl : j < m.code.length := by omega
      have hx := T0.out _ (List.getElem_mem hjl)
      rw [byAt_eq hjl] at hx
      have HS := Lib.hid (flat_snoc (f := beB 4) hjl)
      rw [byAt_eq hjl] at HS
      generalize byAt m.code j = x at *
      have HX := Lib.hid (show wrap32 x % 4294967296 = x by unfold wrap32; omega)
      have RO := Lib.hid R
      have hl := R.len
      have hs := R.bel.size
      clear R
      go_wp2_with (first
        | (go_at_call 37; ((with_reducible refine (wordBytes_by _ _).mono ?_); rintro e wr2 ⟨aq, rfl, hq4, hb4⟩); rw [HX.out] at hq4; have Q4 := Lib.hid hq4; have B4 := Lib.hid hb4; clear hq4 hb4)
        | (at_builtin; refine wpList_append_by rfl _ _ 28 rfl V.heap.size 5 i0 (.int .u8 0) Tryd.underlying28 hi hz0 hz1 hz2 rfl rfl (RO.out.own4 B4.out) rfl Q4.out (by omega) (Nat.le_trans hs B4.out.size) (RO.out.bel.trans (B4.out.mono hs)) ?_; intro v' w8 ho8 hb8 hS8))
      go_roundw
      case rel => exact ⟨j + 1, by omega, by go_num, by
                    rw [HS.out, ← List.append_assoc, show 6 + 4 * (j + 1) = 6 + 4 * j + 4 by omega]
                    exact PutSt.add hl (beB_len _ _) ho8 hb8⟩
      case measure => simp [intOf]; omega
    · obtain rfl : n0 = j := by omega
      rw [flat_all (f := beB 4) (l := m.code) (by omega)] at R
      have p1 := (BQ.out.keep R.bel).cell 1
      go_wp2_with (go_at_call 36; ((with_reducible refine (imgPair_is (n := (n1 : Int)) R (by omega)).mono ?_); rintro e w3 ⟨b3, rfl, S2⟩); have p2 := (BQ.out.keep S2.bel).cell 1)
      clear p1 R
      obtain ⟨L2, hL2⟩ : ∃ L, L1 ++ m.code.flatMap (beB 4) ++ beB 2 (n1 : Int) = L := ⟨_, rfl⟩
      rw [hL2] at S2
      have E2 := Lib.hid hL2
      clear hL2
      go_loopw [3, 35] (fun b i wr => ∃ j : Nat, j ≤ n1 ∧ i = .int .i64 j ∧ PutSt V (6 + 4 * n0 + 2 + 5 * j) (L2 ++ ((m.data.zip m.sec).take j).flatMap encD) b wr) (fun _ i _ => n1 - (intOf i).toNat)
      case atStart => exact ⟨0, by omega, rfl, by simpa using S2⟩
      case round =>
        clear S2 p2
        obtain ⟨j, hj, rfl, R⟩ := hrel
        by_cases hlt : j < n1
        · have hlt' : (j : Int) < n1 := by omega
          obtain ⟨b, off, rfl, dd⟩ := (H.out.data.keep R.bel).lie (by omega)
          have d := dd j hlt
          clear dd
          have hjl : j < m.data.length := by omega
          have HS := Lib.hid (flat_snoc (f := encD) (l := m.data.zip m.sec) (j := j) (by omega))
          rw [hze j (by omega)] at HS
          obtain ⟨b8, off8, rfl, -⟩ := (H.out.sec.keep R.bel).boo (show j < n2 by omega)
          generalize byAt m.data j = x at *
          have hlt2 : (j : Int) < n2 := by omega
          have HV := Lib.hid (show encD (x, el m.sec j) = beB 4 (x % 4294967296) ++ [if el m.sec j then 1 else 0] from rfl)
          have RO := Lib.hid R
          have hl := R.len
          have hs := R.bel.size
          have HC := Lib.hid (fun W (k : Below V.heap.size V W) => (H.out.sec.keep k).boo (show j < n2 by omega))
          have D0 : Bd8 [if el m.sec j then 1 else 0] := by cases el m.sec j <;> exact Bd8.cons (by decide) (by decide) Bd8.nil
          have D1 := Lib.hid D0
          clear R D0 hze
          generalize el m.sec j = z at *
          go_wp2_with (first
            | (go_at_call 37; ((with_reducible refine (wordBytes_by _ _).mono ?_); rintro e wr2 ⟨aq, rfl, hq4, hb4⟩); have Q4 := Lib.hid hq4; have B4 := Lib.hid hb4; clear hq4 hb4)
            | (go_at_call 38; ((with_reducible refine (imgFlag_is _ _).mono ?_); rintro e wr2 ⟨rfl, rfl⟩))
            | (at_builtin; refine wpList_append_by rfl _ _ 28 rfl V.heap.size 5 i0 (.int .u8 0) Tryd.underlying28 hi hz0 hz1 hz2 rfl rfl (RO.out.own4 B4.out) rfl Q4.out (by omega) (Nat.le_trans hs B4.out.size) (RO.out.bel.trans (B4.out.mono hs)) ?_; intro v8 w8 ho8 hb8 hS8; have R2 := Lib.hid (PutSt.add hl (beB_len _ _) ho8 hb8); clear ho8 hb8; have p2 := (BQ.out.keep R2.out.bel).cell 2; obtain ⟨bq, oq, eq8, c2⟩ := HC.out _ R2.out.bel; cases eq8)
            | (at_builtin; refine wpList_append_by rfl _ _ 28 rfl V.heap.size 5 i0 (.int .u8 0) Tryd.underlying28 hi hz0 hz1 hz2 rfl rfl (R2.out.own.below ((Below.refl _ _).alloc (Nat.le_refl _) _) (Nat.le_refl _)) rfl (By.lit (l := [if z then 1 else 0]) _ 5 rfl (by unfold maxLen; simp) D1.out rfl) (by have := R2.out.len; omega) (by simp; omega) (R2.out.bel.alloc hS8 _) ?_; intro v9 w9 ho9 hb9 hS9))
          go_roundw
          case rel => exact ⟨j + 1, by omega, by go_num, by
                        rw [HS.out, HV.out, ← List.append_assoc, ← List.append_assoc, show 6 + 4 * n0 + 2 + 5 * (j + 1) = 6 + 4 * n0 + 2 + 5 * j + 4 + 1 by omega]
                        exact PutSt.add R2.out.len rfl ho9 hb9⟩
          case measure => simp [intOf]; omega
        · obtain rfl : n1 = j := by omega
          rw [flat_all (f := encD) (l := m.data.zip m.sec) (by omega)] at R
          have R' : PutSt V (6 + 4 * n0 + 2 + 5 * n1) (L2 ++ (m.data.zip m.sec).flatMap encD) u3 wr.drew := ⟨R.own.below (Below.refl _ _).drew (Nat.le_refl _), R.len, R.bel.drew⟩
          have RO := Lib.hid R'
          have p3 := (BQ.out.keep R'.bel).cell 3
          have p4 := (BQ.out.keep R'.bel).cell 4
          have HI := Lib.hid H.out.inn
          have HO := Lib.hid H.out.out
          go_upto_region 14 with (fail)
          clear R R'
          go_region_law (first
            | (go_simp; go_at_call 39; ((with_reducible refine (imgPlaces_is RO.out (by omega) HI.out (by omega)).mono ?_); rintro e w5 ⟨b5, rfl, S3⟩); have p5 := (BQ.out.keep S3.bel).cell 4; have R3 := Lib.hid S3; clear S3)
            | (go_simp; go_at_call 39; ((with_reducible refine (imgPlaces_is R3.out (by omega) HO.out (by omega)).mono ?_); rintro e w6 ⟨b6, rfl, S4⟩); have R4 := Lib.hid S4; clear S4))
          all_goals
            go_wp2
            go_ret
            have A2 : Below w.heap.size w V := by rw [HQ.out]; exact AL.out
            refine ⟨_, rfl, ?_, A2.trans (R4.out.bel.mono A2.size)⟩
            rw [HR.out, E1.out, E2.out]
            exact R4.out.own.mono A2.size
set_option maxRecDepth 100000 in
set_option maxHeartbeats 2000000 in
theorem imgPut_no {e0 : Int} (h : ImgAt w a0 n0 c0 a1 n1 c1 a2 n2 c2 a3 n3 c3 a4 n4 c4 m) (he : chkI m = e0) (hne : e0 ≠ 0) : Calls Tryd.prog 8 #[.agg #[.slice a0 n0 c0, .slice a1 n1 c1, .slice a2 n2 c2, .slice a3 n3 c3, .slice a4 n4 c4]] w fun e w' => RetOwnE w 5 [] e0 e w' := by
  have al := (Below.refl w.heap.size w).alloc (Nat.le_refl _) (.cells #[.slice a0 n0 c0, .slice a1 n1 c1, .slice a2 n2 c2, .slice a3 n3 c3, .slice a4 n4 c4] 27)
  have AL := Lib.hid al
  have K := Lib.hid (fun W (k : Below w.heap.size w W) => imgCheck_is (h.keep k))
  rw [he] at K
  have hq : (e0 != 0) = true := by simpa using hne
  clear h al he hne
  go_enter Tryd.func8, Tryd.ntmps8
  go_wp2_with (go_at_call 13; ((with_reducible refine (K.out _ AL.out).mono ?_); rintro e w1 ⟨rfl, hb⟩))
  go_ret2
  exact retNone w _ _ (AL.out.trans (hb.mono AL.out.size))
set_option maxRecDepth 100000 in
set_option maxHeartbeats 2000000 in
theorem imgPut_ok (h : ImgAt w a0 n0 c0 a1 n1 c1 a2 n2 c2 a3 n3 c3 a4 n4 c4 m) (hL : FoursLaid w) (he : chkI m = 0) (ht : Fits m) : Calls Tryd.prog 8 #[.agg #[.slice a0 n0 c0, .slice a1 n1 c1, .slice a2 n2 c2, .slice a3 n3 c3, .slice a4 n4 c4]] w fun e w' => RetOwnE w 5 (sealOf (rawI m)) 0 e w' := by
  have al := (Below.refl w.heap.size w).alloc (Nat.le_refl _) (.cells #[.slice a0 n0 c0, .slice a1 n1 c1, .slice a2 n2 c2, .slice a3 n3 c3, .slice a4 n4 c4] 27)
  have AL := Lib.hid al
  have bz := BlkAt.new w 27 #[.slice a0 n0 c0, .slice a1 n1 c1, .slice a2 n2 c2, .slice a3 n3 c3, .slice a4 n4 c4]
  have BZ := Lib.hid bz
  have hc := chk_ok he
  have l0 := h.code.len
  have l1 := h.data.len
  have K := Lib.hid (fun W (k : Below w.heap.size w W) => imgCheck_is (h.keep k))
  have KW := Lib.hid (fun W (k : Below w.heap.size w W) => imgWritten_is (h.keep k) ht (by omega))
  have l3 := h.inn.len
  have l4 := h.out.len
  have hlen := Lib.hid (show (rawI m).length ≤ 140737488355000 by rw [raw_len m ht.sec]; omega)
  rw [he] at K
  clear h al he bz hc l0 l1 l3 l4
  have HLd := Lib.hid hL
  clear hL
  go_enter Tryd.func8, Tryd.ntmps8
  go_wp2_with (first
    | (go_at_call 13; ((with_reducible refine (K.out _ AL.out).mono ?_); rintro e w1 ⟨rfl, hb⟩); have B1 := Lib.hid (AL.out.trans (hb.mono AL.out.size)); have bq := BZ.out.keep hb; have p0 := bq.cell 0; have p1 := bq.cell 1; have p2 := bq.cell 2; have p3 := bq.cell 3; have p4 := bq.cell 4; clear hb bq)
    | (go_at_call 17; ((with_reducible refine (KW.out _ B1.out).mono ?_); rintro e w2 ⟨b2, rfl, ho2, hb2⟩); obtain ⟨aq, nq, cq, rfl, hnq, hBq⟩ := ho2.byn (raw_bd m); have Y2 := Lib.hid hBq; have B2 := Lib.hid (B1.out.trans (hb2.mono B1.out.size)); clear ho2 hb2 hBq)
    | (go_at_call 16; ((with_reducible refine (crcSeal_is _ _ _ _ _ Y2.out (HLd.out.below B2.out HLd.out.lt) (by have := hlen.out; omega)).mono ?_); rintro e w9 ⟨v9, rfl, o9, hb9⟩)))
  go_ret2
  exact ⟨_, rfl, o9.mono B2.out.size, B2.out.trans (hb9.mono B2.out.size)⟩
end
end Go.Proofs.YtochnjbacglhbaaDoor
