/- The document's own images (astrolaberef22): put, Put. -/
import Derived.Test.YtochnjbacglhbaaDoorImgC
import Derived.Test.YtochnjbacglhbaaDoorCrcR
namespace Go.Proofs.YtochnjbacglhbaaDoor
open Go.RowKit Go.IntWalk

/-- Without its last k bytes. -/
def sh (x : Int) : Nat → Int
  | 0 => x
  | k + 1 => sh x k / 256
theorem sh_bd {x : Int} (h0 : 0 ≤ x) (h1 : x < 4294967296) : ∀ k, 0 ≤ sh x k ∧ sh x k < 4294967296
  | 0 => ⟨h0, h1⟩
  | k + 1 => by
    have := sh_bd h0 h1 k
    show 0 ≤ sh x k / 256 ∧ sh x k / 256 < 4294967296
    omega
theorem beB_sh (x : Int) (t j : Nat) : beB (t + 1) (sh x j) = beB t (sh x (j + 1)) ++ [sh x j % 256] := rfl
set_option maxRecDepth 100000 in
set_option maxHeartbeats 2000000 in
theorem refPutN_is {w : World} {base n : Nat} {v : Value} {l : List Int} {x : Int} (ho : Own w base 5 v l) (hn : n ≤ 4) (hlen : l.length ≤ 70368744177664) (hbs : base ≤ w.heap.size) :
    Calls Tryd.prog 18 #[v, .int .i64 x, .int .i64 n] w fun e w' => ∃ v', e = .returned v' ∧ Own w' base 5 v' (l ++ beB n (x % 4294967296)) ∧ Below base w w' := by
  obtain ⟨i0, hi, hz0, hz1, hz2⟩ := info_parts infoU8
  have HL := Lib.hid hlen
  have hb := Below.refl base w
  obtain ⟨X, hX⟩ : ∃ X, x % 4294967296 = X := ⟨_, rfl⟩
  have SB := Lib.hid (sh_bd (x := X) (by omega) (by omega))
  clear hlen
  go_enter Tryd.func18, Tryd.ntmps18
  go_wp2
  go_loopw [0, 7] (fun b i wr => ∃ j : Nat, j ≤ n ∧ i = .int .i64 ((j : Int) - 1) ∧ Own wr base 5 b (l ++ beB (n - j) (sh X j)) ∧ Below base w wr ∧ base ≤ wr.heap.size) (fun _ i _ => (intOf i + 1).toNat)
  case atStart => exact ⟨n, by omega, rfl, by rw [Nat.sub_self]; show Own _ _ _ _ (l ++ []); rw [List.append_nil]; exact ho, hb, hbs⟩
  case round =>
    clear hb ho hbs
    obtain ⟨j, hj, rfl, ho, hb, hS⟩ := hrel
    by_cases hlt : 0 < j
    · obtain ⟨t, rfl⟩ : ∃ t, j = t + 1 := ⟨j - 1, by omega⟩
      have e1 : ((t + 1 : Nat) : Int) - 1 = t := by omega
      rw [e1]
      go_wp2_with (go_at_call 40; refine (refMod_is x 4294967296 _ _ (by omega) (by omega) hX).mono ?_; rintro e w' ⟨rfl, rfl⟩)
      go_loop [8, 9] (fun y k => ∃ q : Nat, q ≤ t ∧ k = .int .i64 q ∧ y = .int .i64 (sh X q)) (fun _ k => t - (intOf k).toNat)
      case atStart => exact ⟨0, by omega, rfl, rfl⟩
      case round =>
        obtain ⟨q, hq, rfl, rfl⟩ := hrel
        have B := SB.out q
        by_cases hqt : q < t
        · have hqt' : (q : Int) < t := by omega
          have HN := Lib.hid (show sh X (q + 1) = sh X q / 256 from rfl)
          generalize sh X q = y at *
          go_wp2
          go_round
          case rel => exact ⟨q + 1, by omega, by go_num, by rw [HN.out]⟩
          case measure => simp [intOf]; omega
        · obtain rfl : q = t := by omega
          obtain ⟨g, hg⟩ : ∃ g, l ++ beB (n - q) (sh X q) = g := ⟨_, rfl⟩
          have HG := Lib.hid hg
          have HE := Lib.hid (show l ++ beB (n - q) (sh X q) = (l ++ beB (n - (q + 1)) (sh X (q + 1))) ++ [sh X q % 256] by
            rw [show n - q = (n - (q + 1)) + 1 by omega, beB_sh, List.append_assoc])
          have HN := Lib.hid (show (l ++ beB (n - (q + 1)) (sh X (q + 1))).length + 1 ≤ 140737488355328 by rw [List.length_append, beB_len]; have := HL.out; omega)
          rw [hg] at HE
          clear hg
          generalize l ++ beB (n - (q + 1)) (sh X (q + 1)) = m at *
          generalize hy : sh X q = y at *
          have D := Lib.hid (show Bd8 [y % 256] from Bd8.cons (by omega) (by omega) Bd8.nil)
          go_wp2_with (at_builtin; refine wpList_append_by rfl _ _ 28 rfl base 5 i0 (.int .u8 0) Tryd.underlying28 hi hz0 hz1 hz2 rfl rfl (ho.below ((Below.refl _ _).alloc (Nat.le_refl _) _) (Nat.le_refl _)) rfl (By.lit _ 5 rfl (by unfold maxLen; simp) D.out rfl) HN.out (by simp; omega) (hb.alloc hS _) ?_; intro v' w1 ho hb hS)
          go_roundw
          case rel => exact ⟨q, by omega, by go_num, by rw [hy, HG.out, HE.out]; exact ho, hb, hS⟩
          case measure => simp [intOf]
    · obtain rfl : j = 0 := by omega
      go_wp2
      go_ret
      exact ⟨_, rfl, by rw [hX]; exact ho, hb⟩
/-- Bytes that are put on: what was there since W stays. -/
structure PutSt (V : World) (k : Nat) (l : List Int) (b : Value) (W : World) : Prop where
  own : Own W V.heap.size 5 b l
  len : l.length ≤ k
  bel : Below V.heap.size V W
theorem PutSt.num {V W : World} {k n : Nat} {l : List Int} {b : Value} {x y z : Int} (h : PutSt V k l b W) (hz : z = (n : Int)) (hn : n ≤ 4) (hk : k ≤ 1000000) (hx : x % 4294967296 = y) : Calls Tryd.prog 18 #[b, .int .i64 x, .int .i64 z] W fun e W' => ∃ b', e = .returned b' ∧ PutSt V (k + n) (l ++ beB n y) b' W' := by
  subst hz hx
  have hl := h.len
  refine (refPutN_is h.own hn (by omega) h.bel.size).mono ?_
  rintro e W' ⟨b', rfl, ho, hb⟩
  exact ⟨b', rfl, ho, by rw [List.length_append, beB_len]; omega, h.bel.trans hb⟩
theorem flat_snoc {α : Type} {f : α → List Int} {l : List α} {j : Nat} (hj : j < l.length) : (l.take (j + 1)).flatMap f = (l.take j).flatMap f ++ f l[j] := by
  rw [List.take_succ_eq_append_getElem hj, List.flatMap_append]
  simp
theorem flat_all {α : Type} {f : α → List Int} {l : List α} {j : Nat} (hj : l.length = j) : (l.take j).flatMap f = l.flatMap f := by rw [← hj, List.take_length]
theorem flat_bd {α : Type} {f : α → List Int} (hf : ∀ x, Bd8 (f x)) : ∀ l : List α, Bd8 (l.flatMap f)
  | [] => Bd8.nil
  | x :: l => (hf x).append (flat_bd hf l)
theorem encD_bd (q : Int × Bool) : Bd8 (encD q) := (beB_bd _ _).append (by cases q.2 <;> exact Bd8.cons (by decide) (by decide) Bd8.nil)
theorem raw_bd (m : Img) : Bd8 (rawI m) :=
  (Bd8.cons (by decide) (by decide) (Bd8.cons (by decide) (by decide) (Bd8.cons (by decide) (by decide) (Bd8.cons (by decide) (by decide) Bd8.nil)))).append ((beB_bd _ _).append ((flat_bd (beB_bd 4) _).append ((beB_bd _ _).append ((flat_bd encD_bd _).append ((beB_bd _ _).append ((flat_bd (beB_bd 2) _).append ((beB_bd _ _).append (flat_bd (beB_bd 2) _))))))))
section
variable {w : World} {a0 a1 a2 a3 a4 : Option Addr} {n0 n1 n2 n3 n4 c0 c1 c2 c3 c4 : Nat} {m : Img}
set_option maxRecDepth 100000 in
set_option maxHeartbeats 2000000 in
theorem refPut22_no {e0 : Int} (h : ImgAt w a0 n0 c0 a1 n1 c1 a2 n2 c2 a3 n3 c3 a4 n4 c4 m) (he : chkI m = e0) (hne : e0 ≠ 0) : Calls Tryd.prog 9 #[.agg #[.slice a0 n0 c0, .slice a1 n1 c1, .slice a2 n2 c2, .slice a3 n3 c3, .slice a4 n4 c4]] w fun e w' => RetOwnE w 5 [] e0 e w' := by
  have al := (Below.refl w.heap.size w).alloc (Nat.le_refl _) (.cells #[.slice a0 n0 c0, .slice a1 n1 c1, .slice a2 n2 c2, .slice a3 n3 c3, .slice a4 n4 c4] 27)
  have AL := Lib.hid al
  have K := Lib.hid (fun W (k : Below w.heap.size w W) => refCheck22_is (h.keep k))
  rw [he] at K
  clear h al he
  go_enter Tryd.func9, Tryd.ntmps9
  go_wp2_with (go_at_call 14; ((with_reducible refine (K.out _ AL.out).mono ?_); rintro e w1 ⟨rfl, hb⟩))
  go_ret2
  exact retNone w _ _ (AL.out.trans (hb.mono AL.out.size))
set_option maxRecDepth 100000 in
set_option maxHeartbeats 2000000 in
theorem refPut22_ok (h : ImgAt w a0 n0 c0 a1 n1 c1 a2 n2 c2 a3 n3 c3 a4 n4 c4 m) (he : chkI m = 0) (ht : Fits m) : Calls Tryd.prog 9 #[.agg #[.slice a0 n0 c0, .slice a1 n1 c1, .slice a2 n2 c2, .slice a3 n3 c3, .slice a4 n4 c4]] w fun e w' => RetOwnE w 5 (sealOf (rawI m)) 0 e w' := by
  obtain ⟨i0, hi, hz0, hz1, hz2⟩ := info_parts infoU8
  have al := (Below.refl w.heap.size w).alloc (Nat.le_refl _) (.cells #[.slice a0 n0 c0, .slice a1 n1 c1, .slice a2 n2 c2, .slice a3 n3 c3, .slice a4 n4 c4] 27)
  have AL := Lib.hid al
  have K := Lib.hid (fun W (k : Below w.heap.size w W) => refCheck22_is (h.keep k))
  rw [he] at K
  clear al he
  go_enter Tryd.func9, Tryd.ntmps9
  go_upto_region 5 with (first | (go_at_call 14; ((with_reducible refine (K.out _ AL.out).mono ?_); rintro e w1 ⟨rfl, hb⟩)))
  have bz := (BlkAt.new w 27 #[.slice a0 n0 c0, .slice a1 n1 c1, .slice a2 n2 c2, .slice a3 n3 c3, .slice a4 n4 c4]).keep hb
  have BB := AL.out.trans (hb.mono AL.out.size)
  have H := Lib.hid (h.keep BB)
  have S0 : PutSt w1 4 [65, 83, 84, 49] (.slice (some ⟨w1.heap.size, 0, none⟩) 4 4) (w1.alloc (.cells #[.int .u8 65, .int .u8 83, .int .u8 84, .int .u8 49] 5)) := ⟨Own.lit w1 5 (Nat.le_refl _) [65, 83, 84, 49] (by decide) _ rfl, by decide, (Below.refl _ _).alloc (Nat.le_refl _) _⟩
  have F0 := ht.nc
  have F1 := ht.nd
  have F2 := ht.sec
  have F3 := ht.ni
  have F4 := ht.no
  have l0 := h.code.len
  have l1 := h.data.len
  have l2 := h.sec.len
  have l3 := h.inn.len
  have l4 := h.out.len
  have T0 := Lib.hid ht.code
  have T1 := Lib.hid ht.data
  have T3 := Lib.hid ht.inn
  have T4 := Lib.hid ht.out
  have hraw : rawI m = (((((((([65, 83, 84, 49] ++ beB 2 n0) ++ m.code.flatMap (beB 4)) ++ beB 2 n1) ++ (m.data.zip m.sec).flatMap encD) ++ beB 1 n3) ++ m.inn.flatMap (beB 2)) ++ beB 1 n4) ++ m.out.flatMap (beB 2)) := by
    unfold rawI
    rw [l0, l1, l3, l4]
    simp only [List.append_assoc]
  have hrb := Lib.hid (raw_bd m)
  have hzl : (m.data.zip m.sec).length = n1 := by rw [List.length_zip]; omega
  have hze : ∀ (j : Nat) (hj : j < (m.data.zip m.sec).length), (m.data.zip m.sec)[j] = (byAt m.data j, el m.sec j) := by
    intro j hj
    rw [List.getElem_zip, byAt_eq (by omega), ← el_eq (by omega)]
  rw [hraw] at hrb
  have HR := Lib.hid hraw
  clear h ht hraw hb K AL
  obtain ⟨q, hq⟩ : ∃ q, w.heap.size = q := ⟨_, rfl⟩
  rw [hq] at bz
  simp only [hq]
  have BQ := Lib.hid bz
  have B2 := Lib.hid BB
  generalize w1.alloc (.cells #[.int .u8 65, .int .u8 83, .int .u8 84, .int .u8 49] 5) = W0 at *
  generalize Value.slice (some ⟨w1.heap.size, 0, none⟩) 4 4 = b0 at *
  have p0 := (BQ.out.keep S0.bel).cell 0
  clear bz BB hq
  go_wp2_with (go_at_call 18; ((with_reducible refine (S0.num (n := 2) (y := (n0 : Int)) (by omega) (by omega) (by omega) (by omega)).mono ?_); rintro e w2 ⟨b1, rfl, S1⟩))
  obtain ⟨L1, hL1⟩ : ∃ L, [65, 83, 84, 49] ++ beB 2 (n0 : Int) = L := ⟨_, rfl⟩
  rw [hL1] at S1
  have E1 := Lib.hid hL1
  clear hL1
  go_loopw [5, 6] (fun b i wr => ∃ j : Nat, j ≤ n0 ∧ i = .int .i64 j ∧ PutSt w1 (6 + 4 * j) (L1 ++ (m.code.take j).flatMap (beB 4)) b wr) (fun _ i _ => n0 - (intOf i).toNat)
  case atStart => exact ⟨0, by omega, rfl, by simpa using S1⟩
  case round =>
    clear S1
    obtain ⟨j, hj, rfl, R⟩ := hrel
    have p := (BQ.out.keep R.bel).cell 0
    by_cases hlt : j < n0
    · have hlt' : (j : Int) < n0 := by omega
      have d := (H.out.code.keep R.bel).lie (by omega)
      obtain ⟨b, off, rfl, dd⟩ := d
      have d := dd j hlt
      clear dd
      have hjl : j < m.code.length := by omega
      have hx := T0.out _ (List.getElem_mem hjl)
      rw [byAt_eq hjl] at hx
      have HS := Lib.hid (flat_snoc (f := beB 4) hjl)
      rw [byAt_eq hjl] at HS
      generalize byAt m.code j = x at *
      go_wp2_with (go_at_call 18; ((with_reducible refine (R.num (n := 4) (y := x) (by omega) (by omega) (by omega) (by omega)).mono ?_); rintro e wr2 ⟨b2, rfl, R2⟩))
      go_roundw
      case rel => exact ⟨j + 1, by omega, by go_num, by
                    rw [HS.out, ← List.append_assoc, show 6 + 4 * (j + 1) = 6 + 4 * j + 4 by omega]
                    exact R2⟩
      case measure => simp [intOf]; omega
    · obtain rfl : n0 = j := by omega
      rw [flat_all (f := beB 4) (l := m.code) (by omega)] at R
      have p1 := (BQ.out.keep R.bel).cell 1
      go_wp2_with (go_at_call 18; ((with_reducible refine (R.num (n := 2) (y := (n1 : Int)) (by omega) (by omega) (by omega) (by omega)).mono ?_); rintro e w3 ⟨b3, rfl, S2⟩))
      obtain ⟨L2, hL2⟩ : ∃ L, L1 ++ m.code.flatMap (beB 4) ++ beB 2 (n1 : Int) = L := ⟨_, rfl⟩
      rw [hL2] at S2
      have E2 := Lib.hid hL2
      clear hL2
      go_loopw [5, 7] (fun b i wr => ∃ j : Nat, j ≤ n1 ∧ i = .int .i64 j ∧ PutSt w1 (6 + 4 * n0 + 2 + 5 * j) (L2 ++ ((m.data.zip m.sec).take j).flatMap encD) b wr) (fun _ i _ => n1 - (intOf i).toNat)
      case atStart => exact ⟨0, by omega, rfl, by simpa using S2⟩
      case round =>
        clear S2
        obtain ⟨j, hj, rfl, R⟩ := hrel
        have p := (BQ.out.keep R.bel).cell 1
        by_cases hlt : j < n1
        · have hlt' : (j : Int) < n1 := by omega
          obtain ⟨b, off, rfl, dd⟩ := (H.out.data.keep R.bel).lie (by omega)
          have d := dd j hlt
          clear dd
          have hjl : j < m.data.length := by omega
          have hx := T1.out _ (List.getElem_mem hjl)
          rw [byAt_eq hjl] at hx
          have HS := Lib.hid (flat_snoc (f := encD) (l := m.data.zip m.sec) (j := j) (by omega))
          rw [hze j (by omega)] at HS
          obtain ⟨b8, off8, rfl, -⟩ := (H.out.sec.keep R.bel).boo (show j < n2 by omega)
          generalize byAt m.data j = x at *
          obtain ⟨y, hy⟩ : ∃ y, x % 4294967296 = y := ⟨_, rfl⟩
          have HY := Lib.hid hy
          have hlt2 : (j : Int) < n2 := by omega
          have HV := Lib.hid (show encD (x, el m.sec j) = beB 4 y ++ [if el m.sec j then 1 else 0] by unfold encD; rw [HY.out])
          cases hs : el m.sec j
          all_goals
            rw [hs] at HS HV
            go_wp2_with (first
              | (go_at_call 18; ((with_reducible refine (R.num (n := 4) (y := y) (by omega) (by omega) (by omega) HY.out).mono ?_); rintro e wr2 ⟨b2, rfl, R2⟩); have p2 := (BQ.out.keep R2.bel).cell 2; have c2 := (H.out.sec.keep R2.bel).boo (show j < n2 by omega); obtain ⟨bq, oq, eq8, c2⟩ := c2; cases eq8; rw [hs] at c2)
              | (at_builtin; refine wpList_append_by rfl _ _ 28 rfl w1.heap.size 5 i0 (.int .u8 0) Tryd.underlying28 hi hz0 hz1 hz2 rfl rfl (R2.own.below ((Below.refl _ _).alloc (Nat.le_refl _) _) (Nat.le_refl _)) rfl (By.lit (l := [0]) _ 5 rfl (by unfold maxLen; simp) (Bd8.cons (by decide) (by decide) Bd8.nil) rfl) (by have := R2.len; omega) (by have := R2.bel.size; simp; omega) (R2.bel.alloc R2.bel.size _) ?_; intro v' w8 ho hb8 hS8)
              | (at_builtin; refine wpList_append_by rfl _ _ 28 rfl w1.heap.size 5 i0 (.int .u8 0) Tryd.underlying28 hi hz0 hz1 hz2 rfl rfl (R2.own.below ((Below.refl _ _).alloc (Nat.le_refl _) _) (Nat.le_refl _)) rfl (By.lit (l := [1]) _ 5 rfl (by unfold maxLen; simp) (Bd8.cons (by decide) (by decide) Bd8.nil) rfl) (by have := R2.len; omega) (by have := R2.bel.size; simp; omega) (R2.bel.alloc R2.bel.size _) ?_; intro v' w8 ho hb8 hS8))
            go_roundw
            case rel => exact ⟨j + 1, by omega, by go_num, by
                          rw [HS.out, HV.out, ← List.append_assoc, ← List.append_assoc, show 6 + 4 * n0 + 2 + 5 * (j + 1) = 6 + 4 * n0 + 2 + 5 * j + 4 + 1 by omega]
                          exact ⟨ho, by have := R2.len; rw [List.length_append]; show _ + 1 ≤ _; omega, hb8⟩⟩
            case measure => simp [intOf]; omega
        · obtain rfl : n1 = j := by omega
          rw [flat_all (f := encD) (l := m.data.zip m.sec) (by omega)] at R
          have p3 := (BQ.out.keep R.bel).cell 3
          go_wp2_with (go_at_call 18; ((with_reducible refine (R.num (n := 1) (y := (n3 : Int)) (by omega) (by omega) (by omega) (by omega)).mono ?_); rintro e w4 ⟨b4, rfl, S3⟩))
          obtain ⟨L3, hL3⟩ : ∃ L, L2 ++ (m.data.zip m.sec).flatMap encD ++ beB 1 (n3 : Int) = L := ⟨_, rfl⟩
          rw [hL3] at S3
          have E3 := Lib.hid hL3
          clear hL3
          go_loopw [5, 8] (fun b i wr => ∃ j : Nat, j ≤ n3 ∧ i = .int .i64 j ∧ PutSt w1 (6 + 4 * n0 + 2 + 5 * n1 + 1 + 2 * j) (L3 ++ (m.inn.take j).flatMap (beB 2)) b wr) (fun _ i _ => n3 - (intOf i).toNat)
          case atStart => exact ⟨0, by omega, rfl, by simpa using S3⟩
          case round =>
            clear S3
            obtain ⟨j, hj, rfl, R⟩ := hrel
            have p := (BQ.out.keep R.bel).cell 3
            by_cases hlt : j < n3
            · have hlt' : (j : Int) < n3 := by omega
              have d := (H.out.inn.keep R.bel).lie (by omega)
              obtain ⟨b, off, rfl, dd⟩ := d
              have d := dd j hlt
              clear dd
              have hjl : j < m.inn.length := by omega
              have hx := T3.out _ (List.getElem_mem hjl)
              rw [byAt_eq hjl] at hx
              have HS := Lib.hid (flat_snoc (f := beB 2) hjl)
              rw [byAt_eq hjl] at HS
              generalize byAt m.inn j = x at *
              go_wp2_with (go_at_call 18; ((with_reducible refine (R.num (n := 2) (y := x) (by omega) (by omega) (by omega) (by omega)).mono ?_); rintro e wr2 ⟨b2, rfl, R2⟩))
              go_roundw
              case rel => exact ⟨j + 1, by omega, by go_num, by
                            rw [HS.out, ← List.append_assoc, show 6 + 4 * n0 + 2 + 5 * n1 + 1 + 2 * (j + 1) = 6 + 4 * n0 + 2 + 5 * n1 + 1 + 2 * j + 2 by omega]
                            exact R2⟩
              case measure => simp [intOf]; omega
            · obtain rfl : n3 = j := by omega
              rw [flat_all (f := beB 2) (l := m.inn) (by omega)] at R
              have p4 := (BQ.out.keep R.bel).cell 4
              go_wp2_with (go_at_call 18; ((with_reducible refine (R.num (n := 1) (y := (n4 : Int)) (by omega) (by omega) (by omega) (by omega)).mono ?_); rintro e w5 ⟨b5, rfl, S4⟩))
              obtain ⟨L4, hL4⟩ : ∃ L, L3 ++ m.inn.flatMap (beB 2) ++ beB 1 (n4 : Int) = L := ⟨_, rfl⟩
              rw [hL4] at S4
              have E4 := Lib.hid hL4
              clear hL4
              go_loopw [5, 9] (fun b i wr => ∃ j : Nat, j ≤ n4 ∧ i = .int .i64 j ∧ PutSt w1 (6 + 4 * n0 + 2 + 5 * n1 + 1 + 2 * n3 + 1 + 2 * j) (L4 ++ (m.out.take j).flatMap (beB 2)) b wr) (fun _ i _ => n4 - (intOf i).toNat)
              case atStart => exact ⟨0, by omega, rfl, by simpa using S4⟩
              case round =>
                clear S4
                obtain ⟨j, hj, rfl, R⟩ := hrel
                have p := (BQ.out.keep R.bel).cell 4
                by_cases hlt : j < n4
                · have hlt' : (j : Int) < n4 := by omega
                  have d := (H.out.out.keep R.bel).lie (by omega)
                  obtain ⟨b, off, rfl, dd⟩ := d
                  have d := dd j hlt
                  clear dd
                  have hjl : j < m.out.length := by omega
                  have hx := T4.out _ (List.getElem_mem hjl)
                  rw [byAt_eq hjl] at hx
                  have HS := Lib.hid (flat_snoc (f := beB 2) hjl)
                  rw [byAt_eq hjl] at HS
                  generalize byAt m.out j = x at *
                  go_wp2_with (go_at_call 18; ((with_reducible refine (R.num (n := 2) (y := x) (by omega) (by omega) (by omega) (by omega)).mono ?_); rintro e wr2 ⟨b2, rfl, R2⟩))
                  go_roundw
                  case rel => exact ⟨j + 1, by omega, by go_num, by
                                rw [HS.out, ← List.append_assoc, show 6 + 4 * n0 + 2 + 5 * n1 + 1 + 2 * n3 + 1 + 2 * (j + 1) = 6 + 4 * n0 + 2 + 5 * n1 + 1 + 2 * n3 + 1 + 2 * j + 2 by omega]
                                exact R2⟩
                  case measure => simp [intOf]; omega
                · obtain rfl : n4 = j := by omega
                  rw [flat_all (f := beB 2) (l := m.out) (by omega)] at R
                  have HL := Lib.hid R.len
                  have hl := hrb.out
                  rw [E1.out, E2.out, E3.out, E4.out] at hl
                  obtain ⟨b', n', c', rfl, hn', hB⟩ := R.own.byn hl
                  have Q := Lib.hid (B2.out.trans (R.bel.mono B2.out.size))
                  go_wp2_with (go_at_call 15; ((with_reducible refine (refCrcSeal_is _ _ _ _ _ hB (by have := HL.out; omega)).mono ?_); rintro e w9 ⟨v9, rfl, o9, hb9⟩))
                  go_ret2
                  rw [HR.out, E1.out, E2.out, E3.out, E4.out]
                  exact ⟨_, rfl, o9.mono Q.out.size, Q.out.trans (hb9.mono Q.out.size)⟩
end
end Go.Proofs.YtochnjbacglhbaaDoor
