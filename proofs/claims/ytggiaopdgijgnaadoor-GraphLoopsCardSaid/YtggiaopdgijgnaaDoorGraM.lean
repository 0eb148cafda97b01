/- Package graph: Reached, Ahead. Conditions: words lie in memory; no more than 60. -/
import Derived.Test.YtggiaopdgijgnaaDoorGraL
import Derived.Test.YtggiaopdgijgnaaDoorGraX
namespace Go.Proofs.YtggiaopdgijgnaaDoor
open Go.RowKit Go.IntWalk

/-- Is a place come to? -/
noncomputable def cameB (N : Nat → List Nat) (mv : Nat → Bool) (l : List Nat) (x : Nat) : Bool := @decide (Gra.Came N mv l x) (Classical.propDecidable _)
theorem cameB_iff {N : Nat → List Nat} {mv : Nat → Bool} {l : List Nat} {x : Nat} : cameB N mv l x = true ↔ Gra.Came N mv l x := by
  unfold cameB
  exact ⟨fun h => @of_decide_eq_true _ (Classical.propDecidable _) h, fun h => @decide_eq_true _ (Classical.propDecidable _) h⟩
theorem PureT.came {mv : Nat → Bool} {N : Nat → List Nat} {l : List Nat} {T : Gra.Tr} (h : PureT mv N l T) : T.came = cameB N mv l := by
  have h1 := (Gra.GoP.came (mv := mv) (N := N) (l0 := l) h.2 h.1).1
  funext x
  rw [Bool.eq_iff_iff, h1 x, cameB_iff]
theorem trip_0 (x y z : Option Addr) (i j k l m n : Nat) : ∀ w : World, Sem.run Tryd.prog (Instr.field 49 (.agg #[.slice x i j, .slice y k l, .slice z m n]) 0) w = .ok (.slice x i j) w := fun _ => by kernel_rfl
theorem trip_1 (x y z : Option Addr) (i j k l m n : Nat) : ∀ w : World, Sem.run Tryd.prog (Instr.field 49 (.agg #[.slice x i j, .slice y k l, .slice z m n]) 1) w = .ok (.slice y k l) w := fun _ => by kernel_rfl
theorem trip_2 (x y z : Option Addr) (i j k l m n : Nat) : ∀ w : World, Sem.run Tryd.prog (Instr.field 49 (.agg #[.slice x i j, .slice y k l, .slice z m n]) 2) w = .ok (.slice z m n) w := fun _ => by kernel_rfl
/-- What Ahead answers. -/
noncomputable def aheadB (l : List Int) (x y : Int) : Bool :=
  hasB l.length (cameB (nxN l) (fun _ => true) (beginN l.length)) y && !hasB l.length (cameB (nxN l) (fun p => decide ((p : Int) ≠ x)) (beginN l.length)) y
set_option maxRecDepth 100000 in
set_option maxHeartbeats 1000000 in
theorem graAhead_is {l : List Int} {a : Option Addr} {c : Nat} {w : World} (x y : Int) (h : Ws .u32 w a l.length c l) (hn : l.length ≤ 60) (hs : ShapesLaid w) (hb : ∀ i, i < l.length → 0 ≤ byAt l i ∧ byAt l i < 4294967296) :
    Calls Tryd.prog 12 #[.slice a l.length c, .int .i64 x, .int .i64 y] w fun e w' => e = .returned (.bool (aheadB l x y)) ∧ Below w.heap.size w w' := by
  obtain ⟨v1, hv1⟩ : ∃ v, hasB l.length (cameB (nxN l) (fun _ => true) (beginN l.length)) y = v := ⟨_, rfl⟩
  have HRd := Lib.hid (graRead_is h hn hs hb)
  have HV1 := Lib.hid hv1
  have HN := Lib.hid hn
  clear h hs hb hv1 hn
  go_enter Tryd.func12, Tryd.ntmps12
  go_upto_region 2 with (go_at_call 25; ((with_reducible refine (HRd.out).mono ?_); rintro e w2 ⟨v, rfl, hv, hq⟩); obtain ⟨a1, m1, c1, a2, c2, rfl, -, hwn⟩ := hv.ways; have HWN := Lib.hid hwn; have HQ1 := Lib.hid hq; clear hwn hq hv HRd)
  obtain ⟨W2, hW2⟩ : ∃ W2, w2.alloc (.cells #[.slice a1 m1 c1, .slice a2 (l.length + 1) c2] 51) = W2 := ⟨_, rfl⟩
  have hx2 : BlkAt w2.heap.size 51 #[.slice a1 m1 c1, .slice a2 (l.length + 1) c2] W2 := hW2 ▸ BlkAt.new _ _ _
  have hb2 : Below w2.heap.size w2 W2 := hW2 ▸ (Below.refl _ _).alloc (Nat.le_refl _) _
  rw [hW2]
  clear hW2
  have HX2 := Lib.hid hx2
  have HB2 := Lib.hid hb2
  have c0 := hx2.cell 0
  have c1' := hx2.cell 1
  obtain ⟨b2, hb2n⟩ : ∃ b2, w2.heap.size = b2 := ⟨_, rfl⟩
  rw [hb2n] at c0 c1' ⊢
  have HB2n := Lib.hid hb2n
  clear hb2n hx2 hb2
  have hf0 := trip_0
  cases v1 with
  | false =>
    go_wp2_with (first
      | (go_at_call 26; ((with_reducible refine (graAll_is HWN.out HB2.out HN.out).mono ?_); rintro e w3 ⟨v, T, rfl, hv, ht, hq⟩); have HT := Lib.hid hv; have HP := Lib.hid ht.came; have HQ3 := Lib.hid hq; clear ht hq; obtain ⟨bc, bf, bo, ov, rfl, hset, hord, -⟩ := hv; obtain ⟨ao, co, rfl, -⟩ := hord.wsn (m := T.ord.length) (by simp); rw [HP.out] at hset; have HSET := Lib.hid hset; clear hset hord)
      | (go_at_call 27; ((with_reducible refine (graHas_is HSET.out HN.out y).mono ?_); rintro e w4 ⟨rfl, rfl⟩); rw [HV1.out]))
    go_ret
    unfold aheadB
    rw [HV1.out]
    exact ⟨rfl, (HQ1.out.trans (HB2.out.mono HQ1.out.size)).trans (HQ3.out.mono (Nat.le_trans HQ1.out.size HB2.out.size))⟩
  | true =>
    go_wp2_with (first
      | (go_at_call 26; ((with_reducible refine (graAll_is HWN.out HB2.out HN.out).mono ?_); rintro e w3 ⟨v, T, rfl, hv, ht, hq⟩); have HT := Lib.hid hv; have HP := Lib.hid ht.came; have HQ3 := Lib.hid hq; clear ht hq; obtain ⟨bc, bf, bo, ov, rfl, hset, hord, -⟩ := hv; obtain ⟨ao, co, rfl, -⟩ := hord.wsn (m := T.ord.length) (by simp); rw [HP.out] at hset; have HSET := Lib.hid hset; clear hset hord; have hxx := HX2.out.keep HQ3.out; rw [HB2n.out] at hxx; have c03 := hxx.cell 0; have c13 := hxx.cell 1; clear hxx)
      | (go_at_call 29; ((with_reducible refine (graPast_is HWN.out (HB2.out.trans (HQ3.out.mono HB2.out.size)) HN.out).mono ?_); rintro e w5 ⟨v, T', rfl, hv, ht, hq⟩); have HT' := Lib.hid hv; have HP' := Lib.hid ht.came; have HQ5 := Lib.hid hq; clear ht hq; obtain ⟨bc', bf', bo', ov', rfl, hset, hord, -⟩ := hv; obtain ⟨ao', co', rfl, -⟩ := hord.wsn (m := T'.ord.length) (by simp); rw [HP'.out] at hset; have HSET' := Lib.hid hset; clear hset hord)
      | (go_at_call 27; ((with_reducible refine (graHas_is HSET'.out HN.out y).mono ?_); rintro e w6 ⟨rfl, rfl⟩))
      | (go_at_call 27; ((with_reducible refine (graHas_is HSET.out HN.out y).mono ?_); rintro e w4 ⟨rfl, rfl⟩); rw [HV1.out]))
    go_ret
    unfold aheadB
    rw [HV1.out]
    have h5 := (HQ1.out.trans (HB2.out.mono HQ1.out.size)).trans (HQ3.out.mono (Nat.le_trans HQ1.out.size HB2.out.size))
    exact ⟨by simp, h5.trans (HQ5.out.mono h5.size)⟩
theorem infoBool : (Tryd.prog.info? 4).map (fun i => (i.zero, i.size, i.bytes)) = some (some (.bool false), 1, 1) := by kernel_rfl
theorem run_falses {P : Program} (t e : TypeId) (i : TypeInfo) (h1 : P.underlying t = some (.slice e)) (h2 : P.info? e = some i) (h3 : i.zero = some (.bool false)) (h4 : i.size = 1)
    (n : Nat) (b2 : i.bytes * n ≤ 281474976710656) (b3 : n ≤ maxLen) (w : World) :
    (Instr.makeSlice t (.int .i64 n) (.int .i64 n)).run P w = .ok (.slice (some ⟨w.heap.size, 0, none⟩) n n) (w.alloc (.cells (fnArr n fun _ => .bool false) e)) := by
  have b3' : (n : Int) ≤ 9223372036854775807 := by unfold maxLen at b3; omega
  have b2' : (i.bytes : Int) * (n : Int) ≤ 281474976710656 := by rw [← Int.natCast_mul]; omega
  have hrun := run_make (P := P) w t e i (.bool false) h1 h2 h3 .i64 .i64 n n (Int.natCast_nonneg _) (Int.le_refl _) b2' b3'
  simp only [Int.toNat_natCast, h4, Nat.mul_one] at hrun
  rw [show (Value.bool false).cells = #[.bool false] from rfl, made_fn (k := 1) (z := .bool false) rfl (fun j hj => by obtain rfl : j = 0 := (by omega); rfl) (by omega)] at hrun
  exact hrun
/-- n truths in a block. -/
def Brs (T : TypeId) (b n : Nat) (f : Nat → Bool) (w : World) : Prop := BlkAt b T (fnArr n fun i => .bool (f i)) w
set_option maxRecDepth 100000 in
set_option maxHeartbeats 1000000 in
theorem graReached_is {l : List Int} {a : Option Addr} {c : Nat} {w : World} (h : Ws .u32 w a l.length c l) (hn : l.length ≤ 60) (hs : ShapesLaid w) (hb : ∀ i, i < l.length → 0 ≤ byAt l i ∧ byAt l i < 4294967296) :
    Calls Tryd.prog 10 #[.slice a l.length c] w fun e w' => ∃ b, e = .returned (.slice (some ⟨b, 0, none⟩) l.length l.length) ∧ Brs 4 b l.length (cameB (nxN l) (fun _ => true) (beginN l.length)) w' ∧ w.heap.size ≤ b ∧ Below w.heap.size w w' := by
  obtain ⟨i0, hi, hz0, hz1, hz2⟩ := info_parts infoBool
  have hmk := run_falses (P := Tryd.prog) 28 4 i0 Tryd.underlying28 hi hz0 hz1 l.length (by rw [hz2]; omega) (by unfold maxLen; omega)
  have HRd := Lib.hid (graRead_is h hn hs hb)
  have HN := Lib.hid hn
  have hn' : (l.length : Int) ≤ 60 := by omega
  have hf0 := trip_0
  obtain ⟨F, hF⟩ : ∃ F, cameB (nxN l) (fun _ => true) (beginN l.length) = F := ⟨_, rfl⟩
  have HF := Lib.hid hF
  clear h hs hb hn hF
  go_enter Tryd.func10, Tryd.ntmps10
  go_wp2_with (first
    | (go_at_call 25; ((with_reducible refine (HRd.out).mono ?_); rintro e w2 ⟨v, rfl, hv, hq⟩); obtain ⟨a1, m1, c1, a2, c2, rfl, -, hwn⟩ := hv.ways; have HWN := Lib.hid hwn; have HQ1 := Lib.hid hq; clear hwn hq hv HRd)
    | (go_at_call 26; ((with_reducible refine (graAll_is HWN.out (Below.refl _ _) HN.out).mono ?_); rintro e w3 ⟨v, T, rfl, hv, ht, hq⟩); have HP := Lib.hid (ht.came.trans HF.out); have HQ3 := Lib.hid hq; clear ht hq; obtain ⟨bc, bf, bo, ov, rfl, hset, hord, -⟩ := hv; obtain ⟨ao, co, rfl, -⟩ := hord.wsn (m := T.ord.length) (by simp); rw [HP.out] at hset; have HSET := Lib.hid hset; clear hset hord))
  have HB3 := Lib.hid (HQ1.out.trans (HQ3.out.mono HQ1.out.size))
  clear hmk
  go_loopw [15] (fun i wr => ∃ k : Nat, k ≤ l.length ∧ i = .int .i64 k ∧ Brs 4 w3.heap.size l.length (fun i => decide (i < k) && F i) wr ∧ Keeps (fun j => j = w3.heap.size) w3 wr) (fun i _ => l.length - (intOf i).toNat)
  case atStart => exact ⟨0, by omega, rfl, (BlkAt.new w3 _ _).eq (fnArr_ext fun i _ => by simp), Keeps.of_below _ ((Below.refl _ _).alloc (Nat.le_refl _) _)⟩
  case round =>
    obtain ⟨k, hk, rfl, hA, hK⟩ := hrel
    have HA := Lib.hid hA
    have HK := Lib.hid hK
    by_cases hlt : k < l.length
    · have hlt' : (k : Int) < l.length := by omega
      have fr := hA.free k
      have ck := hA.cell k
      rw [fnArr_get _ hlt] at ck
      have hsk : SetAt bc l.length F wr := HSET.out.kept HK.out fun e => by
        obtain ⟨cs, hcs⟩ := HSET.out.type
        have := hcs.lt
        omega
      have hhas := graHas_is hsk HN.out k
      rw [hasB_nat F hlt] at hhas
      have HHS := Lib.hid hhas
      clear hA hK hsk hhas
      go_wp2_with (go_at_call 27; ((with_reducible refine (HHS.out).mono ?_); rintro e w4 ⟨rfl, rfl⟩))
      go_roundw
      case rel =>
        refine ⟨k + 1, by omega, by go_num, ((HA.out.set k _).eq ?_), HK.out.trans (Keeps.set1 _ _ _ _)⟩
        rw [fnArr_set]
        refine fnArr_ext fun i hi => ?_
        by_cases e : i = k
        · subst e; simp
        · rw [if_neg e]
          by_cases e2 : i < k
          · simp [e2, show i < k + 1 by omega]
          · simp [e2, show ¬ i < k + 1 by omega]
      case measure => simp [intOf]; omega
    · obtain rfl : k = l.length := by omega
      clear hA hK hlt
      go_wp2
      go_ret
      have hs3 := HB3.out.size
      refine ⟨_, rfl, ?_, hs3, HK.out.below HB3.out hs3 fun j e => by omega⟩
      rw [HF.out]
      exact HA.out.eq (fnArr_ext fun i hi => by simp [hi])
end Go.Proofs.YtggiaopdgijgnaaDoor
