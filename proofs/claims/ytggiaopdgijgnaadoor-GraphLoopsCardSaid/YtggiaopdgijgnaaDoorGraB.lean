/- Package graph: where it may go on from a place; ways read. Conditions: words are words; no more than 60 of them. -/
import Derived.Test.YtggiaopdgijgnaaDoorGraA
import Derived.Test.YtggiaopdgijgnaaDoorCodE
import Derived.Test.YtggiaopdgijgnaaDoorShelf
import Derived.Deep.CutBlock
namespace Go.Proofs.YtggiaopdgijgnaaDoor
open Go.RowKit Go.IntWalk Go.Sort

def gFar (o N : Int) : Int := if o = 36 ∨ o = 37 ∨ o = 38 ∨ o = 39 ∨ o = 40 then N else -1
def gNear (o pc : Int) : Int := if o = 39 ∨ o = 40 ∨ o = 0 ∨ o = 41 ∨ o = 43 then -1 else pc + 1
/-- Two numbers, the less one first; one, if they are the same. -/
def gTwo (x y : Int) : List Int := if x = y then [x] else [min x y, max x y]
def gIn (n : Nat) (q : Int) : Bool := decide (0 ≤ q ∧ q < n)
def gNxt (n : Nat) (o N pc : Int) : List Int := (gTwo (gNear o pc) (gFar o N)).filter (gIn n)
/-- Where it may go on from the place pc of the words l. -/
def nxl (l : List Int) (pc : Nat) : List Int := gNxt l.length (cO (byAt l pc)) (cG (byAt l pc) 3) pc
theorem gTwo_len (x y : Int) : (gTwo x y).length ≤ 2 := by unfold gTwo; split <;> simp
theorem nxl_len (l : List Int) (pc : Nat) : (nxl l pc).length ≤ 2 := Nat.le_trans (List.length_filter_le _ _) (gTwo_len _ _)
theorem nxl_in {l : List Int} {pc : Nat} {q : Int} (h : q ∈ nxl l pc) : 0 ≤ q ∧ q < l.length := by
  have := (List.mem_filter.1 h).2
  simpa [gIn] using this

theorem run_minG {P : Program} (w : World) (ts : Array TypeId) (t : TypeId) (k : IntKind) (x y v : Int) (hv : v = min x y) : (Builtin.min_ ts t #[.int k x, .int k y]).run P w = .ok (.int k v) w := by
  have h : (Builtin.min_ ts t #[.int k x, .int k y]).run P w = .ok (.int k (if y < x then y else x)) w := by
    simp [Builtin.min_, Builtin.min2]
  rw [h, hv]
  congr 2
  split <;> omega
theorem run_maxG {P : Program} (w : World) (ts : Array TypeId) (t : TypeId) (k : IntKind) (x y v : Int) (hv : v = max x y) : (Builtin.max_ ts t #[.int k x, .int k y]).run P w = .ok (.int k v) w := by
  have h : (Builtin.max_ ts t #[.int k x, .int k y]).run P w = .ok (.int k (if x < y then y else x)) w := by
    simp [Builtin.max_, Builtin.max2]
  rw [h, hv]
  congr 2
  split <;> omega
theorem compact_two (x y : Int) : Lib.compact [x, y] = if x = y then [x] else [x, y] := by
  show ((List.range 2).filter (Lib.keeps #[x, y])).map (#[x, y][·]!) = _
  have h0 : Lib.keeps #[x, y] 0 = true := by simp [Lib.keeps]
  by_cases e : x = y
  · have h1 : Lib.keeps #[x, y] 1 = false := by simp [Lib.keeps, e]
    rw [if_pos e, show List.range 2 = [0, 1] from rfl]
    simp [h0, h1]
  · have h1 : Lib.keeps #[x, y] 1 = true := by simp [Lib.keeps]; exact fun q => e q.symm
    rw [if_neg e, show List.range 2 = [0, 1] from rfl]
    simp [h0, h1]
/-- slices.Compact of two. -/
theorem compact2_is {b : Nat} {x y : Int} {w : World} (h : BlkAt b 3 #[.int .i64 x, .int .i64 y] w) :
    Calls Tryd.prog 41 #[.slice (some ⟨b, 0, none⟩) 2 2] w fun e w' => e = .returned (.slice (some ⟨b, 0, none⟩) (if x = y then [x] else [x, y]).length 2) ∧
      (∃ f : Nat → Int, Ar .i64 3 b 2 f w' ∧ ∀ i, i < (if x = y then [x] else [x, y]).length → f i = byAt (if x = y then [x] else [x, y]) i) ∧ Keeps (fun j => j = b) w w' := by
  have hH : Holds (Value.int .i64) w b 0 [x, y].toArray := fun j hj => by
    have hj' : j < 2 := by simpa using hj
    rw [Nat.zero_add]
    refine ⟨?_, h.free j⟩
    rw [h.cell]
    rcases (show j = 0 ∨ j = 1 by omega) with rfl | rfl <;> rfl
  refine (slices_Compact_int b 0 2 [x, y] w hH (by simp) (by simp)).mono ?_
  rintro e w' ⟨rfl, q, hw⟩
  rw [compact_two] at *
  refine ⟨rfl, ?_, ?_⟩
  · have hb' : (Sort.ahead w q).heap[b]? = some (.cells #[.int .i64 x, .int .i64 y] 3 (0, 0)) := h
    have hw' : w'.heap[b]? = some (.cells (putCells (Value.int .i64) 0 ((if x = y then [x] else [x, y]) ++ List.replicate ([x, y].length - (if x = y then [x] else [x, y]).length) 0).toArray #[.int .i64 x, .int .i64 y]) 3 (0, 0)) := by
      rw [hw]
      show ((Sort.ahead w q).heap.modify b _)[b]? = _
      rw [Array.getElem?_modify, if_pos rfl, hb']
      rfl
    by_cases e : x = y
    · simp only [if_pos e] at hw' ⊢
      exact ⟨fun i => if i = 0 then x else 0, hw', fun i hi => by
        obtain rfl : i = 0 := by simpa using hi
        rfl⟩
    · simp only [if_neg e] at hw' ⊢
      exact ⟨fun i => if i = 0 then x else y, hw', fun i hi => by
        rcases (show i = 0 ∨ i = 1 by simp at hi; omega) with rfl | rfl <;> rfl⟩
  · rw [hw]
    refine ⟨rfl, rfl, rfl, by show w.heap.size ≤ (w.heap.modify b _).size; simp, fun j hj hn => ?_⟩
    show ((Sort.ahead w q).heap.modify b _)[j]? = _
    rw [Array.getElem?_modify, if_neg fun e => hn e.symm]
    rfl
theorem infoI32 : (Tryd.prog.info? 21).map (fun i => (i.zero, i.size, i.bytes)) = some (some (.int .i32 0), 1, 4) := by kernel_rfl
theorem gTwo_sort (x y lo hi : Int) (h1 : lo = min x y) (h2 : hi = max x y) : gTwo x y = if lo = hi then [lo] else [lo, hi] := by
  subst h1 h2
  unfold gTwo
  by_cases e : x = y
  · subst e; simp
  · rw [if_neg e, if_neg (by omega)]
set_option maxRecDepth 100000 in
set_option maxHeartbeats 1000000 in
theorem graOnward_is {base : Nat} {v : Value} {l0 l : List Int} {a : Option Addr} {n c : Nat} {w : World} {pc : Nat} (hv : OwnW .i32 w base 21 v l0) (h0 : l0.length ≤ 1000) (hbase : base ≤ w.heap.size) (h : Ws .u32 w a n c l) (hn : n ≤ 60) (hpc : pc < n)
    (hs : ShapesLaid w) (hb : ∀ i, i < l.length → 0 ≤ byAt l i ∧ byAt l i < 4294967296) :
    Calls Tryd.prog 22 #[v, .slice a n c, .int .i64 pc] w fun e w' => ∃ v', e = .returned v' ∧ OwnW .i32 w' base 21 v' (l0 ++ nxl l pc) ∧ Keeps (fun j => v.ownBlock = some j) w w' ∧ Nexts w v v' := by
  obtain ⟨i0, hi, hz0, hz1, hz2⟩ := info_parts infoI32
  obtain ⟨g, off, rfl, hc⟩ := h.lie (by omega)
  have c0 := hc pc hpc
  have hl := h.len
  obtain ⟨v0, v1⟩ := hb pc (by omega)
  obtain ⟨x, hx⟩ : ∃ x, byAt l pc = x := ⟨_, rfl⟩
  rw [hx] at c0 v0 v1
  obtain ⟨o, ho⟩ : ∃ o, cO x = o := ⟨_, rfl⟩
  obtain ⟨N, hN⟩ : ∃ N, cG x 3 = N := ⟨_, rfl⟩
  have HD := Lib.hid (fun w2 (hs : ShapesLaid w2) => codeDecode_to (v := x) (w := w2) ho rfl rfl rfl hN rfl hs v0 v1)
  have HE := Lib.hid (show nxl l pc = (gTwo (gNear o pc) (gFar o N)).filter (gIn n) by unfold nxl gNxt; rw [hx, ho, hN, hl])
  have HS := Lib.hid hs
  have HV := Lib.hid hv
  have hpc' : (pc : Int) < n := by omega
  have hn' : (n : Int) ≤ 60 := by omega
  have H0 := Lib.hid h0
  clear hc hb hx ho hN hs hv hl h v0 v1 h0
  go_enter Tryd.func22, Tryd.ntmps22
  go_upto_block 0 with (go_at_call 40; ((with_reducible refine (HD.out _ HS.out).mono ?_); rintro e w2 ⟨rfl, hq⟩); have HQ := Lib.hid hq; clear hq)
  obtain ⟨W1, hW1⟩ : ∃ W1, w2.alloc (.cells #[.int .i64 o, .int .i64 (cG x 0), .int .i64 (cG x 1), .int .i64 (cG x 2), .int .i64 N] 41) = W1 := ⟨_, rfl⟩
  have HB1 := Lib.hid (show Below w.heap.size w W1 from hW1 ▸ HQ.out.alloc HQ.out.size _)
  have hc4 : W1.cell? ⟨w2.heap.size, 4, none⟩ = some (.int .i64 N) := by
    rw [← hW1, (BlkAt.new w2 _ _).cell]; rfl
  rw [hW1]
  clear hW1
  generalize w2.heap.size = B1 at *
  go_cut [7, 8] from 25 to 39 (fun s7 s8 wx => s7 = .int .i64 (gNear o pc) ∧ s8 = .int .i64 (gFar o N) ∧ Below W1.heap.size W1 wx)
  case first =>
    have done7 : ∀ p q : Int, gNear o pc = p → gFar o N = q → (.int .i64 p : Value) = .int .i64 (gNear o pc) ∧ (.int .i64 q : Value) = .int .i64 (gFar o N) := fun p q e1 e2 => by rw [e1, e2]; exact ⟨rfl, rfl⟩
    have H7 := Lib.hid done7
    clear done7
    by_cases e36 : o = 36
    · subst e36; go_wp2; go_meet; exact ⟨(H7.out _ _ rfl rfl).1, (H7.out _ _ rfl rfl).2, Below.refl _ _⟩
    by_cases e37 : o = 37
    · subst e37; go_wp2; go_meet; exact ⟨(H7.out _ _ rfl rfl).1, (H7.out _ _ rfl rfl).2, Below.refl _ _⟩
    by_cases e38 : o = 38
    · subst e38; go_wp2; go_meet; exact ⟨(H7.out _ _ rfl rfl).1, (H7.out _ _ rfl rfl).2, Below.refl _ _⟩
    by_cases e39 : o = 39
    · subst e39; go_wp2; go_quiet (fail); go_wp2; go_meet; exact ⟨(H7.out _ _ rfl rfl).1, (H7.out _ _ rfl rfl).2, below_drewN (Below.refl _ _) _⟩
    by_cases e40 : o = 40
    · subst e40; go_wp2; go_quiet (fail); go_wp2; go_meet; exact ⟨(H7.out _ _ rfl rfl).1, (H7.out _ _ rfl rfl).2, below_drewN (Below.refl _ _) _⟩
    by_cases e0 : o = 0
    · subst e0; go_wp2; go_meet; exact ⟨(H7.out _ _ rfl rfl).1, (H7.out _ _ rfl rfl).2, Below.refl _ _⟩
    by_cases e41 : o = 41
    · subst e41; go_wp2; go_meet; exact ⟨(H7.out _ _ rfl rfl).1, (H7.out _ _ rfl rfl).2, Below.refl _ _⟩
    by_cases e43 : o = 43
    · subst e43; go_wp2; go_meet; exact ⟨(H7.out _ _ rfl rfl).1, (H7.out _ _ rfl rfl).2, Below.refl _ _⟩
    have f36 : (o == 36) = false := by simpa using e36
    have f37 : (o == 37) = false := by simpa using e37
    have f38 : (o == 38) = false := by simpa using e38
    have f39 : (o == 39) = false := by simpa using e39
    have f40 : (o == 40) = false := by simpa using e40
    have f0 : (o == 0) = false := by simpa using e0
    have f41 : (o == 41) = false := by simpa using e41
    have f43 : (o == 43) = false := by simpa using e43
    have HN := Lib.hid (show gNear o pc = pc + 1 by unfold gNear; rw [if_neg]; simp [e39, e40, e0, e41, e43])
    have HF := Lib.hid (show gFar o N = -1 by unfold gFar; rw [if_neg]; simp [e36, e37, e38, e39, e40])
    clear e36 e37 e38 e39 e40 e0 e41 e43
    go_wp2
    go_meet
    exact ⟨(H7.out _ _ HN.out HF.out).1, (H7.out _ _ HN.out HF.out).2, Below.refl _ _⟩
  case rest =>
    obtain ⟨rfl, rfl, hb⟩ := hcut
    obtain ⟨p, hp⟩ : ∃ p, gNear o pc = p := ⟨_, rfl⟩
    obtain ⟨q, hq⟩ : ∃ q, gFar o N = q := ⟨_, rfl⟩
    rw [hp, hq]
    obtain ⟨lo, hlo⟩ : ∃ z, z = min p q := ⟨_, rfl⟩
    obtain ⟨hi2, hhi⟩ : ∃ z, z = max p q := ⟨_, rfl⟩
    obtain ⟨L, hL⟩ : ∃ L, (if lo = hi2 then [lo] else [lo, hi2]) = L := ⟨_, rfl⟩
    obtain ⟨k, hk⟩ : ∃ k, L.length = k := ⟨_, rfl⟩
    have HE2 := Lib.hid (show nxl l pc = L.filter (gIn n) by rw [HE.out, hp, hq, gTwo_sort p q lo hi2 hlo hhi, hL])
    have hk2 : k ≤ 2 := by rw [← hk, ← hL]; split <;> simp
    have hmin := fun w ts => run_minG (P := Tryd.prog) w ts 3 .i64 p q lo hlo
    have hmax := fun w ts => run_maxG (P := Tryd.prog) w ts 3 .i64 p q hi2 hhi
    have HC := Lib.hid (fun (W : World) b (hW : BlkAt b 3 #[.int .i64 lo, .int .i64 hi2] W) => hk ▸ hL ▸ compact2_is hW)
    have HBx := Lib.hid (show Below w.heap.size w wc from HB1.out.trans (hb.mono HB1.out.size))
    have hsx : w.heap.size ≤ wc.heap.size := HBx.out.size
    have HKL := Lib.hid hk
    clear hp hq hlo hhi hL hk hb hc4 HE HB1
    go_wp2_with (go_at_call 41; ((with_reducible refine (HC.out _ _ (BlkAt.new _ _ _)).mono ?_); rintro e w3 ⟨rfl, ⟨f, ha, hf⟩, hq⟩); have HA3 := Lib.hid ha; have HF3 := Lib.hid hf; have HK3 := Lib.hid hq; clear ha hf hq)
    have hs3 := HK3.out.size
    simp only [World.size_alloc] at hs3
    have hKa : Keeps (fun j => v.ownBlock = some j) w w3 := ((Keeps.of_below _ HBx.out).trans (Keeps.of_below _ ((Below.refl _ _).alloc (Nat.le_refl _) _))).next HK3.out fun j hj e => by omega
    have hsz : wc.heap.size < w3.heap.size := by omega
    have HKa := Lib.hid hKa
    have hobV := HV.out.lt
    have HOW := Lib.hid (HV.out.kept (F := fun j => j = wc.heap.size) (w' := w3) ⟨by rw [hKa.os], by rw [hKa.tape], by rw [hKa.output], hKa.size, fun j hj hn => by
      have hx1 := HBx.out.block j hj
      have hx2 := HK3.out.block j (by simp; omega) hn
      rw [hx2, Below.heap_alloc _ _ _ (by omega), hx1]⟩ fun j q => by have := hobV j q; omega)
    clear hKa hs3
    generalize hB : wc.heap.size = b at *
    clear hB
    go_loopw [49, 0, 12] (fun i u _ wr => ∃ j : Nat, j ≤ k ∧ i = .int .i64 j ∧ OwnW .i32 wr base 21 u (l0 ++ (L.take j).filter (gIn n)) ∧ Ar .i64 3 b 2 f wr ∧ Keeps (fun j => v.ownBlock = some j) w wr ∧ Nexts w v u) (fun i _ _ _ => k - (intOf i).toNat)
    case atStart => exact ⟨0, by omega, rfl, by rw [List.take_zero]; simpa using HOW.out, HA3.out, HKa.out, Nexts.refl _ _⟩
    case round =>
      obtain ⟨j, hj, rfl, ho, ha, hkk, hnx⟩ := hrel
      have HO := Lib.hid ho
      have HA := Lib.hid ha
      have HK := Lib.hid hkk
      have HN := Lib.hid hnx
      have hsr := hkk.size
      by_cases hlt : j < k
      · have hlt' : (j : Int) < k := by omega
        have hx := ha.cell (i := j) (by omega)
        obtain ⟨x, hxx⟩ : ∃ x, f j = x := ⟨_, rfl⟩
        rw [hxx] at hx
        have hxL : byAt L j = x := by rw [← HF3.out j (by first | exact hlt | (rw [HKL.out]; exact hlt))]; exact hxx
        have HT := Lib.hid (show L.take (j + 1) = L.take j ++ [x] by
          rw [List.take_succ_eq_append_getElem (by rw [HKL.out]; exact hlt), byAt_eq, hxL])
        clear ho ha hkk hnx hxx hxL hlt
        have hln : (l0 ++ (L.take j).filter (gIn n)).length ≤ 1100 := by
          have h1 := List.length_filter_le (gIn n) (L.take j)
          have h2 := H0.out
          rw [List.length_take] at h1
          rw [List.length_append]
          omega
        have HBk : ∀ q, u0.ownBlock = some q → q ≠ b := fun q e => by
          rintro rfl
          exact own_off_type HO.out HA.out (by decide) e
        have HBK := Lib.hid HBk
        clear HBk
        by_cases h0 : 0 ≤ x
        · by_cases h1 : x < n
          · have HI := Lib.hid (show gIn n x = true by unfold gIn; simp [h0, h1])
            go_wp2_with (at_builtin; refine wpList_append_1 rfl _ _ 38 rfl base 21 i0 (.int .i32 0) Tryd.underlying38 hi hz0 hz1 (by omega) rfl rfl (HO.out.keep ((Below.refl _ _).alloc (Nat.le_refl _) _)) rfl ((BlkAt.new _ _ _).cell 0) (by omega) (by simp; omega) ?_; intro v' w' hown hgr hnx)
            go_roundw
            case rel =>
              have k1 : Keeps (fun j => u0.ownBlock = some j) wr w' := (Keeps.of_below _ ((Below.refl _ _).alloc (Nat.le_refl _) _)).trans (Keeps.of_grown hgr fun j e => e)
              refine ⟨j + 1, by omega, by go_num, ?_, HA.out.kept k1 fun e => HBK.out _ e rfl, HK.out.next k1 fun j hj g => (HN.out j g).elim id fun e => absurd e (by omega), ?_⟩
              · rw [HT.out, List.filter_append, ← List.append_assoc]
                simpa [HI.out] using hown
              · exact HN.out.trans (fun q e => (hnx q e).imp id fun e => by simp at e; omega) hsr
            case measure => simp [intOf]; omega
          · have HI := Lib.hid (show gIn n x = false by unfold gIn; simp; omega)
            have d1 : decide (x < n) = false := decide_eq_false h1
            go_wp2
            go_roundw
            case rel => exact ⟨j + 1, by omega, by go_num, by rw [HT.out, List.filter_append]; simpa [HI.out] using HO.out, HA.out, HK.out, HN.out⟩
            case measure => simp [intOf]; omega
        · have HI := Lib.hid (show gIn n x = false by unfold gIn; simp; omega)
          go_wp2
          go_roundw
          case rel => exact ⟨j + 1, by omega, by go_num, by rw [HT.out, List.filter_append]; simpa [HI.out] using HO.out, HA.out, HK.out, HN.out⟩
          case measure => simp [intOf]; omega
      · obtain rfl : j = k := by omega
        clear ho ha hkk hnx
        go_wp2
        go_ret
        exact ⟨_, rfl, by rw [HE2.out, ← List.take_length (l := L), HKL.out]; exact HO.out, HK.out, HN.out⟩
end Go.Proofs.YtggiaopdgijgnaaDoor
