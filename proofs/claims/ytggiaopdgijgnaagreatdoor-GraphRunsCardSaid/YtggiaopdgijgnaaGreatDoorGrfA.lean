/- The laws of runs: Jumps; a run's marks. Conditions: words are words; no more than 60 of them; data are words, no more than 2048. -/
import Derived.Test.YtggiaopdgijgnaaGreatDoorGrdD
import Derived.Test.YtggiaopdgijgnaaGreatDoorGreA
import Derived.Test.YtggiaopdgijgnaaGreatDoorCorH
namespace Go.Proofs.YtggiaopdgijgnaaGreatDoor
open Go.RowKit Go.IntWalk

theorem tabs_next {w w' : World} (h : TabsAt w.heap.size w) (k : Below w.heap.size w w') : TabsAt w'.heap.size w' :=
  ⟨(h.keep k).shapes, (h.keep k).costs, Nat.lt_of_lt_of_le h.gs k.size, Nat.lt_of_lt_of_le h.gc k.size⟩
noncomputable def jmpB (l : List Int) : Bool := !(@decide (NoJr l) (Classical.propDecidable _))
theorem jmpB_no {l : List Int} : jmpB l = false ↔ NoJr l := by
  unfold jmpB
  rw [Bool.not_eq_false']
  exact ⟨fun h => @of_decide_eq_true _ (Classical.propDecidable _) h, fun h => @decide_eq_true _ (Classical.propDecidable _) h⟩
theorem jmpB_yes {l : List Int} {p : Nat} (h1 : p < l.length) (h2 : cErr (byAt l p) = 0) (h3 : cO (byAt l p) = 41) : jmpB l = true := by
  cases h : jmpB l
  · exact absurd h3 (jmpB_no.1 h p h1 h2)
  · rfl
set_option maxRecDepth 100000 in
set_option maxHeartbeats 1000000 in
theorem refJumps_is {l : List Int} {a : Option Addr} {n c : Nat} {w : World} (h : Ws .u32 w a n c l) (hn : n ≤ 60) (hb : ∀ i, i < l.length → 0 ≤ byAt l i ∧ byAt l i < 4294967296) :
    Calls Tryz.prog 5 #[.slice a n c] w fun e w' => e = .returned (.bool (jmpB l)) ∧ Below w.heap.size w w' := by
  have hl := h.len
  have hn' : (n : Int) ≤ 60 := by omega
  have hcap := h.cap
  have HW := Lib.hid h
  have HL := Lib.hid hl
  have HB := Lib.hid hb
  clear h hl hb
  go_enter Tryz.func5, Tryz.ntmps5
  go_wp2
  go_loopw [3] (fun s wr => ∃ p : Nat, p ≤ n ∧ s = .int .i64 p ∧ (∀ p', p' < p → cErr (byAt l p') = 0 → cO (byAt l p') ≠ 41) ∧ Below w.heap.size w wr) (fun s _ => n - (intOf s).toNat)
  case atStart => exact ⟨0, by omega, rfl, fun p' h => by omega, Below.refl _ _⟩
  case round =>
    obtain ⟨p, hp, rfl, hno, hk⟩ := hrel
    have HNO := Lib.hid hno
    have HK := Lib.hid hk
    by_cases hlt : p < n
    case neg =>
      obtain rfl : p = n := by omega
      clear hno hk hlt
      go_wp2
      go_ret
      refine ⟨?_, HK.out⟩
      rw [jmpB_no.2 fun p' hp' => HNO.out p' (by rw [← HL.out]; exact hp')]
      rfl
    case pos =>
      obtain ⟨g, off, rfl, hc⟩ := (HW.out.keep hk).lie (by omega)
      have c0 := hc p hlt
      obtain ⟨v0, v1⟩ := HB.out p (by rw [HL.out]; exact hlt)
      obtain ⟨x, hx⟩ : ∃ x, byAt l p = x := ⟨_, rfl⟩
      rw [hx] at c0 v0 v1
      have HX := Lib.hid hx
      have HD := Lib.hid (fun w2 => refDecode_is x w2 v0 v1)
      unfold decV at HD
      obtain ⟨o, ho⟩ : ∃ o, cO x = o := ⟨_, rfl⟩
      obtain ⟨er, hr⟩ : ∃ er, cErr x = er := ⟨_, rfl⟩
      rw [ho, hr] at HD
      have HO := Lib.hid ho
      have HE := Lib.hid hr
      have hlt' : (p : Int) < n := by omega
      clear hno hk hlt hc hx ho hr v0 v1
      go_upto_region 5 with (go_at_call 13; ((with_reducible refine (HD.out _).mono ?_); rintro e w2 ⟨rfl, hq⟩); have HQ := Lib.hid hq; clear hq)
      obtain ⟨W1, hW1⟩ : ∃ W1, w2.alloc (.cells #[.int .i64 o, .int .i64 (cG x 0), .int .i64 (cG x 1), .int .i64 (cG x 2), .int .i64 (cG x 3)] 39) = W1 := ⟨_, rfl⟩
      have HB1 := Lib.hid (show Below w.heap.size w W1 from hW1 ▸ (below_on HK.out HQ.out).alloc (below_on HK.out HQ.out).size _)
      have hc0 : W1.cell? ⟨w2.heap.size, 0, none⟩ = some (.int .i64 o) := by
        rw [← hW1, (BlkAt.new w2 _ _).cell]; rfl
      rw [hW1]
      clear hW1 HD
      generalize w2.heap.size = B1 at *
      by_cases e0 : er = 0
      · subst e0
        by_cases e : o = 41
        · subst e
          go_wp2
          go_ret
          refine ⟨?_, HB1.out⟩
          rw [jmpB_yes (p := p) (by rw [HL.out]; omega) (by rw [HX.out]; exact HE.out) (by rw [HX.out]; exact HO.out)]
          rfl
        · have f : (o == 41) = false := by simpa using e
          have E := Lib.hid e
          clear e
          go_wp2
          go_roundw
          case rel =>
            refine ⟨p + 1, by omega, by go_num, fun p' h1 h2 => ?_, HB1.out⟩
            rcases (show p' < p ∨ p' = p by omega) with h | rfl
            · exact HNO.out p' h h2
            · rw [HX.out, HO.out]; exact E.out
          case measure => simp [intOf]; omega
      · have f : (er == 0) = false := by simpa using e0
        have E := Lib.hid e0
        clear e0
        go_wp2
        go_roundw
        case rel =>
          refine ⟨p + 1, by omega, by go_num, fun p' h1 h2 => ?_, HB1.out⟩
          rcases (show p' < p ∨ p' = p by omega) with h | rfl
          · exact HNO.out p' h h2
          · rw [HX.out, HE.out] at h2; exact absurd h2 E.out
        case measure => simp [intOf]; omega

set_option linter.unusedSimpArgs false in
theorem exe_few (s : Cst) (o : Int) (d a b : Nat) (n : Int) : (exeS s o d a b n).mks.length ≤ s.mks.length + 1 := by
  unfold exeS
  by_cases h : o ≤ 30
  · rw [if_pos h]; split <;> simp [Cst.mark, Cst.stop, Cst.hold, Cst.put]
  rw [if_neg h]; clear h
  by_cases h : o = 31
  · rw [if_pos h]; simp [Cst.mark, Cst.stop, Cst.hold, Cst.put]
  rw [if_neg h]; clear h
  by_cases h : o = 32
  · rw [if_pos h]; simp [Cst.mark, Cst.stop, Cst.hold, Cst.put]
  rw [if_neg h]; clear h
  by_cases h : o = 33
  · rw [if_pos h]; simp [Cst.mark, Cst.stop, Cst.hold, Cst.put]
  rw [if_neg h]; clear h
  by_cases h : o = 34
  · rw [if_pos h]; split <;> simp [Cst.mark, Cst.stop, Cst.hold, Cst.put]
  rw [if_neg h]; clear h
  by_cases h : o = 35
  · rw [if_pos h]; split <;> simp [Cst.mark, Cst.stop, Cst.hold, Cst.put]
  rw [if_neg h]; clear h
  by_cases h : o ≤ 38
  · rw [if_pos h]; split <;> simp [Cst.mark, Cst.stop, Cst.hold, Cst.put]
  rw [if_neg h]; clear h
  by_cases h : o = 39
  · rw [if_pos h]; simp [Cst.mark, Cst.stop, Cst.hold, Cst.put]
  rw [if_neg h]; clear h
  by_cases h : o = 40
  · rw [if_pos h]; simp [Cst.mark, Cst.stop, Cst.hold, Cst.put]
  rw [if_neg h]; clear h
  by_cases h : o = 41
  · rw [if_pos h]; simp [Cst.mark, Cst.stop, Cst.hold, Cst.put]
  rw [if_neg h]; clear h
  by_cases h : o = 42
  · rw [if_pos h]; simp [Cst.mark, Cst.stop, Cst.hold, Cst.put]
  rw [if_neg h]; clear h
  simp [Cst.mark, Cst.stop, Cst.hold, Cst.put]
theorem step_few (l : List Int) (s : Cst) : (stepT l s).mks.length ≤ s.mks.length + 1 := by
  unfold stepT stepS
  by_cases h : s.st = 0
  · rw [if_pos h]
    by_cases h : 0 ≤ s.pc ∧ s.pc < l.length
    · rw [if_pos h]
      by_cases h : cErr (byAt l s.pc.toNat) = 0
      · rw [if_pos h]; exact exe_few _ _ _ _ _ _
      · rw [if_neg h]; exact Nat.le_succ _
    · rw [if_neg h]; exact Nat.le_succ _
  · rw [if_neg h]; exact Nat.le_succ _
theorem run_few (l : List Int) : ∀ (m : Nat) (s : Cst), (runT l m s).mks.length ≤ s.mks.length + m
  | 0, _ => Nat.le_refl _
  | m + 1, s => by
    have h1 := run_few l m (stepT l s)
    have h2 := step_few l s
    show (runT l m (stepT l s)).mks.length ≤ _
    omega
set_option maxRecDepth 100000 in
set_option maxHeartbeats 1000000 in
theorem lawRun_is {l data : List Int} {a a' : Option Addr} {n c n' c' : Nat} {w : World} (m : Nat) (hm : m ≤ 255) (h : Ws .u32 w a n c l) (h2 : Ws .i32 w a' n' c' data) (hn : n ≤ 60) (hn2 : n' ≤ 2048) (ht : TabsAt w.heap.size w)
    (hb : ∀ i, i < l.length → 0 ≤ byAt l i ∧ byAt l i < 4294967296) (hd : ∀ k, w32 (byAt data k)) :
    Calls Tryz.prog 7 #[.slice a n c, .slice a' n' c', .int .u8 m] w fun e w' => ∃ v, e = .returned v ∧ OwnMk w' w.heap.size 31 v (runT l m (beginS data)).mks ∧ Below w.heap.size w w' := by
  have HNew := Lib.hid (corNew_is a n c l a' n' c' data w h h2 (by omega) hn2 ht hb)
  have HG := Lib.hid (good_begin (N := l.length) hd)
  have hl := h.len
  have hl2 := h2.len
  have HLL := Lib.hid (And.intro hl hl2)
  have hm' : (m : Int) ≤ 255 := by omega
  have hmw : IntKind.i64.wrap (m : Int) = (m : Int) := IntWalk.i64_in _ (by omega)
  clear h h2 ht hb hd hl hl2
  go_enter Tryz.func7, Tryz.ntmps7
  go_wp2_with (first
    | (go_at_call 18; ((with_reducible refine HNew.out.mono ?_); rintro e w1 ⟨b, F, rfl, hc, hk⟩); have HC := Lib.hid hc; have HK := Lib.hid hk; clear hc hk; have HR := Lib.hid (corRun_is m m HC.out HG.out (by have := HLL.out.1; omega) (by have := HLL.out.2; omega) (.inr ⟨by omega, by omega, rfl⟩) (by omega) (by show 0 + m < _; omega)))
    | (go_at_call 19; ((with_reducible refine HR.out.mono ?_); rintro e w2 ⟨rfl, F', hc2, hg2⟩); have HC2 := Lib.hid hc2; have HG2 := Lib.hid hg2; clear hc2 hg2; have HM := Lib.hid (corMarks_is HC2.out (Nat.le_trans (run_few _ _ _) (by show 0 + m ≤ _; omega))))
    | (go_at_call 20; ((with_reducible refine HM.out.mono ?_); rintro e w3 ⟨v, rfl, ho, hk3⟩); have HO := Lib.hid ho; have HK3 := Lib.hid hk3; clear ho hk3))
  go_ret
  have k1 := HK.out
  have k2 : Below w.heap.size w w2 := HG2.out.keeps.below k1 k1.size fun j hj => (HC.out.fF j hj).1
  exact ⟨_, rfl, HO.out.mono k2.size, below_on k2 HK3.out⟩

/-! ### What a run costs -/
theorem runCost_take (l : List Mk) {k : Nat} (h : k < l.length) : costS (l.take (k + 1)) = costS (l.take k) + (mkAt l k).2.2 := by
  rw [List.take_succ_eq_append_getElem h, costS_app, costS_one, mkAt_eq h]
theorem runCost_all (l : List Mk) : costS (l.take l.length) = costS l := by rw [List.take_length]
theorem runCost_is (a : Option Addr) (n c : Nat) (l : List Mk) (w : World) (h : MkAt w a n c l) (hn : n ≤ 1048576) (hc : ∀ k, k < l.length → 1 ≤ (mkAt l k).2.2 ∧ (mkAt l k).2.2 ≤ 34) :
    Calls Tryz.prog 12 #[.slice a n c] w fun e w' => e = .returned (.int .i64 (costS l)) ∧ w = w' := by
  have hcap := h.cap
  have hbig := h.big
  unfold maxLen at hbig
  have HL := Lib.hid h
  have HC := Lib.hid hc
  have HLN := Lib.hid h.len
  clear h hc
  go_enter Tryz.func12, Tryz.ntmps12
  go_wp2
  go_loopw [3, 4] (fun m i wr => ∃ k : Nat, k ≤ n ∧ i = .int .i64 k ∧ m = .int .i64 (costS (l.take k)) ∧ wr = w) (fun _ i _ => n - (intOf i).toNat)
  case atStart => exact ⟨0, by omega, rfl, rfl, rfl⟩
  case round =>
    obtain ⟨k, hk, rfl, rfl, rfl⟩ := hrel
    have hb := costS_bd (l := l.take k) fun j hj => by
      rw [List.length_take] at hj
      have := HC.out j (by omega)
      rw [show mkAt (l.take k) j = mkAt l j by unfold mkAt; rw [List.getD_eq_getElem?_getD, List.getD_eq_getElem?_getD, List.getElem?_take, if_pos (by omega)]]
      exact this
    rw [List.length_take] at hb
    obtain ⟨m, hm⟩ : ∃ m, costS (l.take k) = m := ⟨_, rfl⟩
    rw [hm] at hb ⊢
    have HM := Lib.hid hm
    have hb1 : 0 ≤ m ∧ m ≤ 100000000 := by have := HLN.out; omega
    obtain ⟨m0, m1⟩ := hb1
    clear hm hb
    by_cases hlt : k < n
    · obtain ⟨g, off, rfl, hc⟩ := HL.out.lie (by omega)
      obtain ⟨-, -, c2⟩ := hc k hlt
      have hkl : k < l.length := by have := HLN.out; omega
      obtain ⟨u, hu⟩ : ∃ u, (mkAt l k).2.2 = u := ⟨_, rfl⟩
      rw [hu] at c2
      have hub := HC.out k hkl
      rw [hu] at hub
      obtain ⟨u0, u1⟩ := hub
      have HU := Lib.hid (show costS (l.take (k + 1)) = m + u by rw [runCost_take l hkl, HM.out, hu])
      have hlt' : (k : Int) < n := by omega
      clear hc hu hkl
      go_wp2
      go_roundw
      case rel => exact ⟨k + 1, by omega, by go_num, by rw [HU.out], by first | rfl | trivial⟩
      case measure => simp [intOf]; omega
    · obtain rfl : k = n := by omega
      go_wp2
      go_ret
      rw [← HM.out, ← HLN.out, runCost_all]
      exact ⟨rfl, rfl⟩
theorem runCost_few {l : List Mk} (h : ∀ k, k < l.length → 1 ≤ (mkAt l k).2.2) : ∀ n, n ≤ l.length → (n : Int) ≤ costS (l.take n)
  | 0, _ => by simp [costS]
  | n + 1, hn => by
    have h1 := runCost_few h n (by omega)
    have h2 := h n (by omega)
    rw [runCost_take l (by omega)]
    omega

/-! ### The laws' rows; what has been seen -/
theorem row_wf {κ : IntKind} {w : World} {a : Option Addr} {n c : Nat} {zs : List Int} (h : IsRow κ w a n c zs) : ∀ y ∈ zs, (Lit.int κ y).wf = true := by
  rcases h with ⟨_, _, _, rfl⟩ | ⟨_, _, _, _, _, _, hw⟩
  · intro y hy; exact absurd hy (by simp)
  · exact hw
theorem row_words {w : World} {a : Option Addr} {n c : Nat} {zs : List Int} (h : IsRow .u32 w a n c zs) : ∀ i, i < (zs.take n).length → 0 ≤ byAt (zs.take n) i ∧ byAt (zs.take n) i < 4294967296 := by
  intro i hi
  have hm : byAt (zs.take n) i ∈ zs.take n := by rw [← byAt_eq hi]; exact List.getElem_mem hi
  have := bounds_u32 (row_wf h _ (List.mem_of_mem_take hm))
  omega
theorem row_datas {w : World} {a : Option Addr} {n c : Nat} {zs : List Int} (h : IsRow .i32 w a n c zs) : ∀ k, w32 (byAt (zs.take n) k) := by
  intro k
  by_cases hi : k < (zs.take n).length
  · have hm : byAt (zs.take n) k ∈ zs.take n := by rw [← byAt_eq hi]; exact List.getElem_mem hi
    exact bounds_i32 (row_wf h _ (List.mem_of_mem_take hm))
  · unfold byAt w32
    rw [List.getD_eq_getElem?_getD, List.getElem?_eq_none (by omega)]
    decide
theorem brs_keep {T : TypeId} {b n : Nat} {f : Nat → Bool} {w w' : World} (h : Brs T b n f w) (k : Below w.heap.size w w') : Brs T b n f w' := BlkAt.keep h k
/-- Which places have been seen in the first i rounds. -/
def snB (f : Nat → Nat) (i p : Nat) : Bool := (List.range i).any fun j => f j == p
theorem snB_succ (f : Nat → Nat) (i : Nat) : snB f (i + 1) = Gra.upB (snB f i) (f i) := by
  funext p
  unfold snB Gra.upB
  rw [List.range_succ, List.any_append]
  by_cases e : p = f i
  · rw [if_pos e]; simp [e]
  · rw [if_neg e]; simp; exact fun q => absurd q.symm e
theorem snB_of {f : Nat → Nat} {i j p : Nat} (hj : j < i) (e : f j = p) : snB f i p = true := List.any_eq_true.2 ⟨j, List.mem_range.2 hj, by simp [e]⟩
theorem mk_lie {w : World} {a : Option Addr} {n c : Nat} {l : List Mk} (h : MkAt w a n c l) (hn : 0 < n) : ∃ b off, a = some ⟨b, off, none⟩ ∧ ∀ i, i < n → w.cell? ⟨b, off + i * 3, none⟩ = some (.int .i64 (mkAt l i).1) := by
  obtain ⟨b, off, e, hc⟩ := h.lie hn
  exact ⟨b, off, e, fun i hi => (hc i hi).1⟩
theorem snB_no {f : Nat → Nat} {i p : Nat} (h : ∀ j, j < i → f j ≠ p) : snB f i p = false := by
  rw [Bool.eq_false_iff]
  intro hc
  obtain ⟨j, hj, e⟩ := List.any_eq_true.1 hc
  exact h j (List.mem_range.1 hj) (by simpa using e)
end Go.Proofs.YtggiaopdgijgnaaGreatDoor
