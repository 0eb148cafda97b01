/- The program's core, as it is called: of one that New made, and of nobody; New, Begin, Step, Run, Load, Poke. Conditions: fewer marks than a million; words are words. -/
import Derived.Test.YtgmphfagflhglaaGreatDoorCorF
import Derived.OwnWalk
import Derived.Test.YtgmphfagflhglaaGreatDoorMak
namespace Go.Proofs.YtgmphfagflhglaaGreatDoor
open Go.RowKit

open Go.RowKit Go.IntWalk

theorem corSelf (a : Addr) (w : World) : Sem.run Tryz.prog (binOp .neq 33 (.pointer (some a)) (.pointer (some a))) w = .ok (.bool false) w := by
  have hj : (Tryz.prog.info? 72).isSome = true := by kernel_rfl
  obtain ⟨j, hj⟩ := Option.isSome_iff_exists.1 hj
  exact Lib.run_neq_ptr_same w a Tryz.underlying33 hj
theorem corOther (a : Addr) (w : World) : Sem.run Tryz.prog (binOp .neq 33 (.pointer none) (.pointer (some a))) w = .ok (.bool true) w := by
  have h : ∀ d : Nat, (Op.equalIn (d + 1) 33 (.pointer none) (.pointer (some a))).run Tryz.prog w = .ok false w := fun d => by
    simp [Op.equalIn, run_underlying Tryz.underlying33]
  simp only [binOp]
  simp [Op.equal, Op.maxDepth, h 9999]
/-- Whose machine v is. -/
def MadeC (c : Value) (w : World) (v : Value) : Prop := ∀ w1, Below w.heap.size w w1 → Calls Tryz.prog 29 #[c] w1 fun e w' => e = .returned v ∧ w1 = w'
theorem MadeC.keep {c v : Value} {w w' : World} (h : MadeC c w v) (hb : Below w.heap.size w w') : MadeC c w' v := fun w1 h1 => h w1 (hb.trans (h1.mono hb.size))
theorem MadeC.now {c v : Value} {w : World} (h : MadeC c w v) : Calls Tryz.prog 29 #[c] w fun e w' => e = .returned v ∧ w = w' := h w (Below.refl _ _)
theorem made_nil (w : World) : MadeC (.pointer none) w (.pointer none) := by
  intro w1 _
  go_enter Tryz.func29, Tryz.ntmps29
  go_wp2
  go_ret
  exact ⟨rfl, rfl⟩
theorem made_odd {b : Nat} {w : World} (h : w.cell? ⟨b, 38, none⟩ = some (.pointer none)) : MadeC (.pointer (some ⟨b, 0, none⟩)) w (.pointer none) := by
  intro w1 hb
  have c1 := (hb.cell (p := ⟨b, 38, none⟩) (cell_lt h)).trans h
  have q0 := corSelf
  have q1 := corOther
  clear h hb
  go_enter Tryz.func29, Tryz.ntmps29
  go_wp2
  go_ret
  exact ⟨rfl, rfl⟩
theorem made_is {b : Nat} {w : World} (h : w.cell? ⟨b, 38, none⟩ = some (.pointer (some ⟨b, 0, none⟩))) : MadeC (.pointer (some ⟨b, 0, none⟩)) w (.pointer (some ⟨b, 0, none⟩)) := by
  intro w1 hb
  have c1 := (hb.cell (p := ⟨b, 38, none⟩) (cell_lt h)).trans h
  have q0 := corSelf
  have q1 := corOther
  clear h hb
  go_enter Tryz.func29, Tryz.ntmps29
  go_wp2
  go_ret
  exact ⟨rfl, rfl⟩
section
variable {w : World} {base b : Nat} {F : Nat → Prop} {code : List Int} {s : Cst}
theorem CorAt.made (h : CorAt w base b F code s) : MadeC (.pointer (some ⟨b, 0, none⟩)) w (.pointer (some ⟨b, 0, none⟩)) := by
  obtain ⟨rb, ca, cn, cc, rv, mv, h⟩ := h
  exact made_is h.cpc.2.2.2.2.2.2
theorem corState_is (h : CorAt w base b F code s) : Calls Tryz.prog 13 #[.pointer (some ⟨b, 0, none⟩)] w fun e w' => e = .returned (.int .i64 s.st) ∧ w = w' := by
  have HM := Lib.hid h.made
  obtain ⟨rb, ca, cn, cc, rv, mv, h⟩ := h
  have c0 := h.cpc.2.2.2.1
  clear h
  go_enter Tryz.func13, Tryz.ntmps13
  go_wp2_with (go_at_call 29; ((with_reducible refine (HM.out.now).mono ?_); rintro e w1 ⟨rfl, rfl⟩))
  go_ret
  exact ⟨rfl, rfl⟩
/-- A register, 0 of others. -/
def regV (s : Cst) (i : Int) : Int := if 0 ≤ i ∧ i < 32 then s.reg i.toNat else 0
theorem corReg_is (h : CorAt w base b F code s) {i v : Int} (hv : regV s i = v) : Calls Tryz.prog 14 #[.pointer (some ⟨b, 0, none⟩), .int .i64 i] w fun e w' => e = .returned (.int .i32 v) ∧ w = w' := by
  have HM := Lib.hid h.made
  obtain ⟨rb, ca, cn, cc, rv, mv, h⟩ := h
  subst hv
  by_cases h0 : 0 ≤ i ∧ i < 32
  · obtain ⟨k, rfl⟩ : ∃ k : Nat, i = k := ⟨i.toNat, by omega⟩
    have c0 := h.creg (d := k) (by omega)
    have hk : (k : Int) < 32 := h0.2
    rw [show regV s (k : Int) = s.reg k by unfold regV; rw [if_pos h0]; rfl]
    clear h h0
    go_enter Tryz.func14, Tryz.ntmps14
    go_wp2_with (go_at_call 29; ((with_reducible refine (HM.out.now).mono ?_); rintro e w1 ⟨rfl, rfl⟩))
    go_ret
    exact ⟨rfl, rfl⟩
  · rw [show regV s i = 0 by unfold regV; rw [if_neg h0]]
    clear h
    by_cases h1 : i < 0
    · have e0 : decide (0 ≤ i) = false := by simpa using h1
      clear h0
      go_enter Tryz.func14, Tryz.ntmps14
      go_wp2_with (go_at_call 29; ((with_reducible refine (HM.out.now).mono ?_); rintro e w1 ⟨rfl, rfl⟩))
      go_ret
      exact ⟨rfl, rfl⟩
    · have e0 : 0 ≤ i := by omega
      have e1 : 32 ≤ i := by omega
      clear h0 h1
      go_enter Tryz.func14, Tryz.ntmps14
      go_wp2_with (go_at_call 29; ((with_reducible refine (HM.out.now).mono ?_); rintro e w1 ⟨rfl, rfl⟩))
      go_ret
      exact ⟨rfl, rfl⟩
theorem CorAt.keep {w' : World} (h : CorAt w base b F code s) (k : Below w.heap.size w w') : CorAt w' base b F code s :=
  match h with | ⟨rb, ca, cn, cc, rv, mv, h⟩ => ⟨rb, ca, cn, cc, rv, mv, h.keep k⟩
theorem CorAt.kept {w' : World} {G : Nat → Prop} (h : CorAt w base b F code s) (k : Keeps G w w') (hG : ∀ j, G j → base ≤ j) (ha : ∀ j, F j → ¬ G j) : CorAt w' base b F code s :=
  match h with | ⟨rb, ca, cn, cc, rv, mv, h⟩ => ⟨rb, ca, cn, cc, rv, mv, h.kept k hG ha⟩
theorem CorAt.fF (h : CorAt w base b F code s) : ∀ j, F j → base ≤ j ∧ j < w.heap.size := match h with | ⟨_, _, _, _, _, _, h⟩ => h.fF
theorem CorAt.fb (h : CorAt w base b F code s) : F b := match h with | ⟨_, _, _, _, _, _, h⟩ => h.fb
end

open Go.RowKit Go.IntWalk

/-- The instructions of the first k words; 0 else. -/
def decC (l : List Int) (k : Nat) (i : Nat) : Value := if i / 5 < k then .int .i64 (insF (byAt l (i / 5)) (i % 5)) else .int .i64 0
theorem dec_next {w : World} {g n k : Nat} {T : TypeId} {l : List Int} (h : BlkAt g T (fnArr (n * 5) (decC l k)) w) {o d a b m : Int} (ho : insF (byAt l k) 0 = o) (hd : insF (byAt l k) 1 = d) (ha : insF (byAt l k) 2 = a) (hb : insF (byAt l k) 3 = b) (hm : insF (byAt l k) 4 = m) :
    BlkAt g T (fnArr (n * 5) (decC l (k + 1))) (((((w.setCell ⟨g, k * 5, none⟩ (.int .i64 o)).setCell ⟨g, k * 5 + 1, none⟩ (.int .i64 d)).setCell ⟨g, k * 5 + 2, none⟩ (.int .i64 a)).setCell ⟨g, k * 5 + 3, none⟩ (.int .i64 b)).setCell ⟨g, k * 5 + 4, none⟩ (.int .i64 m)) := by
  subst ho hd ha hb hm
  refine (((((h.set (k * 5) _).set (k * 5 + 1) _).set (k * 5 + 2) _).set (k * 5 + 3) _).set (k * 5 + 4) _).eq ?_
  rw [fnArr_set, fnArr_set, fnArr_set, fnArr_set, fnArr_set]
  refine fnArr_ext fun i _ => ?_
  by_cases h4 : i = k * 5 + 4
  · subst h4
    rw [if_pos rfl]
    unfold decC
    rw [show (k * 5 + 4) / 5 = k by omega, show (k * 5 + 4) % 5 = 4 by omega, if_pos (by omega)]
  rw [if_neg h4]
  by_cases h3 : i = k * 5 + 3
  · subst h3
    rw [if_pos rfl]
    unfold decC
    rw [show (k * 5 + 3) / 5 = k by omega, show (k * 5 + 3) % 5 = 3 by omega, if_pos (by omega)]
  rw [if_neg h3]
  by_cases h2 : i = k * 5 + 2
  · subst h2
    rw [if_pos rfl]
    unfold decC
    rw [show (k * 5 + 2) / 5 = k by omega, show (k * 5 + 2) % 5 = 2 by omega, if_pos (by omega)]
  rw [if_neg h2]
  by_cases h1 : i = k * 5 + 1
  · subst h1
    rw [if_pos rfl]
    unfold decC
    rw [show (k * 5 + 1) / 5 = k by omega, show (k * 5 + 1) % 5 = 1 by omega, if_pos (by omega)]
  rw [if_neg h1]
  by_cases h0 : i = k * 5
  · subst h0
    rw [if_pos rfl]
    unfold decC
    rw [show (k * 5) / 5 = k by omega, show (k * 5) % 5 = 0 by omega, if_pos (by omega)]
  rw [if_neg h0]
  unfold decC
  by_cases h : i / 5 < k
  · rw [if_pos h, if_pos (by omega)]
  · rw [if_neg h, if_neg (by omega)]
theorem ins_done {w : World} {g n : Nat} {T : TypeId} {l : List Int} (h : BlkAt g T (fnArr (n * 5) (decC l n)) w) (hl : l.length = n) (hn : n ≤ maxLen) : InsAt w (some ⟨g, 0, none⟩) n n l := by
  refine ⟨hl, Nat.le_refl _, hn, fun _ => ⟨g, rfl, fun i hi k hk => ?_⟩⟩
  rw [h.fcell (k := i * 5 + k) (by omega)]
  unfold decC
  rw [show (i * 5 + k) / 5 = i by omega, show (i * 5 + k) % 5 = k by omega, if_pos hi]
theorem infoIns : (Tryz.prog.info? 29).map (fun i => (i.zero, i.size, i.bytes)) = some (some (.agg #[.int .i64 0, .int .i64 0, .int .i64 0, .int .i64 0, .int .i64 0]), 5, 40) := by kernel_rfl
set_option maxRecDepth 100000 in
set_option maxHeartbeats 4000000 in
theorem corDecoded_is (a : Option Addr) (n c : Nat) (l : List Int) (w : World) (h : Ws .u32 w a n c l) (hn : n ≤ 16384) (hs : ShapesLaid w) (hb : ∀ i, i < l.length → 0 ≤ byAt l i ∧ byAt l i < 4294967296) :
    Calls Tryz.prog 27 #[.slice a n c] w fun e w' => e = .returned (.slice (some ⟨w.heap.size, 0, none⟩) n n) ∧ InsAt w' (some ⟨w.heap.size, 0, none⟩) n n l ∧ w.heap.size < w'.heap.size ∧ Below w.heap.size w w' := by
  have hcap := h.cap
  have hbig := h.big
  unfold maxLen at hbig
  have HL := Lib.hid h
  have HS := Lib.hid hs
  have HB := Lib.hid hb
  have HLN := Lib.hid h.len
  obtain ⟨i0, hi, hz0, hz1, hz2⟩ := info_parts infoIns
  have HMC := Lib.hid (made_fn (n := n * 5) (k := 5) (cs := (Value.agg #[.int .i64 0, .int .i64 0, .int .i64 0, .int .i64 0, .int .i64 0]).cells) (z := .int .i64 0) rfl (fun j hj => by rcases (show j = 0 ∨ j = 1 ∨ j = 2 ∨ j = 3 ∨ j = 4 by omega) with rfl | rfl | rfl | rfl | rfl <;> rfl) (by omega))
  have hnn : (n : Int) ≤ 16384 := by omega
  clear h hs hb
  go_enter Tryz.func27, Tryz.ntmps27
  go_wp2_with (at_make; refine wpList_make_blk _ rfl _ _ 44 rfl 29 i0 (.agg #[.int .i64 0, .int .i64 0, .int .i64 0, .int .i64 0, .int .i64 0]) 5 Tryz.underlying44 hi hz0 hz1 _ _ _ _ n rfl rfl rfl rfl (by rw [hz2]; omega) (by unfold maxLen; omega) ?_)
  have HA := Lib.hid (show BlkAt w.heap.size 29 (fnArr (n * 5) (decC l 0)) (w.alloc (.cells (madeCells (Value.agg #[.int .i64 0, .int .i64 0, .int .i64 0, .int .i64 0, .int .i64 0]).cells (n * 5)) 29)) from by
    rw [HMC.out]
    exact (BlkAt.new w _ _).eq (fnArr_ext fun i _ => by unfold decC; rw [if_neg (by omega)]))
  have HK := Lib.hid ((Below.refl w.heap.size w).alloc (Nat.le_refl _) (.cells (madeCells (Value.agg #[.int .i64 0, .int .i64 0, .int .i64 0, .int .i64 0, .int .i64 0]).cells (n * 5)) 29))
  go_loopw [11, 4, 5] (fun i _ _ wr => ∃ k : Nat, k ≤ n ∧ i = .int .i64 k ∧ BlkAt w.heap.size 29 (fnArr (n * 5) (decC l k)) wr ∧ Below w.heap.size w wr) (fun i _ _ _ => n - (intOf i).toNat)
  case atStart => exact ⟨0, by omega, rfl, HA.out, HK.out⟩
  case round =>
    obtain ⟨k, hk, rfl, hA, hb⟩ := hrel
    have HAk := Lib.hid hA
    have HBk := Lib.hid hb
    by_cases hlt : k < n
    · obtain ⟨cb, co, rfl, hc⟩ := (HL.out.keep hb).lie (by omega)
      have c9 := hc k hlt
      obtain ⟨v, hv⟩ : ∃ v, byAt l k = v := ⟨_, rfl⟩
      rw [hv] at c9
      have hvb := HB.out k (by have := HLN.out; omega)
      rw [hv] at hvb
      have HV := Lib.hid hv
      obtain ⟨v0, v1⟩ := hvb
      have hlt' : (k : Int) < n := by omega
      have HDe := Lib.hid (fun w2 (hs : ShapesLaid w2) => codeDecode_to (v := v) (w := w2) rfl rfl rfl rfl rfl rfl hs v0 v1)
      have HSh := Lib.hid (HS.out.below hb HS.out.lt)
      clear hA hb hc hv
      go_wp2_with (go_at_call 46; ((with_reducible refine (HDe.out _ HSh.out).mono ?_); rintro e w2 ⟨rfl, hq⟩); have HQ := Lib.hid hq; have hI := HAk.out.keep hq; have HI := Lib.hid hI; have r0 := hI.fcell (k := k * 5) (by omega); have r1 := hI.fcell (k := k * 5 + 1) (by omega); have r2 := hI.fcell (k := k * 5 + 2) (by omega); have r3 := hI.fcell (k := k * 5 + 3) (by omega); have r4 := hI.fcell (k := k * 5 + 4) (by omega); have rf := BlkAt.free hI; clear hI hq)
      go_roundw
      case rel =>
        refine ⟨k + 1, by omega, by go_num, dec_next HI.out (by rw [HV.out]; rfl) (by rw [HV.out]; rfl) (by rw [HV.out]; rfl) (by rw [HV.out]; rfl) (by rw [HV.out]; rfl), ?_⟩
        have hq := HBk.out.trans (HQ.out.mono HBk.out.size)
        exact ((((hq.setCell (p := ⟨w.heap.size, _, none⟩) (Nat.le_refl _) _).setCell (p := ⟨w.heap.size, _, none⟩) (Nat.le_refl _) _).setCell (p := ⟨w.heap.size, _, none⟩) (Nat.le_refl _) _).setCell (p := ⟨w.heap.size, _, none⟩) (Nat.le_refl _) _).setCell (p := ⟨w.heap.size, _, none⟩) (Nat.le_refl _) _
      case measure => simp [intOf]; omega
    · obtain rfl : k = n := by omega
      clear hA hb
      go_wp2
      go_ret
      exact ⟨rfl, ins_done HAk.out HLN.out (by unfold maxLen; omega), HAk.out.lt, HBk.out⟩

open Go.RowKit Go.IntWalk

theorem corNew_code (a : Option Addr) (n c : Nat) (a' : Option Addr) (n' c' : Nat) (w : World) (h : 16384 < n) :
    Calls Tryz.prog 11 #[.slice a n c, .slice a' n' c'] w fun e w' => e = .returned (.tuple #[.pointer none, .int .i64 5]) ∧ Below w.heap.size w w' := by
  have h' : (16384 : Int) < n := by omega
  go_enter Tryz.func11, Tryz.ntmps11
  go_wp2
  go_ret2
  exact ⟨rfl, Below.refl _ _⟩
theorem corNew_long (a : Option Addr) (n c : Nat) (a' : Option Addr) (n' c' : Nat) (w : World) (h : n ≤ 16384) (h2 : 2048 < n') :
    Calls Tryz.prog 11 #[.slice a n c, .slice a' n' c'] w fun e w' => e = .returned (.tuple #[.pointer none, .int .i64 5]) ∧ Below w.heap.size w w' := by
  have h' : ¬ (16384 : Int) < n := by omega
  go_enter Tryz.func11, Tryz.ntmps11
  go_wp2_with (go_at_call 26; ((with_reducible refine (ramNew_long a' n' c' _ h2).mono ?_); rintro e w1 ⟨rfl, hk⟩); have HK := Lib.hid hk; clear hk)
  go_ret2
  exact ⟨rfl, HK.out⟩
theorem core_cells (b rb g n : Nat) (data : List Int) : fnArr 39 (corC b rb (some ⟨g, 0, none⟩) n n (.slice none 0 0) 0 (beginS data)) =
    #[.pointer (some ⟨rb, 0, none⟩), .slice (some ⟨g, 0, none⟩) n n, .int .i32 0, .int .i32 0, .int .i32 0, .int .i32 0, .int .i32 0, .int .i32 0, .int .i32 0, .int .i32 0, .int .i32 0, .int .i32 0, .int .i32 0, .int .i32 0, .int .i32 0, .int .i32 0, .int .i32 0, .int .i32 0, .int .i32 0, .int .i32 0, .int .i32 0, .int .i32 0, .int .i32 0, .int .i32 0, .int .i32 0, .int .i32 0, .int .i32 0, .int .i32 0, .int .i32 0, .int .i32 0, .int .i32 0, .int .i32 0, .int .i32 0, .int .i32 0,
      .int .i64 0, .int .i64 0, .int .i64 0, .slice none 0 0, .pointer (some ⟨b, 0, none⟩)] := by
  apply Array.ext_getElem?
  intro i
  by_cases h : i < 39
  · rw [fnArr_get _ h]
    match i, h with
    | 0, _ => rfl
    | 1, _ => rfl
    | 2, _ => rfl
    | 3, _ => rfl
    | 4, _ => rfl
    | 5, _ => rfl
    | 6, _ => rfl
    | 7, _ => rfl
    | 8, _ => rfl
    | 9, _ => rfl
    | 10, _ => rfl
    | 11, _ => rfl
    | 12, _ => rfl
    | 13, _ => rfl
    | 14, _ => rfl
    | 15, _ => rfl
    | 16, _ => rfl
    | 17, _ => rfl
    | 18, _ => rfl
    | 19, _ => rfl
    | 20, _ => rfl
    | 21, _ => rfl
    | 22, _ => rfl
    | 23, _ => rfl
    | 24, _ => rfl
    | 25, _ => rfl
    | 26, _ => rfl
    | 27, _ => rfl
    | 28, _ => rfl
    | 29, _ => rfl
    | 30, _ => rfl
    | 31, _ => rfl
    | 32, _ => rfl
    | 33, _ => rfl
    | 34, _ => rfl
    | 35, _ => rfl
    | 36, _ => rfl
    | 37, _ => rfl
    | 38, _ => rfl
    | i + 39, h => exact absurd h (by omega)
  · rw [Array.getElem?_eq_none (by rw [fnArr_size]; omega), Array.getElem?_eq_none (by simpa using h)]
set_option maxRecDepth 100000 in
set_option maxHeartbeats 4000000 in
theorem corNew_is (a : Option Addr) (n c : Nat) (l : List Int) (a' : Option Addr) (n' c' : Nat) (data : List Int) (w : World) (h : Ws .u32 w a n c l) (h2 : Ws .i32 w a' n' c' data) (hn : n ≤ 16384) (hn' : n' ≤ 2048) (ht : TabsAt w.heap.size w) (hb : ∀ i, i < l.length → 0 ≤ byAt l i ∧ byAt l i < 4294967296) :
    Calls Tryz.prog 11 #[.slice a n c, .slice a' n' c'] w fun e w' => ∃ b F, e = .returned (.tuple #[.pointer (some ⟨b, 0, none⟩), .int .i64 0]) ∧ CorAt w' w.heap.size b F l (beginS data) ∧ Below w.heap.size w w' := by
  have h' : ¬ (16384 : Int) < n := by omega
  have HL := Lib.hid h
  have HD := Lib.hid h2
  have HT := Lib.hid ht
  have HB := Lib.hid hb
  clear h h2 ht hb
  go_enter Tryz.func11, Tryz.ntmps11
  go_wp2_with (first
    | (go_at_call 26; ((with_reducible refine (ramNew_is a' n' c' data _ HD.out hn').mono ?_); rintro e w1 ⟨rb, rv, rfl, hr, hk⟩); have HR := Lib.hid hr; have HK := Lib.hid hk; have HDe := Lib.hid (corDecoded_is a n c l w1 (HL.out.keep hk) hn (HT.out.keep hk).shapes HB.out); clear hr hk)
    | (go_at_call 27; ((with_reducible refine (HDe.out).mono ?_); rintro e w2 ⟨rfl, hi, hlt, hk⟩); have HI := Lib.hid hi; have HK2 := Lib.hid hk; have HLT := Lib.hid hlt; clear hi hk hlt))
  go_ret2
  have hr2 := HR.out.keep (HK2.out)
  have hs1 := HK.out.size
  have hs2 := HK2.out.size
  generalize hW3 : World.alloc w2 _ = W3
  have hb3 : Below w2.heap.size w2 W3 := hW3 ▸ (Below.refl w2.heap.size w2).alloc (Nat.le_refl _) _
  have hblk : BlkAt w2.heap.size 72 (fnArr 39 (corC w2.heap.size rb (some ⟨w1.heap.size, 0, none⟩) n n (.slice none 0 0) 0 (beginS data))) W3 := by
    rw [core_cells]
    exact hW3 ▸ BlkAt.new w2 _ _
  have hs3 := hb3.size
  have hlt3 := hblk.lt
  have hrl := hr2.blk.lt
  have hlt := HLT.out
  have hrb := HR.out.blk.lt
  refine ⟨w2.heap.size, fun j => w.heap.size ≤ j ∧ j < W3.heap.size, rfl, ?_, (HK.out.trans (HK2.out.mono hs1)).trans (hb3.mono (by omega))⟩
  refine (CorW.at (rb := rb) (rv := rv) (mv := .slice none 0 0) (cyc := 0) (ca := some ⟨w1.heap.size, 0, none⟩) (cn := n) (cc := n) ⟨hblk, HI.out.keep hb3, hr2.keep hb3, OwnMk.nil _ _ _, (((HT.out.keep HK.out).keep HK2.out).keep hb3), ⟨by omega, hlt3⟩, ⟨⟨HR.out.ge, by omega⟩, by omega⟩, fun j e => ?_, fun j e => (nomatch e), fun g off e => ?_, fun j h => h⟩ rfl)
  · have h1 := HR.out.own.lt j e
    exact ⟨⟨h1.1, by omega⟩, by omega⟩
  · simp only [Option.some.injEq, Addr.mk.injEq] at e
    obtain ⟨rfl, -⟩ := e
    refine ⟨⟨by omega, by omega⟩, by omega, by omega, fun e => ?_, fun e => (nomatch e)⟩
    have h1 := (HR.out.own.lt _ e).2
    omega
/-- What Begin stores. -/
abbrev zeroL (rb : Nat) (ca : Option Addr) (cn cc : Nat) : List Value :=
  [.pointer (some ⟨rb, 0, none⟩), .slice ca cn cc, .int .i32 0, .int .i32 0, .int .i32 0, .int .i32 0, .int .i32 0, .int .i32 0, .int .i32 0, .int .i32 0, .int .i32 0, .int .i32 0, .int .i32 0, .int .i32 0, .int .i32 0, .int .i32 0, .int .i32 0, .int .i32 0, .int .i32 0, .int .i32 0, .int .i32 0, .int .i32 0, .int .i32 0, .int .i32 0, .int .i32 0, .int .i32 0, .int .i32 0, .int .i32 0, .int .i32 0, .int .i32 0, .int .i32 0, .int .i32 0, .int .i32 0, .int .i32 0, .int .i64 0, .int .i64 0, .int .i64 0, .slice none 0 0]
theorem begin_blk {b rb : Nat} {ca : Option Addr} {cn cc : Nat} {mv : Value} {cyc : Int} {s : Cst} {W W' : World} (ram : List Int) (h : BlkAt b 72 (fnArr 39 (corC b rb ca cn cc mv cyc s)) W) (hW : W.setCells b 0 (zeroL rb ca cn cc) = W') :
    BlkAt b 72 (fnArr 39 (corC b rb ca cn cc (.slice none 0 0) 0 (beginS ram))) W' ∧ Keeps (fun j => j = b) W W' := by
  subst hW
  obtain ⟨h1, h2⟩ := setCells_blk (zeroL rb ca cn cc) 0 h
  refine ⟨h1.eq ?_, h2⟩
  apply Array.ext_getElem?
  intro i
  by_cases h9 : i < 38
  · rw [setsA_in _ _ _ (by omega) (by simp; omega) (by rw [fnArr_size]; omega), fnArr_get _ (by omega)]
    match i, h9 with
    | 0, _ => rfl
    | 1, _ => rfl
    | 2, _ => rfl
    | 3, _ => rfl
    | 4, _ => rfl
    | 5, _ => rfl
    | 6, _ => rfl
    | 7, _ => rfl
    | 8, _ => rfl
    | 9, _ => rfl
    | 10, _ => rfl
    | 11, _ => rfl
    | 12, _ => rfl
    | 13, _ => rfl
    | 14, _ => rfl
    | 15, _ => rfl
    | 16, _ => rfl
    | 17, _ => rfl
    | 18, _ => rfl
    | 19, _ => rfl
    | 20, _ => rfl
    | 21, _ => rfl
    | 22, _ => rfl
    | 23, _ => rfl
    | 24, _ => rfl
    | 25, _ => rfl
    | 26, _ => rfl
    | 27, _ => rfl
    | 28, _ => rfl
    | 29, _ => rfl
    | 30, _ => rfl
    | 31, _ => rfl
    | 32, _ => rfl
    | 33, _ => rfl
    | 34, _ => rfl
    | 35, _ => rfl
    | 36, _ => rfl
    | 37, _ => rfl
    | i + 38, h => exact absurd h (by omega)
  · rw [setsA_out _ _ _ (.inr (by simp; omega))]
    by_cases h8 : i = 38
    · subst h8
      rw [fnArr_get _ (by omega), fnArr_get _ (by omega)]
      rfl
    · rw [Array.getElem?_eq_none (by rw [fnArr_size]; omega), Array.getElem?_eq_none (by rw [fnArr_size]; omega)]
section
variable {w : World} {base b : Nat} {F : Nat → Prop} {code : List Int} {s : Cst}
theorem CorTo.refl (h : CorAt w base b F code s) : CorTo w base b F code s w := ⟨F, h, Grows.refl F w⟩
theorem corStepT_is {R : Nat} (h : CorAt w base b F code s) (hg : Good code.length R s) (hN : code.length < 1048576) (hR : R ≤ 1048576) (hm : s.mks.length < 1048576) :
    Calls Tryz.prog 28 #[.pointer (some ⟨b, 0, none⟩)] w fun e w' => e = .returned (.bool (decide (s.st = 0))) ∧ CorTo w base b F code (stepT code s) w' := by
  have HM := Lib.hid h.made
  by_cases hst : s.st = 0
  · have HS := Lib.hid (corStep_is h hg hst hN hR hm)
    rw [stepT_on hst, decide_eq_true hst]
    obtain ⟨rb, ca, cn, cc, rv, mv, h⟩ := h
    have c0 := h.cpc.2.2.2.1
    rw [hst] at c0
    clear h hst hg hN hR hm
    go_enter Tryz.func28, Tryz.ntmps28
    go_wp2_with (first
      | (go_at_call 29; ((with_reducible refine (HM.out.now).mono ?_); rintro e w1 ⟨rfl, rfl⟩))
      | (go_at_call 47; ((with_reducible refine (HS.out).mono ?_); rintro e w2 ⟨rfl, ht⟩); have HT := Lib.hid ht; clear ht))
    go_ret
    exact ⟨rfl, HT.out⟩
  · rw [stepT_off hst, decide_eq_false hst]
    have HT := Lib.hid (CorTo.refl h)
    obtain ⟨rb, ca, cn, cc, rv, mv, h⟩ := h
    have c0 := h.cpc.2.2.2.1
    have e0 : (s.st != 0) = true := by simpa using hst
    clear h hst hg hN hR hm
    go_enter Tryz.func28, Tryz.ntmps28
    go_wp2_with (go_at_call 29; ((with_reducible refine (HM.out.now).mono ?_); rintro e w1 ⟨rfl, rfl⟩))
    go_ret
    exact ⟨rfl, HT.out⟩
theorem mks_exe (s : Cst) (o : Int) (d a q : Nat) (n : Int) : (exeS s o d a q n).mks.length ≤ s.mks.length + 1 := by
  have hk : ∀ (s : Cst) nx ad co, (s.mark nx ad co).mks.length = s.mks.length + 1 := fun s nx ad co => by simp [Cst.mark]
  have hs : ∀ (s : Cst) k, (s.stop k).mks = s.mks := fun _ _ => rfl
  have hp : ∀ (s : Cst) d x, (s.put d x).mks = s.mks := fun _ _ _ => rfl
  have hh : ∀ (s : Cst) l, (s.hold l).mks = s.mks := fun _ _ => rfl
  unfold exeS
  repeat' split
  all_goals simp only [hk, hs, hp, hh]
  all_goals omega
theorem mks_step (code : List Int) (s : Cst) : (stepT code s).mks.length ≤ s.mks.length + 1 := by
  unfold stepT stepS
  split
  · split
    · split
      · exact mks_exe _ _ _ _ _ _
      · exact Nat.le_succ _
    · exact Nat.le_succ _
  · exact Nat.le_succ _
theorem mks_run (code : List Int) : ∀ (n : Nat) (s : Cst), (runT code n s).mks.length ≤ s.mks.length + n
  | 0, _ => Nat.le_refl _
  | n + 1, s => by
    have h1 := mks_run code n (stepT code s)
    have h2 := mks_step code s
    show (runT code n (stepT code s)).mks.length ≤ _
    omega
theorem CorTo.next {w1 w2 : World} {s2 : Cst} {F1 : Nat → Prop} (g : Grows F w F1 w1) (h : CorTo w1 base b F1 code s2 w2) : CorTo w base b F code s2 w2 :=
  match h with | ⟨F', h, k⟩ => ⟨F', h, g.trans k⟩
set_option maxRecDepth 100000 in
set_option maxHeartbeats 4000000 in
theorem corRun_is {R : Nat} (fuel : Int) (m : Nat) (h : CorAt w base b F code s) (hg : Good code.length R s) (hN : code.length < 1048576) (hR : R ≤ 1048576) (hf : (fuel ≤ 0 ∧ m = 0) ∨ (0 ≤ fuel ∧ fuel ≤ 1048576 ∧ fuel = m)) (hf0 : -9223372036854775808 ≤ fuel) (hm : s.mks.length + m < 1048576) :
    Calls Tryz.prog 12 #[.pointer (some ⟨b, 0, none⟩), .int .i64 fuel] w fun e w' => e = .returned (.int .i64 (runN code m s)) ∧ CorTo w base b F code (runT code m s) w' := by
  have H := Lib.hid h
  have HG := Lib.hid hg
  have HMM := Lib.hid hm
  have HNR := Lib.hid (And.intro hN hR)
  have HF := Lib.hid hf
  have hf1 : fuel ≤ 1048576 := by omega
  clear h hg hN hR hf hm
  go_enter Tryz.func12, Tryz.ntmps12
  go_wp2
  go_loopw [6] (fun i wr => ∃ k : Nat, k ≤ m ∧ i = .int .i64 k ∧ runN code k s = k ∧ CorTo w base b F code (runT code k s) wr) (fun i _ => m - (intOf i).toNat)
  case atStart => exact ⟨0, by omega, rfl, rfl, CorTo.refl H.out⟩
  case round =>
    obtain ⟨k, hk, rfl, hn, F1, h1, g1⟩ := hrel
    have HN := Lib.hid hn
    have HG1 := Lib.hid g1
    have H1 := Lib.hid h1
    have hml := mks_run code k s
    have hmm := HMM.out
    have hff := HF.out
    by_cases hlt : k < m
    · have hlt' : (k : Int) < fuel := by omega
      have hs := (corStepT_is h1 (HG.out.run (by have := HNR.out.1; omega) k) HNR.out.1 HNR.out.2 (by omega))
      clear hn h1 g1 hml hmm hff
      by_cases hst : (runT code k s).st = 0
      · rw [decide_eq_true hst] at hs
        have HS2 := Lib.hid hs
        have HST := Lib.hid hst
        clear hst hs
        go_wp2_with (go_at_call 28; ((with_reducible refine (HS2.out).mono ?_); rintro e w2 ⟨rfl, ht⟩); have HT := Lib.hid ht; clear ht)
        go_roundw
        case rel => exact ⟨k + 1, by omega, by go_num, by rw [runN_next, HN.out, if_pos HST.out], by rw [runT_next]; exact HT.out.next HG1.out⟩
        case measure => simp [intOf]; omega
      · rw [decide_eq_false hst] at hs
        have HS2 := Lib.hid hs
        have HST := Lib.hid hst
        clear hst hs
        go_wp2_with (go_at_call 28; ((with_reducible refine (HS2.out).mono ?_); rintro e w2 ⟨rfl, ht⟩); have HT := Lib.hid ht; clear ht)
        go_ret
        obtain ⟨j, rfl⟩ : ∃ j, m = k + j := ⟨m - k, by omega⟩
        rw [runN_add, runN_off HST.out, runT_add, runT_off HST.out, HN.out]
        have := HT.out
        rw [stepT_off HST.out] at this
        exact ⟨rfl, this.next HG1.out⟩
    · obtain rfl : k = m := by omega
      have hge : fuel ≤ (k : Int) := by omega
      clear hn h1 g1 hml hmm hff
      go_wp2_with fail
      go_ret
      rw [HN.out]
      exact ⟨rfl, F1, H1.out, HG1.out⟩
end

open Go.RowKit Go.IntWalk

section
variable {w : World} {base b : Nat} {F : Nat → Prop} {code : List Int} {s : Cst}
end
section
variable {c : Value} {w : World}
theorem corState_none (h : MadeC c w (.pointer none)) : Calls Tryz.prog 13 #[c] w fun e w' => e = .returned (.int .i64 0) ∧ w = w' := by
  have HM := Lib.hid h
  clear h
  go_enter Tryz.func13, Tryz.ntmps13
  go_wp2_with (go_at_call 29; ((with_reducible refine (HM.out.now).mono ?_); rintro e w1 ⟨rfl, rfl⟩))
  go_ret
  exact ⟨rfl, rfl⟩
theorem corReg_none (h : MadeC c w (.pointer none)) (i : Int) : Calls Tryz.prog 14 #[c, .int .i64 i] w fun e w' => e = .returned (.int .i32 0) ∧ w = w' := by
  have HM := Lib.hid h
  clear h
  go_enter Tryz.func14, Tryz.ntmps14
  go_wp2_with (go_at_call 29; ((with_reducible refine (HM.out.now).mono ?_); rintro e w1 ⟨rfl, rfl⟩))
  go_ret
  exact ⟨rfl, rfl⟩
theorem corStep_none (h : MadeC c w (.pointer none)) : Calls Tryz.prog 28 #[c] w fun e w' => e = .returned (.bool false) ∧ w = w' := by
  have HM := Lib.hid h
  clear h
  go_enter Tryz.func28, Tryz.ntmps28
  go_wp2_with (go_at_call 29; ((with_reducible refine (HM.out.now).mono ?_); rintro e w1 ⟨rfl, rfl⟩))
  go_ret
  exact ⟨rfl, rfl⟩
theorem corRun_none (h : MadeC c w (.pointer none)) : Calls Tryz.prog 12 #[c, .int .i64 5] w fun e w' => e = .returned (.int .i64 0) ∧ w = w' := by
  have HS := Lib.hid (corStep_none h)
  clear h
  go_enter Tryz.func12, Tryz.ntmps12
  go_wp2
  go_loopw [6] (fun i wr => i = .int .i64 0 ∧ wr = w) (fun _ _ => 0)
  case atStart => exact ⟨rfl, rfl⟩
  case round =>
    obtain ⟨rfl, rfl⟩ := hrel
    go_wp2_with (go_at_call 28; ((with_reducible refine (HS.out).mono ?_); rintro e w2 ⟨rfl, rfl⟩))
    go_ret
    exact ⟨rfl, rfl⟩
end
/-- The page's example, in numbers. -/
def exCode : List Int := [31 * 67108864 + 2097152 + 5, 35 * 67108864 + 2097152, 43 * 67108864]
theorem ex_run : runN exCode 9 (beginS [9]) = 3 ∧ (runT exCode 9 (beginS [9])).st = 1 ∧ (runT exCode 9 (beginS [9])).pc = 2 ∧ costS (runT exCode 9 (beginS [9])).mks = 4 ∧ (runT exCode 9 (beginS [9])).ram = [5] := by decide +kernel

end Go.Proofs.YtgmphfagflhglaaGreatDoor
