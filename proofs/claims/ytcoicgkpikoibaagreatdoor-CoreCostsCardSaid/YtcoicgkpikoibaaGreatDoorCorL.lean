/- Layer 16's laws: the page's example, few, same, arguments; what the document says of marks; two cores side by side. -/
import Derived.Test.YtcoicgkpikoibaaGreatDoorCorH
import Derived.Test.YtcoicgkpikoibaaGreatDoorCorU
namespace Go.Proofs.YtcoicgkpikoibaaGreatDoor
open Go.RowKit

open Go.RowKit Go.IntWalk

theorem TabsAt.mono {base base' : Nat} {w : World} (h : TabsAt base w) (k : base ≤ base') : TabsAt base' w := ⟨h.shapes, h.costs, Nat.lt_of_lt_of_le h.gs k, Nat.lt_of_lt_of_le h.gc k⟩
theorem TabsAt.next {w w' : World} (h : TabsAt w.heap.size w) (k : Below w.heap.size w w') : TabsAt w'.heap.size w' := (h.keep k).mono k.size
theorem bel_next {W w w' : World} (h : Below W.heap.size W w) (k : Below w.heap.size w w') : Below W.heap.size W w' := h.trans (k.mono h.size)
section
variable {w : World} {base b : Nat} {F : Nat → Prop} {code : List Int} {s : Cst}
theorem corRun_v {R : Nat} {fuel : Int} {m : Nat} {r : Int} (hr : (runN code m s : Int) = r) (h : CorAt w base b F code s) (hg : Good code.length R s) (hN : code.length < 1048576) (hR : R ≤ 1048576) (hf : (fuel ≤ 0 ∧ m = 0) ∨ (0 ≤ fuel ∧ fuel ≤ 1048576 ∧ fuel = m)) (hf0 : -9223372036854775808 ≤ fuel) (hm : s.mks.length + m < 1048576) :
    Calls Tryz.prog 19 #[.pointer (some ⟨b, 0, none⟩), .int .i64 fuel] w fun e w' => e = .returned (.int .i64 r) ∧ CorTo w base b F code (runT code m s) w' := by
  subst hr; exact corRun_is fuel m h hg hN hR hf hf0 hm
theorem corState_v {k : Int} (h : CorAt w base b F code s) (hk : s.st = k) : Calls Tryz.prog 20 #[.pointer (some ⟨b, 0, none⟩)] w fun e w' => e = .returned (.int .i64 k) ∧ w = w' := by
  subst hk; exact corState_is h
theorem corPC_v {k : Int} (h : CorAt w base b F code s) (hk : s.pc = k) : Calls Tryz.prog 21 #[.pointer (some ⟨b, 0, none⟩)] w fun e w' => e = .returned (.int .i64 k) ∧ w = w' := by
  subst hk; exact corPC_is h
theorem corCycles_v {k : Int} (h : CorAt w base b F code s) (hk : costS s.mks = k) : Calls Tryz.prog 17 #[.pointer (some ⟨b, 0, none⟩)] w fun e w' => e = .returned (.int .i64 k) ∧ w = w' := by
  subst hk; exact corCycles_is h
end
/-- A core that New did not make. -/
abbrev oddCells : Array Value := #[.pointer none, .slice none 0 0, .int .i32 0, .int .i32 0, .int .i32 0, .int .i32 0, .int .i32 0, .int .i32 0, .int .i32 0, .int .i32 0, .int .i32 0, .int .i32 0, .int .i32 0, .int .i32 0, .int .i32 0, .int .i32 0, .int .i32 0, .int .i32 0, .int .i32 0, .int .i32 0, .int .i32 0, .int .i32 0, .int .i32 0, .int .i32 0, .int .i32 0, .int .i32 0, .int .i32 0, .int .i32 0, .int .i32 0, .int .i32 0, .int .i32 0, .int .i32 0, .int .i32 0, .int .i32 0, .int .i64 0, .int .i64 0, .int .i64 0, .slice none 0 0, .pointer none]
theorem odd_made (w : World) : MadeC (.pointer (some ⟨w.heap.size, 0, none⟩)) (w.alloc (.cells oddCells 58)) (.pointer none) := made_odd ((BlkAt.new w _ _).cell 38)
theorem lit_code (w : World) : Ws .u32 (w.alloc (.cells #[.int .u32 2082471941, .int .u32 2350907392, .int .u32 2885681152] 48)) (some ⟨w.heap.size, 0, none⟩) 3 3 exCode := by
  obtain ⟨a, c, e, h⟩ := (OwnW.lit (κ := .u32) w 48 (Nat.le_refl _) exCode (by unfold maxLen; decide) #[.int .u32 2082471941, .int .u32 2350907392, .int .u32 2885681152] rfl).ws
  simp only [exCode, Value.slice.injEq] at e
  obtain ⟨rfl, -, rfl⟩ := e
  exact h
theorem lit_data (w : World) : Ws .i32 (w.alloc (.cells #[.int .i32 9] 21)) (some ⟨w.heap.size, 0, none⟩) 1 1 [9] := by
  obtain ⟨a, c, e, h⟩ := (OwnW.lit (κ := .i32) w 21 (Nat.le_refl _) [9] (by unfold maxLen; decide) #[.int .i32 9] rfl).ws
  simp only [Value.slice.injEq] at e
  obtain ⟨rfl, -, rfl⟩ := e
  exact h
theorem ex_good : Good exCode.length [9].length (beginS [9]) := good_begin fun k => by
  have : byAt [9] k = 9 ∨ byAt [9] k = 0 := by
    rcases (show k = 0 ∨ 1 ≤ k by omega) with rfl | h
    · exact .inl rfl
    · refine .inr ?_
      unfold byAt
      rw [List.getD_eq_getElem?_getD, List.getElem?_eq_none (by simpa using h)]
      rfl
  unfold w32
  rcases this with e | e <;> rw [e] <;> decide
theorem ex_words : ∀ i, i < exCode.length → 0 ≤ byAt exCode i ∧ byAt exCode i < 4294967296 := by decide +kernel
/-- As the example ends. -/
def exE : Cst := runT exCode 9 (beginS [9])
theorem ex_run_is {w : World} {base b : Nat} {F : Nat → Prop} (h : CorAt w base b F exCode (beginS [9])) :
    Calls Tryz.prog 19 #[.pointer (some ⟨b, 0, none⟩), .int .i64 9] w fun e w' => e = .returned (.int .i64 3) ∧ CorTo w base b F exCode exE w' :=
  corRun_v (m := 9) (r := 3) (congrArg Int.ofNat ex_run.1) h ex_good (by decide) (by decide) (.inr ⟨by decide, by decide, rfl⟩) (by decide) (by decide)
theorem ex_load_is {w : World} {base b : Nat} {F : Nat → Prop} (h : CorAt w base b F exCode exE) :
    Calls Tryz.prog 24 #[.pointer (some ⟨b, 0, none⟩), .int .i64 0] w fun e w' => e = .returned (.tuple #[.int .i32 5, .bool true]) ∧ Below w.heap.size w w' := by
  have hr : exE.ram = [5] := ex_run.2.2.2.2
  exact corLoadX_is h (by rw [hr]; decide) (by decide) (by rw [hr]; rfl) (by rw [hr]; rfl)
theorem ex_cyc_is {w : World} {base b : Nat} {F : Nat → Prop} (h : CorAt w base b F exCode exE) : Calls Tryz.prog 17 #[.pointer (some ⟨b, 0, none⟩)] w fun e w' => e = .returned (.int .i64 4) ∧ w = w' := corCycles_v h ex_run.2.2.2.1
theorem ex_st_is {w : World} {base b : Nat} {F : Nat → Prop} (h : CorAt w base b F exCode exE) : Calls Tryz.prog 20 #[.pointer (some ⟨b, 0, none⟩)] w fun e w' => e = .returned (.int .i64 1) ∧ w = w' := corState_v h ex_run.2.1
theorem ex_pc_is {w : World} {base b : Nat} {F : Nat → Prop} (h : CorAt w base b F exCode exE) : Calls Tryz.prog 21 #[.pointer (some ⟨b, 0, none⟩)] w fun e w' => e = .returned (.int .i64 2) ∧ w = w' := corPC_v h ex_run.2.2.1
set_option maxRecDepth 100000 in
set_option maxHeartbeats 8000000 in
theorem corAwake_is (w : World) (ht : TabsAt w.heap.size w) : Calls Tryz.prog 8 #[] w fun e w' => e = .returned (.bool true) ∧ Below w.heap.size w w' := by
  have HA := Lib.hid (fun o => (Below.refl w.heap.size w).alloc (Nat.le_refl _) o)
  have HA2 := Lib.hid (fun o p => ((HA.out o).alloc (HA.out o).size p))
  have HC := Lib.hid ((lit_code w).keep ((Below.refl _ _).alloc (Nat.le_refl _) (.cells #[.int .i32 9] 21)))
  have hd := lit_data (w.alloc (.cells #[.int .u32 2082471941, .int .u32 2350907392, .int .u32 2885681152] 48))
  rw [World.size_alloc] at hd
  have HD := Lib.hid hd
  have HT := Lib.hid (ht.next (HA2.out (.cells #[.int .u32 2082471941, .int .u32 2350907392, .int .u32 2885681152] 48) (.cells #[.int .i32 9] 21)))
  have HA3 := Lib.hid (fun (w : World) o => (Below.refl w.heap.size w).alloc (Nat.le_refl _) o)
  clear ht hd
  go_enter Tryz.func8, Tryz.ntmps8
  go_wp2_with (first
    | (go_at_call 9; ((with_reducible refine (corNew_is _ 3 3 exCode _ 1 1 [9] _ HC.out HD.out (by decide) (by decide) HT.out ex_words).mono ?_); rintro e w1 ⟨b, F, rfl, hc, hk⟩); have HR := Lib.hid hc; have HK := Lib.hid (bel_next (HA2.out _ _) hk); clear hc hk)
    | (go_at_call 19; ((with_reducible refine (ex_run_is HR.out).mono ?_); rintro e w2 ⟨rfl, F2, hc, hg⟩); have HR2 := Lib.hid hc; have HG2 := Lib.hid hg; clear hc hg)
    | (go_at_call 24; ((with_reducible refine (ex_load_is HR2.out).mono ?_); rintro e w3 ⟨rfl, hk⟩); have HR3 := Lib.hid (HR2.out.keep ((Below.refl _ _).trans hk)); have HK3 := Lib.hid hk; clear hk)
    | (go_at_call 23; ((with_reducible refine (corBegin_none (made_nil _)).mono ?_); rintro e w4 ⟨rfl, rfl⟩))
    | (go_at_call 23; ((with_reducible refine (corBegin_none (odd_made _)).mono ?_); rintro e w4 ⟨rfl, rfl⟩))
    | (go_at_call 24; ((with_reducible refine (corLoad_none (made_nil _) 0).mono ?_); rintro e w4 ⟨rfl, rfl⟩))
    | (go_at_call 24; ((with_reducible refine (corLoad_none (odd_made _) 0).mono ?_); rintro e w4 ⟨rfl, rfl⟩))
    | (go_at_call 10; ((with_reducible refine (corStep_none (made_nil _)).mono ?_); rintro e w4 ⟨rfl, rfl⟩))
    | (go_at_call 10; ((with_reducible refine (corStep_none (odd_made _)).mono ?_); rintro e w4 ⟨rfl, rfl⟩))
    | (go_at_call 22; ((with_reducible refine (corPoke_none (made_nil _) 0 1).mono ?_); rintro e w4 ⟨rfl, rfl⟩))
    | (go_at_call 22; ((with_reducible refine (corPoke_none (odd_made _) 0 1).mono ?_); rintro e w4 ⟨rfl, rfl⟩))
    | (go_at_call 19; ((with_reducible refine (corRun_none (made_nil _)).mono ?_); rintro e w4 ⟨rfl, rfl⟩))
    | (go_at_call 19; ((with_reducible refine (corRun_none (odd_made _)).mono ?_); rintro e w4 ⟨rfl, rfl⟩))
    | (go_at_call 20; ((with_reducible refine (corState_none (made_nil _)).mono ?_); rintro e w4 ⟨rfl, rfl⟩))
    | (go_at_call 20; ((with_reducible refine (corState_none (odd_made _)).mono ?_); rintro e w4 ⟨rfl, rfl⟩))
    | (go_at_call 21; ((with_reducible refine (corPC_none (made_nil _)).mono ?_); rintro e w4 ⟨rfl, rfl⟩))
    | (go_at_call 21; ((with_reducible refine (corPC_none (odd_made _)).mono ?_); rintro e w4 ⟨rfl, rfl⟩))
    | (go_at_call 17; ((with_reducible refine (corCycles_none (made_nil _)).mono ?_); rintro e w4 ⟨rfl, rfl⟩))
    | (go_at_call 17; ((with_reducible refine (corCycles_none (odd_made _)).mono ?_); rintro e w4 ⟨rfl, rfl⟩))
    | (go_at_call 17; ((with_reducible refine (ex_cyc_is (HR3.out.keep (HA3.out _ _))).mono ?_); rintro e w4 ⟨rfl, rfl⟩))
    | (go_at_call 20; ((with_reducible refine (ex_st_is (HR3.out.keep (HA3.out _ _))).mono ?_); rintro e w4 ⟨rfl, rfl⟩))
    | (go_at_call 21; ((with_reducible refine (ex_pc_is (HR3.out.keep (HA3.out _ _))).mono ?_); rintro e w4 ⟨rfl, rfl⟩))
    | (go_at_call 25; ((with_reducible refine (corReg_none (made_nil _) 1).mono ?_); rintro e w4 ⟨rfl, rfl⟩))
    | (go_at_call 25; ((with_reducible refine (corReg_none (odd_made _) 1).mono ?_); rintro e w4 ⟨rfl, rfl⟩))
    | (go_at_call 14; ((with_reducible refine (corMarks_none (made_nil _)).mono ?_); rintro e w4 ⟨rfl, rfl⟩))
    | (go_at_call 14; ((with_reducible refine (corMarks_none (odd_made _)).mono ?_); rintro e w4 ⟨rfl, rfl⟩))
    | (go_at_call 16; ((with_reducible refine (corRam_none (made_nil _)).mono ?_); rintro e w4 ⟨rfl, rfl⟩))
    | (go_at_call 16; ((with_reducible refine (corRam_none (odd_made _)).mono ?_); rintro e w4 ⟨rfl, rfl⟩)))
  go_ret
  refine ⟨rfl, ?_⟩
  have h2 : Below w.heap.size w w2 := HG2.out.keeps.below HK.out HK.out.size fun j f => (HR.out.fF j f).1 |> Nat.le_trans ((HA2.out (.cells #[.int .u32 2082471941, .int .u32 2350907392, .int .u32 2885681152] 48) (.cells #[.int .i32 9] 21))).size
  exact (bel_next h2 HK3.out).alloc (bel_next h2 HK3.out).size _

open Go.RowKit Go.IntWalk

theorem costS_take (l : List Mk) {k : Nat} (h : k < l.length) : costS (l.take (k + 1)) = costS (l.take k) + (mkAt l k).2.2 := by
  rw [List.take_succ_eq_append_getElem h, costS_app, costS_one, mkAt_eq h]
theorem costS_all (l : List Mk) : costS (l.take l.length) = costS l := by rw [List.take_length]
theorem refMkCost_is (a : Option Addr) (n c : Nat) (l : List Mk) (w : World) (h : MkAt w a n c l) (hn : n ≤ 1048576) (hc : ∀ k, k < l.length → 1 ≤ (mkAt l k).2.2 ∧ (mkAt l k).2.2 ≤ 34) :
    Calls Tryz.prog 18 #[.slice a n c] w fun e w' => e = .returned (.int .i64 (costS l)) ∧ w = w' := by
  have hcap := h.cap
  have hbig := h.big
  unfold maxLen at hbig
  have HL := Lib.hid h
  have HC := Lib.hid hc
  have HLN := Lib.hid h.len
  clear h hc
  go_enter Tryz.func18, Tryz.ntmps18
  go_wp2
  go_loopw [3, 4] (fun m i wr => ∃ k : Nat, k ≤ n ∧ i = .int .i64 k ∧ m = .int .i64 (costS (l.take k)) ∧ wr = w) (fun _ i _ => n - (intOf i).toNat)
  case atStart => exact ⟨0, by omega, rfl, rfl, rfl⟩
  case round =>
    obtain ⟨k, hk, rfl, rfl, rfl⟩ := hrel
    have hb := costS_bd (l := l.take k) fun j hj => by
      rw [List.length_take] at hj
      have := HC.out j (by omega)
      rw [show mkAt (l.take k) j = mkAt l j by unfold mkAt; rw [List.getD_eq_getElem?_getD, List.getD_eq_getElem?_getD, List.getElem?_take, if_pos (by omega)]]
      exact this
    rw [List.length_take] at hb
    obtain ⟨m, hm⟩ : ∃ m, costS (l.take k) = m := ⟨_, rfl⟩
    rw [hm] at hb ⊢
    have HM := Lib.hid hm
    have hb1 : 0 ≤ m ∧ m ≤ 100000000 := by have := HLN.out; omega
    obtain ⟨m0, m1⟩ := hb1
    clear hm hb
    by_cases hlt : k < n
    · obtain ⟨g, off, rfl, hc⟩ := HL.out.lie (by omega)
      obtain ⟨-, -, c2⟩ := hc k hlt
      have hkl : k < l.length := by have := HLN.out; omega
      obtain ⟨u, hu⟩ : ∃ u, (mkAt l k).2.2 = u := ⟨_, rfl⟩
      rw [hu] at c2
      have hub := HC.out k hkl
      rw [hu] at hub
      obtain ⟨u0, u1⟩ := hub
      have HU := Lib.hid (show costS (l.take (k + 1)) = m + u by rw [costS_take l hkl, HM.out, hu])
      have hlt' : (k : Int) < n := by omega
      clear hc hu hkl
      go_wp2
      go_roundw
      case rel => exact ⟨k + 1, by omega, by go_num, by rw [HU.out], by first | rfl | trivial⟩
      case measure => simp [intOf]; omega
    · obtain rfl : k = n := by omega
      go_wp2
      go_ret
      rw [← HM.out, ← HLN.out, costS_all]
      exact ⟨rfl, rfl⟩
theorem eq_mk (a b c a' b' c' : Int) (w : World) : Sem.run Tryz.prog (Op.equalIn 10000 47 (.agg #[.int .i64 a, .int .i64 b, .int .i64 c]) (.agg #[.int .i64 a', .int .i64 b', .int .i64 c'])) w = .ok (a == a' && (b == b' && (c == c'))) w := by
  rw [run_equalIn_struct w 9999 47 _ _ (by kernel_rfl) (by kernel_rfl)]
  have hu := Tryz.underlying47
  simp only [Program.fieldsOf, hu]
  go_simp
  repeat' split
  all_goals simp_all
set_option maxHeartbeats 1000000 in
theorem refSameM_is (a a' : Option Addr) (n c c' : Nat) (l : List Mk) (w : World) (hB : MkAt w a n c l) (hB' : MkAt w a' n c' l) :
    Calls Tryz.prog 13 #[.slice a n c, .slice a' n c'] w fun e w' => e = .returned (.bool true) ∧ Below w.heap.size w w' := by
  have hcap := hB.cap
  have hbig := hB.big
  have hcap' := hB'.cap
  have hbig' := hB'.big
  unfold maxLen at hbig hbig'
  have HB := Lib.hid hB
  have HB' := Lib.hid hB'
  clear hB hB'
  go_enter Tryz.func13, Tryz.ntmps13
  go_wp2
  go_loopw [5] (fun i wr => ∃ k : Nat, k ≤ n ∧ i = .int .i64 k ∧ Below w.heap.size w wr) (fun i _ => n - (intOf i).toNat)
  case atStart => exact ⟨0, by omega, rfl, Below.refl _ _⟩
  case round =>
    obtain ⟨k, hk, rfl, hb⟩ := hrel
    have Hb := Lib.hid hb
    by_cases hlt : k < n
    · obtain ⟨b, off, rfl, h1⟩ := (HB.out.keep hb).lie (by omega)
      obtain ⟨b', off', rfl, h2⟩ := (HB'.out.keep hb).lie (by omega)
      obtain ⟨c0, c1, c2⟩ := h1 k hlt
      obtain ⟨d0, d1, d2⟩ := h2 k hlt
      have hlt' : (k : Int) < n := by omega
      generalize (mkAt l k).1 = y0 at *
      generalize (mkAt l k).2.1 = y1 at *
      generalize (mkAt l k).2.2 = y2 at *
      have hE := eq_mk y0 y1 y2 y0 y1 y2
      clear hb h1 h2
      go_wp2
      go_quiet (fail)
      go_wp2
      go_roundw
      case rel => exact ⟨k + 1, by omega, by go_num, below_drewN Hb.out _⟩
      case measure => simp [intOf]; omega
    · obtain rfl : k = n := by omega
      clear hb
      go_wp2
      go_ret
      exact ⟨rfl, Hb.out⟩
theorem corFew_is {a : Option Addr} {n c : Nat} {a' : Option Addr} {n' c' : Nat} {w : World} {k : Bool} (hk : decide (n ≤ 200 ∧ n' ≤ 2048) = k) (hn : n ≤ 9223372036854775807) (hn' : n' ≤ 9223372036854775807) :
    Calls Tryz.prog 7 #[.slice a n c, .slice a' n' c'] w fun e w' => e = .returned (.bool k) ∧ w = w' := by
  by_cases h1 : n ≤ 200
  · have h1' : (n : Int) ≤ 200 := by omega
    by_cases h2 : n' ≤ 2048
    · have h2' : (n' : Int) ≤ 2048 := by omega
      rw [decide_eq_true ⟨h1, h2⟩] at hk
      subst hk
      clear h1 h2
      go_enter Tryz.func7, Tryz.ntmps7
      go_wp2
      go_ret
      exact ⟨by simp, rfl⟩
    · have h2' : (2048 : Int) < n' := by omega
      rw [decide_eq_false (fun h => h2 h.2)] at hk
      subst hk
      clear h1 h2
      go_enter Tryz.func7, Tryz.ntmps7
      go_wp2
      go_ret
      exact ⟨by simpa using h2', rfl⟩
  · have h1' : (200 : Int) < n := by omega
    rw [decide_eq_false (fun h => h1 h.1)] at hk
    subst hk
    clear h1
    have e0 : decide ((n : Int) ≤ 200) = false := by simpa using h1'
    go_enter Tryz.func7, Tryz.ntmps7
    go_wp2
    go_ret
    exact ⟨rfl, rfl⟩
set_option maxRecDepth 100000 in
set_option maxHeartbeats 4000000 in
theorem corSame_is {w : World} {base b b2 : Nat} {F F2 : Nat → Prop} {code : List Int} {s : Cst} (h : CorAt w base b F code s) (h2 : RefAt w base b2 F2 code s) :
    Calls Tryz.prog 12 #[.pointer (some ⟨b, 0, none⟩), .pointer (some ⟨b2, 0, none⟩)] w fun e w' => e = .returned (.bool true) ∧ Below w.heap.size w w' := by
  have H := Lib.hid h
  have H2 := Lib.hid h2
  clear h h2
  go_enter Tryz.func12, Tryz.ntmps12
  go_wp2
  go_loopw [5, 6] (fun i _ wr => ∃ j : Int, -1 ≤ j ∧ j ≤ 33 ∧ i = .int .i64 j ∧ wr = w) (fun i _ _ => (33 - intOf i).toNat)
  case atStart => exact ⟨-1, by omega, by omega, rfl, rfl⟩
  case round =>
    obtain ⟨j, j0, j1, rfl, rfl⟩ := hrel
    by_cases hlt : j ≤ 32
    · by_cases hin : 0 ≤ j ∧ j < 32
      · obtain ⟨d, rfl⟩ : ∃ d : Nat, j = d := ⟨j.toNat, by omega⟩
        have hd : d < 32 := by omega
        obtain ⟨v, hv⟩ : ∃ v, s.reg d = v := ⟨_, rfl⟩
        have cr := hv ▸ H2.out.cells.2.2.1 d hd
        have HR := Lib.hid (corReg_is H.out (i := d) (v := v) (by unfold regV; rw [if_pos hin]; exact hv))
        have hd' : (d : Int) < 32 := hin.2
        clear hv hin j0 j1 hlt hd
        go_wp2_with (go_at_call 25; ((with_reducible refine HR.out.mono ?_); rintro e w2 ⟨rfl, rfl⟩))
        go_roundw
        case rel => exact ⟨(d : Int) + 1, by omega, by omega, by go_num, by first | rfl | trivial⟩
        case measure => simp [intOf]; omega
      · have HR := Lib.hid (corReg_is H.out (i := j) (v := 0) (by unfold regV; rw [if_neg hin]))
        by_cases hn : j < 0
        · obtain rfl : j = -1 := by omega
          clear hin j0 j1 hlt hn
          go_wp2_with (go_at_call 25; ((with_reducible refine HR.out.mono ?_); rintro e w2 ⟨rfl, rfl⟩))
          go_roundw
          case rel => exact ⟨0, by omega, by omega, by go_num, by first | rfl | trivial⟩
          case measure => simp [intOf]
        · obtain rfl : j = 32 := by omega
          clear hin j0 j1 hlt hn
          go_wp2_with (go_at_call 25; ((with_reducible refine HR.out.mono ?_); rintro e w2 ⟨rfl, rfl⟩))
          go_roundw
          case rel => exact ⟨33, by omega, by omega, by go_num, by first | rfl | trivial⟩
          case measure => simp [intOf]
    · have hge : 32 < j := by omega
      have c34 := H2.out.cells.1
      have c35 := H2.out.cells.2.1
      clear hlt j0
      go_wp2
      go_quiet ((first
        | (go_at_call 20; exact quiet_here (corState_is (H.out.keep (below_drewN (Below.refl _ _) _))))
        | (go_at_call 21; exact quiet_here (corPC_is (H.out.keep (below_drewN (Below.refl _ _) _))))))
      go_wp2
      go_ret
      exact ⟨rfl, below_drewN (Below.refl _ _) _⟩

open Go.RowKit Go.IntWalk

theorem IsRow.wf {κ : IntKind} {w : World} {a : Option Addr} {n c : Nat} {zs : List Int} (h : IsRow κ w a n c zs) : ∀ y ∈ zs, (Lit.int κ y).wf = true := by
  rcases h with ⟨_, _, _, rfl⟩ | ⟨_, _, _, _, _, _, hw⟩
  · intro y hy; exact absurd hy (by simp)
  · exact hw
theorem IsRow.words {w : World} {a : Option Addr} {n c : Nat} {zs : List Int} (h : IsRow .u32 w a n c zs) : ∀ i, i < (zs.take n).length → 0 ≤ byAt (zs.take n) i ∧ byAt (zs.take n) i < 4294967296 := by
  intro i hi
  have hm : byAt (zs.take n) i ∈ zs.take n := by rw [← byAt_eq hi]; exact List.getElem_mem hi
  have := bounds_u32 (h.wf _ (List.mem_of_mem_take hm))
  omega
theorem IsRow.datas {w : World} {a : Option Addr} {n c : Nat} {zs : List Int} (h : IsRow .i32 w a n c zs) : ∀ k, w32 (byAt (zs.take n) k) := by
  intro k
  by_cases hi : k < (zs.take n).length
  · have hm : byAt (zs.take n) k ∈ zs.take n := by rw [← byAt_eq hi]; exact List.getElem_mem hi
    exact bounds_i32 (h.wf _ (List.mem_of_mem_take hm))
  · unfold byAt w32
    rw [List.getD_eq_getElem?_getD, List.getElem?_eq_none (by omega)]
    decide
/-- Two owners apart. -/
def Apart (F G : Nat → Prop) : Prop := ∀ j, F j → ¬ G j
theorem Apart.symm {F G : Nat → Prop} (h : Apart F G) : Apart G F := fun j g f => h j f g
/-- The program's core and the document's, side by side. -/
structure Pair (W : World) (b b2 : Nat) (code : List Int) (s : Cst) (w : World) (F F2 : Nat → Prop) : Prop where
  cor : CorAt w W.heap.size b F code s
  ref : RefAt w W.heap.size b2 F2 code s
  apart : Apart F F2
  below : Below W.heap.size W w
/-- The program's has done a step, the document's not yet. -/
structure Half (W : World) (b b2 : Nat) (code : List Int) (s t : Cst) (w : World) (F F2 : Nat → Prop) : Prop where
  cor : CorAt w W.heap.size b F code t
  ref : RefAt w W.heap.size b2 F2 code s
  apart : Apart F F2
  below : Below W.heap.size W w
section
variable {W w w' : World} {b b2 : Nat} {code : List Int} {s t : Cst} {F F2 : Nat → Prop}
theorem Pair.keep (h : Pair W b b2 code s w F F2) (k : Below w.heap.size w w') : Pair W b b2 code s w' F F2 := ⟨h.cor.keep k, h.ref.keep k, h.apart, bel_next h.below k⟩
theorem Pair.half (h : Pair W b b2 code s w F F2) (k : CorTo w W.heap.size b F code t w') : ∃ F', Half W b b2 code s t w' F' F2 := by
  obtain ⟨F', hc, g⟩ := k
  refine ⟨F', hc, h.ref.kept g.keeps (fun j f => (h.cor.fF j f).1) fun j g2 f => h.apart j f g2, ?_, ?_⟩
  · exact Apart.symm (g.apart fun j g2 => ⟨fun f => h.apart j f g2, (h.ref.fF j g2).2⟩)
  · exact g.keeps.below h.below h.below.size fun j f => (h.cor.fF j f).1
theorem Half.pair (h : Half W b b2 code s t w F F2) (k : RefTo w W.heap.size b2 F2 code t w') : ∃ F', Pair W b b2 code t w' F F' := by
  obtain ⟨F', hr, g⟩ := k
  refine ⟨F', h.cor.kept g.keeps (fun j f => (h.ref.fF j f).1) fun j f g2 => h.apart j f g2, hr, ?_, ?_⟩
  · exact g.apart fun j f => ⟨fun g2 => h.apart j f g2, (h.cor.fF j f).2⟩
  · exact g.keeps.below h.below h.below.size fun j f => (h.ref.fF j f).1
theorem Half.same (h : Half W b b2 code s s w F F2) : Pair W b b2 code s w F F2 := ⟨h.cor, h.ref, h.apart, h.below⟩
end
theorem lies {κ : IntKind} {W : World} {a : Option Addr} {n c g off : Nat} {l : List Int} (h : Ws κ W a n c l) (h0 : 0 < n) (e : a = some ⟨g, off, none⟩) : g < W.heap.size := by
  obtain ⟨b, o, e', hc⟩ := h.lie h0
  rw [e] at e'
  simp only [Option.some.injEq, Addr.mk.injEq] at e'
  rw [e'.1]
  exact cell_lt (hc 0 h0)
/-- The document's core as it begins: made by the call, its memory and code the arguments. -/
theorem ref_begin {W w : World} {a : Option Addr} {n c : Nat} {l : List Int} {a' : Option Addr} {n' c' : Nat} {data : List Int} {b : Nat} {F : Nat → Prop} (hl : Ws .u32 W a n c l) (hd : Ws .i32 W a' n' c' data) (hc : CorAt w W.heap.size b F l (beginS data)) (hk : Below W.heap.size W w)
    {cs : Array Value} (hcs : cs = fnArr 37 (refC a n c a' n' c' (.slice none 0 0) (beginS data))) :
    Pair W b w.heap.size l (beginS data) (w.alloc (.cells cs 34)) F (fun j => j = w.heap.size) := by
  have hk2 : Below w.heap.size w (w.alloc (.cells cs 34)) := (Below.refl w.heap.size w).alloc (Nat.le_refl _) _
  subst hcs
  refine ⟨hc.keep hk2, ⟨_, _, _, _, _, _, _, ⟨BlkAt.new w _ _, (hl.keep hk).keep hk2, (hd.keep hk).keep hk2, OwnMk.nil _ _ _, rfl, fun j e => (nomatch e), fun j off p e => .inl (lies hd p e), fun j off p e => lies hl p e, fun j e => ?_⟩⟩, fun j f e => ?_, bel_next hk hk2⟩
  · subst e
    exact ⟨hk.size, (BlkAt.new w 34 _).lt⟩
  · have := (hc.fF j f).2
    omega
theorem ref_cells (a : Option Addr) (n c : Nat) (a' : Option Addr) (n' c' : Nat) (data : List Int) : (#[.slice a n c, .slice a' n' c', .int .i32 0, .int .i32 0, .int .i32 0, .int .i32 0, .int .i32 0, .int .i32 0, .int .i32 0, .int .i32 0, .int .i32 0, .int .i32 0, .int .i32 0, .int .i32 0, .int .i32 0, .int .i32 0, .int .i32 0, .int .i32 0, .int .i32 0, .int .i32 0, .int .i32 0, .int .i32 0, .int .i32 0, .int .i32 0, .int .i32 0, .int .i32 0, .int .i32 0, .int .i32 0, .int .i32 0, .int .i32 0, .int .i32 0, .int .i32 0, .int .i32 0, .int .i32 0, .int .i64 0, .int .i64 0, .slice none 0 0] : Array Value) = fnArr 37 (refC a n c a' n' c' (.slice none 0 0) (beginS data)) := by
  apply Array.ext_getElem?
  intro i
  by_cases h : i < 37
  · rw [fnArr_get _ h]
    match i, h with
    | 0, _ => rfl
    | 1, _ => rfl
    | 2, _ => rfl
    | 3, _ => rfl
    | 4, _ => rfl
    | 5, _ => rfl
    | 6, _ => rfl
    | 7, _ => rfl
    | 8, _ => rfl
    | 9, _ => rfl
    | 10, _ => rfl
    | 11, _ => rfl
    | 12, _ => rfl
    | 13, _ => rfl
    | 14, _ => rfl
    | 15, _ => rfl
    | 16, _ => rfl
    | 17, _ => rfl
    | 18, _ => rfl
    | 19, _ => rfl
    | 20, _ => rfl
    | 21, _ => rfl
    | 22, _ => rfl
    | 23, _ => rfl
    | 24, _ => rfl
    | 25, _ => rfl
    | 26, _ => rfl
    | 27, _ => rfl
    | 28, _ => rfl
    | 29, _ => rfl
    | 30, _ => rfl
    | 31, _ => rfl
    | 32, _ => rfl
    | 33, _ => rfl
    | 34, _ => rfl
    | 35, _ => rfl
    | 36, _ => rfl
    | i + 37, h => exact absurd h (by omega)
  · rw [Array.getElem?_eq_none (by simpa using h), Array.getElem?_eq_none (by rw [fnArr_size]; omega)]

end Go.Proofs.YtcoicgkpikoibaaGreatDoor
