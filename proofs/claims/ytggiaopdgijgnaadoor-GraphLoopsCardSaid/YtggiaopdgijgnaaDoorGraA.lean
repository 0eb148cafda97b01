/- Package graph: sets of places as bits of one word (no more than 60 places). Conditions: as each says. -/
import Derived.Test.YtggiaopdgijgnaaDoorProg
import Derived.Test.YtggiaopdgijgnaaDoorMak
import Derived.Handy
import Derived.Lib.Hide
import Derived.IntWalk
import Derived.WalkSmall
import Derived.Deep.QuietTactic
import Derived.BigQuiet
import Derived.StillTailTactics
namespace Go.Proofs.YtggiaopdgijgnaaDoor
open Go.RowKit Go.IntWalk

/-- How many words a set of n places has. -/
def szS (n : Nat) : Nat := (n + 63) / 64
/-- A set of n places (60 at most) in block b: those that F tells. -/
def SetAt (b n : Nat) (F : Nat → Bool) (w : World) : Prop := ∃ x : Nat, x < 2 ^ 60 ∧ (∀ i, x.testBit i = (decide (i < n) && F i)) ∧ Ar .u64 72 b (szS n) (fun _ => (x : Int)) w
theorem SetAt.keep {b n : Nat} {F : Nat → Bool} {w w' : World} (h : SetAt b n F w) (k : Below w.heap.size w w') : SetAt b n F w' := by
  obtain ⟨x, h1, h2, h3⟩ := h
  exact ⟨x, h1, h2, h3.keep k⟩
theorem SetAt.kept {b n : Nat} {F : Nat → Bool} {G : Nat → Prop} {w w' : World} (h : SetAt b n F w) (k : Keeps G w w') (hn : ¬ G b) : SetAt b n F w' := by
  obtain ⟨x, h1, h2, h3⟩ := h
  exact ⟨x, h1, h2, h3.kept k hn⟩
theorem SetAt.lt {b n : Nat} {F : Nat → Bool} {w : World} (h : SetAt b n F w) : b < w.heap.size := by
  obtain ⟨x, h1, h2, h3⟩ := h
  exact h3.lt
def hasB (n : Nat) (F : Nat → Bool) (p : Int) : Bool := decide (0 ≤ p ∧ p < n) && F p.toNat
theorem infoU64 : (Tryd.prog.info? 72).map (fun i => (i.zero, i.size, i.bytes)) = some (some (.int .u64 0), 1, 8) := by kernel_rfl

theorem graNewSet_is (n : Nat) (w : World) (hn : n ≤ 60) :
    Calls Tryd.prog 48 #[.int .i64 n] w fun e w' => e = .returned ((.slice (some ⟨w.heap.size, 0, none⟩) (szS n) (szS n))) ∧ SetAt w.heap.size n (fun _ => false) w' ∧ Below w.heap.size w w' := by
  obtain ⟨i0, hi, hz0, hz1, hz2⟩ := info_parts infoU64
  have hn' : (n : Int) ≤ 60 := by omega
  have e : ((n : Int) + 63) / 64 = ((szS n : Nat) : Int) := by unfold szS; omega
  have hs : szS n ≤ 1 := by unfold szS; omega
  have HA := Lib.hid (Ar.made .u64 72 w (szS n))
  go_enter Tryd.func48, Tryd.ntmps48
  go_wp2_with (at_make; refine wpList_make_blk _ rfl _ _ 47 rfl 72 i0 (.int .u64 0) 1 Tryd.underlying47 hi hz0 hz1 _ _ _ _ (szS n) rfl rfl (by first | assumption | (simp; omega)) (by first | assumption | (simp; omega)) (by rw [hz2]; omega) (by unfold maxLen; omega) ?_)
  go_ret
  refine ⟨rfl, ⟨0, by decide, fun i => by simp, HA.out⟩, ?_⟩
  exact (Below.refl _ _).alloc (Nat.le_refl _) _
theorem and63 {k : Nat} (h : k < 64) : bits .and .i64 (k : Int) 63 = (k : Int) := by
  have := bits_and_mask .i64 6 (by decide) (k : Int)
  rw [show (2 : Int) ^ 6 - 1 = 63 by decide] at this
  rw [this, show (2 : Int) ^ 6 = 64 by decide, show (k : Int) % 64 = k by omega]
  exact IntWalk.i64_in _ (by omega)
theorem hasB_nat {n k : Nat} (F : Nat → Bool) (h : k < n) : hasB n F (k : Int) = F k := by
  unfold hasB
  rw [decide_eq_true (by omega), Bool.true_and]
  rfl
theorem hasB_out {n : Nat} {p : Int} (F : Nat → Bool) (h : p < 0 ∨ n ≤ p) : hasB n F p = false := by
  unfold hasB
  rw [decide_eq_false (by omega), Bool.false_and]
set_option maxHeartbeats 1000000 in
theorem shr_bit {x k : Nat} {v : Bool} (h : x.testBit k = v) : bits .and .u64 ((x : Int) / 2 ^ k) 1 = if v = true then 1 else 0 := by
  have h1 := bits_and_mask .u64 1 (by decide) ((x : Int) / 2 ^ k)
  rw [show (2 : Int) ^ 1 - 1 = 1 by decide] at h1
  have h2 : (x : Int) / 2 ^ k = ((x / 2 ^ k : Nat) : Int) := by rw [Int.natCast_ediv, Int.natCast_pow]; rfl
  rw [h1, h2, show (2 : Int) ^ 1 = 2 by decide]
  rw [Nat.testBit_eq_decide_div_mod_eq] at h
  have h3 : x / 2 ^ k % 2 < 2 := Nat.mod_lt _ (by omega)
  generalize x / 2 ^ k = y at *
  rw [show IntKind.u64.wrap ((y : Int) % 2) = (y : Int) % 2 from IntWalk.u64_in _ (by omega)]
  subst h
  by_cases e : y % 2 = 1
  · rw [decide_eq_true e]; simp; omega
  · rw [decide_eq_false e]; simp; omega
set_option maxRecDepth 100000 in
theorem graHas_is {b n : Nat} {F : Nat → Bool} {w : World} (h : SetAt b n F w) (hn : n ≤ 60) (p : Int) :
    Calls Tryd.prog 27 #[.slice (some ⟨b, 0, none⟩) (szS n) (szS n), .int .i64 p] w fun e w' => e = .returned (.bool (hasB n F p)) ∧ w = w' := by
  obtain ⟨x, hx, hb, ha⟩ := h
  have hs : szS n ≤ 1 := by unfold szS; omega
  by_cases h0 : 0 ≤ p ∧ p / 64 < (szS n : Int)
  · obtain ⟨h1, h2⟩ := h0
    obtain ⟨k, rfl⟩ : ∃ k : Nat, p = k := ⟨p.toNat, by omega⟩
    have h3 : (k : Int) / 64 = 0 := by omega
    have hk60 : k < 64 := by omega
    have hc := ha.cell (i := 0) (by omega)
    have HX := Lib.hid hx
    have hx0 : (0 : Int) ≤ x := by omega
    have e1 := and63 hk60
    have hbk : x.testBit k = hasB n F k := by
      rw [hb]
      unfold hasB
      congr 1
      exact decide_eq_decide.2 (by omega)
    have e2 := shr_bit hbk
    generalize hasB n F (k : Int) = v at *
    clear ha hb hx hbk
    cases v <;> simp at e2
    all_goals
      go_enter Tryd.func27, Tryd.ntmps27
      go_wp2
      go_ret
      simp
  · rw [hasB_out F (by unfold szS at h0; omega)]
    clear ha
    by_cases h1 : 0 ≤ p
    · have h2 : decide (p / 64 < (szS n : Int)) = false := by simp; omega
      clear h0 hx hb
      go_enter Tryd.func27, Tryd.ntmps27
      go_wp2
      go_ret
      simp
    · clear h0 hx hb
      go_enter Tryd.func27, Tryd.ntmps27
      go_wp2
      go_ret
      simp
theorem or_bits {x y : Nat} (hx : x < 18446744073709551616) (hy : y < 18446744073709551616) : bits .or .u64 (x : Int) (y : Int) = ((x ||| y : Nat) : Int) := by
  show IntKind.u64.wrap ((BitVec.ofInt 64 x ||| BitVec.ofInt 64 y).toNat : Int) = _
  have h : x ||| y < 18446744073709551616 := Nat.or_lt_two_pow (n := 64) hx hy
  rw [BitVec.toNat_or, BitVec.toNat_ofInt, BitVec.toNat_ofInt]
  have e1 : ((x : Int) % ((2 ^ 64 : Nat) : Int)).toNat = x := by omega
  have e2 : ((y : Int) % ((2 ^ 64 : Nat) : Int)).toNat = y := by omega
  rw [e1, e2]
  exact IntWalk.u64_in _ (by omega)
theorem one_shl {k : Nat} (h : k < 60) : (2 ^ k : Nat) < 2 ^ 60 := Nat.pow_lt_pow_right (by omega) h
set_option maxRecDepth 100000 in
theorem graAdd_is {b n : Nat} {F : Nat → Bool} {w : World} (h : SetAt b n F w) (hn : n ≤ 60) (k : Nat) (hk : k < n) :
    Calls Tryd.prog 37 #[.slice (some ⟨b, 0, none⟩) (szS n) (szS n), .int .i64 k] w fun e w' => e = .returned (.tuple #[]) ∧ SetAt b n (upn F k true) w' ∧ Keeps (fun j => j = b) w w' := by
  obtain ⟨x, hx, hb, ha⟩ := h
  have hs : szS n = 1 := by unfold szS; omega
  rw [hs] at ha ⊢
  have h3 : (k : Int) / 64 = 0 := by omega
  have e1 := and63 (show k < 64 by omega)
  have hc := ha.cell (i := 0) (by omega)
  have hf := ha.free 0
  have HA := Lib.hid ha
  have HX := Lib.hid hx
  have HB := Lib.hid hb
  have HK := Lib.hid hk
  have HN := Lib.hid hn
  have hk0 : (0 : Int) ≤ k := by omega
  clear ha hx hb hk hn hs
  go_enter Tryd.func37, Tryd.ntmps37
  go_still_tail 10, (by kernel_rfl)
  go_wp2
  go_end0
  have hv : bits .or .u64 (x : Int) (IntKind.u64.wrap (2 ^ k)) = ((x ||| 2 ^ k : Nat) : Int) := by
    have h1 := one_shl (show k < 60 by have := HK.out; have := HN.out; omega)
    have h2 := HX.out
    rw [show (2 : Int) ^ k = ((2 ^ k : Nat) : Int) by rw [Int.natCast_pow]; rfl]
    generalize 2 ^ k = y at *
    rw [IntWalk.u64_in _ (by omega)]
    exact or_bits (by omega) (by omega)
  refine ⟨rfl, ⟨x ||| 2 ^ k, Nat.or_lt_two_pow HX.out (one_shl (by have := HK.out; have := HN.out; omega)), fun i => ?_, ?_⟩, ?_⟩
  · rw [Nat.testBit_or, HB.out, Nat.testBit_two_pow]
    unfold upn
    by_cases e : i = k
    · subst e; have := HK.out; simp [this]
    · rw [if_neg e, show decide (k = i) = false from decide_eq_false fun q => e q.symm, Bool.or_false]
  · rw [show szS n = 1 by have := HK.out; have := HN.out; unfold szS; omega, hv]
    have HA2 : Ar .u64 72 b 1 (fun _ => (x : Int)) w.drew := HA.out
    exact (HA2.set 0 _).eq fun i hi => by obtain rfl : i = 0 := (by omega); exact upn_at _ _ _
  · exact (Keeps.of_below _ (Below.refl _ _).drew).trans (Keeps.set1 _ _ _ _)
/-- The places that are in, rising. -/
def plc (F : Nat → Bool) (m : Nat) : List Int := ((List.range m).filter F).map Int.ofNat
theorem plc_succ (F : Nat → Bool) (m : Nat) : plc F (m + 1) = plc F m ++ if F m = true then [(m : Int)] else [] := by
  unfold plc
  rw [List.range_succ, List.filter_append, List.map_append]
  congr 1
  by_cases h : F m = true <;> simp [h]
theorem plc_len (F : Nat → Bool) (m : Nat) : (plc F m).length ≤ m := by
  unfold plc
  rw [List.length_map]
  exact Nat.le_trans (List.length_filter_le _ _) (by simp)
theorem plc_ext {F G : Nat → Bool} {m : Nat} (h : ∀ i, i < m → F i = G i) : plc F m = plc G m := by
  unfold plc
  congr 1
  exact List.filter_congr fun i hi => h i (List.mem_range.1 hi)
theorem plc_cut {F : Nat → Bool} {n : Nat} : ∀ m, n ≤ m → (∀ i, n ≤ i → F i = false) → plc F m = plc F n
  | 0, h, _ => by
    obtain rfl : n = 0 := by omega
    rfl
  | m + 1, h, hF => by
    rcases Nat.lt_or_ge m n with q | q
    · obtain rfl : n = m + 1 := by omega
      rfl
    · rw [plc_succ, hF m q, plc_cut m q hF]
      simp
theorem or_nought {k : Nat} (h : k < 64) : bits .or .i64 0 (k : Int) = (k : Int) := by
  show IntKind.i64.wrap ((BitVec.ofInt 64 0 ||| BitVec.ofInt 64 (k : Int)).toNat : Int) = _
  rw [BitVec.toNat_or, BitVec.toNat_ofInt, BitVec.toNat_ofInt]
  have e1 : ((k : Int) % ((2 ^ 64 : Nat) : Int)).toNat = k := by omega
  rw [e1]
  simp only [Int.zero_emod, Int.toNat_zero, Nat.zero_or]
  exact IntWalk.i64_in _ (by omega)
theorem infoI64 : (Tryd.prog.info? 3).map (fun i => (i.zero, i.size, i.bytes)) = some (some (.int .i64 0), 1, 8) := by kernel_rfl
set_option maxRecDepth 100000 in
theorem graPlaces_is {b n : Nat} {F : Nat → Bool} {w : World} (h : SetAt b n F w) (hn : n ≤ 60) :
    Calls Tryd.prog 31 #[.slice (some ⟨b, 0, none⟩) (szS n) (szS n)] w fun e w' => ∃ v, e = .returned v ∧ OwnW .i64 w' w.heap.size 3 v (plc F n) ∧ Below w.heap.size w w' := by
  obtain ⟨i0, hi, hz0, hz1, hz2⟩ := info_parts infoI64
  obtain ⟨x, hx, hb, ha⟩ := h
  have hs : szS n = if n = 0 then 0 else 1 := by unfold szS; split <;> omega
  by_cases h0 : n = 0
  · rw [if_pos h0] at hs
    rw [hs]
    subst h0
    clear ha hx hb hs hn
    go_enter Tryd.func31, Tryd.ntmps31
    go_wp2
    go_loopw [9, 3, 4, 5, 6, 14] (fun i v _ _ _ _ wr => i = .int .i64 0 ∧ v = .slice none 0 0 ∧ wr = w) (fun _ _ _ _ _ _ _ => 0)
    case atStart => exact ⟨rfl, rfl, rfl⟩
    case round =>
      obtain ⟨rfl, rfl, rfl⟩ := hrel
      go_wp2
      go_ret
      exact ⟨_, rfl, OwnW.nil _ _ _, Below.refl _ _⟩
  · rw [if_neg h0] at hs
    rw [hs] at ha ⊢
    have HA := Lib.hid ha
    have HX := Lib.hid hx
    have HB := Lib.hid hb
    have HN := Lib.hid hn
    have HS := Lib.hid hs
    clear ha hx hb hn hs h0
    go_enter Tryd.func31, Tryd.ntmps31
    go_wp2
    go_loopw [9, 3, 4, 5, 6, 14] (fun i v _ _ _ _ wr => ∃ j : Nat, j ≤ 1 ∧ i = .int .i64 j ∧ OwnW .i64 wr w.heap.size 3 v (plc x.testBit (if j = 0 then 0 else 64)) ∧ Below w.heap.size w wr) (fun i _ _ _ _ _ _ => 1 - (intOf i).toNat)
    case atStart => exact ⟨0, by omega, rfl, OwnW.nil _ _ _, Below.refl _ _⟩
    case round =>
      obtain ⟨j, hj, rfl, ho, hk⟩ := hrel
      have HK := Lib.hid hk
      have HO := Lib.hid ho
      rcases (show j = 0 ∨ j = 1 by omega) with rfl | rfl
      · have hc := (HA.out.keep hk).cell (i := 0) (by omega)
        clear ho hk
        have hx0 : (0 : Int) ≤ x := by omega
        go_wp2
        go_loopw [14, 3, 6] (fun t v _ wa => ∃ i : Nat, i ≤ 64 ∧ t = .int .i64 i ∧ OwnW .i64 wa w.heap.size 3 v (plc x.testBit i) ∧ Below w.heap.size w wa) (fun t _ _ _ => 64 - (intOf t).toNat)
        case atStart => exact ⟨0, by omega, rfl, HO.out, HK.out⟩
        case round =>
          obtain ⟨i, hi', rfl, ho, hk⟩ := hrel
          have HK := Lib.hid hk
          have HO := Lib.hid ho
          by_cases hlt : i < 64
          · have hlt' : (i : Int) < 64 := by omega
            have e2 := fun v (hv : x.testBit i = v) => shr_bit hv
            have HP := Lib.hid (plc_succ x.testBit i)
            obtain ⟨v, hv⟩ : ∃ v, x.testBit i = v := ⟨_, rfl⟩
            have e3 := e2 _ hv
            have HV := Lib.hid hv
            have e4 := or_nought hlt
            have hsz := hk.size
            have hll : (plc x.testBit i).length ≤ 64 := Nat.le_trans (plc_len _ _) hi'
            clear e2 hv ho hk hi' hlt
            cases v with
            | false =>
              simp at e3
              go_wp2
              go_roundw
              case rel => exact ⟨i + 1, by omega, by go_num, by rw [HP.out, HV.out, if_neg (by simp), List.append_nil]; exact HO.out, HK.out⟩
              case measure => simp [intOf]; omega
            | true =>
              simp at e3
              go_wp2_with (at_builtin; refine wpList_append_w rfl _ _ 25 rfl w.heap.size 3 i0 (.int .i64 0) Tryd.underlying25 hi hz0 hz1 (by omega) rfl rfl (HO.out.keep ((Below.refl _ _).alloc (Nat.le_refl _) _)) rfl (Ws.oneb .i64 (b := wr.heap.size) _ _ _ (by simp)) (by omega) (by simp; omega) ?_; intro v' w2 hown hgr)
              have hob := HO.out.lt
              go_roundw
              case rel => exact ⟨i + 1, by omega, by go_num, by rw [HP.out, HV.out, if_pos rfl]; exact hown, ((HK.out.alloc hsz _).grown hgr (by simp; omega) fun q hq => (hob q hq).1)⟩
              case measure => simp [intOf]; omega
          · obtain rfl : i = 64 := by omega
            clear ho hk hlt hi'
            go_wp2
            go_roundw
            case rel => exact ⟨1, by omega, by go_num, HO.out, HK.out⟩
            case measure => simp [intOf]
      · clear ho hk
        have HE := Lib.hid (show plc x.testBit 64 = plc F n from by
          rw [plc_cut 64 (n := n) (by have := HN.out; omega) fun i hi => by rw [HB.out, decide_eq_false (by omega), Bool.false_and]]
          exact plc_ext fun i hi => by rw [HB.out, decide_eq_true hi, Bool.true_and])
        go_wp2
        go_ret
        exact ⟨_, rfl, by rw [← HE.out]; exact HO.out, HK.out⟩
end Go.Proofs.YtggiaopdgijgnaaDoor
