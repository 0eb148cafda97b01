/- Package graph: sets; onward; Next and ways, read; of, begin. Conditions: words are words; no more than 60 of them. -/
import Derived.Test.YtggiaopdgijgnaaGreatDoorProg
import Derived.Test.YtggiaopdgijgnaaGreatDoorMak
import Derived.Handy
import Derived.Lib.Hide
import Derived.IntWalk
import Derived.WalkSmall
import Derived.Deep.QuietTactic
import Derived.BigQuiet
import Derived.StillTailTactics
import Derived.Test.YtggiaopdgijgnaaGreatDoorCodE
import Derived.Test.YtggiaopdgijgnaaGreatDoorShelf
import Derived.Deep.CutBlock
import Derived.Test.YtggiaopdgijgnaaGreatDoorGraP
namespace Go.Proofs.YtggiaopdgijgnaaGreatDoor
open Go.RowKit

open Go.RowKit Go.IntWalk

/-- How many words a set of n places has. -/
def szS (n : Nat) : Nat := (n + 63) / 64
/-- A set of n places (60 at most) in block b: those that F tells. -/
def SetAt (b n : Nat) (F : Nat → Bool) (w : World) : Prop := ∃ x : Nat, x < 2 ^ 60 ∧ (∀ i, x.testBit i = (decide (i < n) && F i)) ∧ Ar .u64 92 b (szS n) (fun _ => (x : Int)) w
theorem SetAt.keep {b n : Nat} {F : Nat → Bool} {w w' : World} (h : SetAt b n F w) (k : Below w.heap.size w w') : SetAt b n F w' := by
  obtain ⟨x, h1, h2, h3⟩ := h
  exact ⟨x, h1, h2, h3.keep k⟩
theorem SetAt.kept {b n : Nat} {F : Nat → Bool} {G : Nat → Prop} {w w' : World} (h : SetAt b n F w) (k : Keeps G w w') (hn : ¬ G b) : SetAt b n F w' := by
  obtain ⟨x, h1, h2, h3⟩ := h
  exact ⟨x, h1, h2, h3.kept k hn⟩
theorem SetAt.lt {b n : Nat} {F : Nat → Bool} {w : World} (h : SetAt b n F w) : b < w.heap.size := by
  obtain ⟨x, h1, h2, h3⟩ := h
  exact h3.lt
def hasB (n : Nat) (F : Nat → Bool) (p : Int) : Bool := decide (0 ≤ p ∧ p < n) && F p.toNat
theorem infoU64 : (Tryz.prog.info? 92).map (fun i => (i.zero, i.size, i.bytes)) = some (some (.int .u64 0), 1, 8) := by kernel_rfl

theorem graNewSet_is (n : Nat) (w : World) (hn : n ≤ 60) :
    Calls Tryz.prog 48 #[.int .i64 n] w fun e w' => e = .returned ((.slice (some ⟨w.heap.size, 0, none⟩) (szS n) (szS n))) ∧ SetAt w.heap.size n (fun _ => false) w' ∧ Below w.heap.size w w' := by
  obtain ⟨i0, hi, hz0, hz1, hz2⟩ := info_parts infoU64
  have hn' : (n : Int) ≤ 60 := by omega
  have e : ((n : Int) + 63) / 64 = ((szS n : Nat) : Int) := by unfold szS; omega
  have hs : szS n ≤ 1 := by unfold szS; omega
  have HA := Lib.hid (Ar.made .u64 92 w (szS n))
  go_enter Tryz.func48, Tryz.ntmps48
  go_wp2_with (at_make; refine wpList_make_blk _ rfl _ _ 56 rfl 92 i0 (.int .u64 0) 1 Tryz.underlying56 hi hz0 hz1 _ _ _ _ (szS n) rfl rfl (by first | assumption | (simp; omega)) (by first | assumption | (simp; omega)) (by rw [hz2]; omega) (by unfold maxLen; omega) ?_)
  go_ret
  refine ⟨rfl, ⟨0, by decide, fun i => by simp, HA.out⟩, ?_⟩
  exact (Below.refl _ _).alloc (Nat.le_refl _) _
theorem and63 {k : Nat} (h : k < 64) : bits .and .i64 (k : Int) 63 = (k : Int) := by
  have := bits_and_mask .i64 6 (by decide) (k : Int)
  rw [show (2 : Int) ^ 6 - 1 = 63 by decide] at this
  rw [this, show (2 : Int) ^ 6 = 64 by decide, show (k : Int) % 64 = k by omega]
  exact IntWalk.i64_in _ (by omega)
theorem hasB_nat {n k : Nat} (F : Nat → Bool) (h : k < n) : hasB n F (k : Int) = F k := by
  unfold hasB
  rw [decide_eq_true (by omega), Bool.true_and]
  rfl
theorem hasB_out {n : Nat} {p : Int} (F : Nat → Bool) (h : p < 0 ∨ n ≤ p) : hasB n F p = false := by
  unfold hasB
  rw [decide_eq_false (by omega), Bool.false_and]
set_option maxHeartbeats 1000000 in
theorem shr_bit {x k : Nat} {v : Bool} (h : x.testBit k = v) : bits .and .u64 ((x : Int) / 2 ^ k) 1 = if v = true then 1 else 0 := by
  have h1 := bits_and_mask .u64 1 (by decide) ((x : Int) / 2 ^ k)
  rw [show (2 : Int) ^ 1 - 1 = 1 by decide] at h1
  have h2 : (x : Int) / 2 ^ k = ((x / 2 ^ k : Nat) : Int) := by rw [Int.natCast_ediv, Int.natCast_pow]; rfl
  rw [h1, h2, show (2 : Int) ^ 1 = 2 by decide]
  rw [Nat.testBit_eq_decide_div_mod_eq] at h
  have h3 : x / 2 ^ k % 2 < 2 := Nat.mod_lt _ (by omega)
  generalize x / 2 ^ k = y at *
  rw [show IntKind.u64.wrap ((y : Int) % 2) = (y : Int) % 2 from IntWalk.u64_in _ (by omega)]
  subst h
  by_cases e : y % 2 = 1
  · rw [decide_eq_true e]; simp; omega
  · rw [decide_eq_false e]; simp; omega
set_option maxRecDepth 100000 in
theorem graHas_is {b n : Nat} {F : Nat → Bool} {w : World} (h : SetAt b n F w) (hn : n ≤ 60) (p : Int) :
    Calls Tryz.prog 23 #[.slice (some ⟨b, 0, none⟩) (szS n) (szS n), .int .i64 p] w fun e w' => e = .returned (.bool (hasB n F p)) ∧ w = w' := by
  obtain ⟨x, hx, hb, ha⟩ := h
  have hs : szS n ≤ 1 := by unfold szS; omega
  by_cases h0 : 0 ≤ p ∧ p / 64 < (szS n : Int)
  · obtain ⟨h1, h2⟩ := h0
    obtain ⟨k, rfl⟩ : ∃ k : Nat, p = k := ⟨p.toNat, by omega⟩
    have h3 : (k : Int) / 64 = 0 := by omega
    have hk60 : k < 64 := by omega
    have hc := ha.cell (i := 0) (by omega)
    have HX := Lib.hid hx
    have hx0 : (0 : Int) ≤ x := by omega
    have e1 := and63 hk60
    have hbk : x.testBit k = hasB n F k := by
      rw [hb]
      unfold hasB
      congr 1
      exact decide_eq_decide.2 (by omega)
    have e2 := shr_bit hbk
    generalize hasB n F (k : Int) = v at *
    clear ha hb hx hbk
    cases v <;> simp at e2
    all_goals
      go_enter Tryz.func23, Tryz.ntmps23
      go_wp2
      go_ret
      simp
  · rw [hasB_out F (by unfold szS at h0; omega)]
    clear ha
    by_cases h1 : 0 ≤ p
    · have h2 : decide (p / 64 < (szS n : Int)) = false := by simp; omega
      clear h0 hx hb
      go_enter Tryz.func23, Tryz.ntmps23
      go_wp2
      go_ret
      simp
    · clear h0 hx hb
      go_enter Tryz.func23, Tryz.ntmps23
      go_wp2
      go_ret
      simp
theorem or_bits {x y : Nat} (hx : x < 18446744073709551616) (hy : y < 18446744073709551616) : bits .or .u64 (x : Int) (y : Int) = ((x ||| y : Nat) : Int) := by
  show IntKind.u64.wrap ((BitVec.ofInt 64 x ||| BitVec.ofInt 64 y).toNat : Int) = _
  have h : x ||| y < 18446744073709551616 := Nat.or_lt_two_pow (n := 64) hx hy
  rw [BitVec.toNat_or, BitVec.toNat_ofInt, BitVec.toNat_ofInt]
  have e1 : ((x : Int) % ((2 ^ 64 : Nat) : Int)).toNat = x := by omega
  have e2 : ((y : Int) % ((2 ^ 64 : Nat) : Int)).toNat = y := by omega
  rw [e1, e2]
  exact IntWalk.u64_in _ (by omega)
theorem one_shl {k : Nat} (h : k < 60) : (2 ^ k : Nat) < 2 ^ 60 := Nat.pow_lt_pow_right (by omega) h
set_option maxRecDepth 100000 in
theorem graAdd_is {b n : Nat} {F : Nat → Bool} {w : World} (h : SetAt b n F w) (hn : n ≤ 60) (k : Nat) (hk : k < n) :
    Calls Tryz.prog 37 #[.slice (some ⟨b, 0, none⟩) (szS n) (szS n), .int .i64 k] w fun e w' => e = .returned (.tuple #[]) ∧ SetAt b n (upn F k true) w' ∧ Keeps (fun j => j = b) w w' := by
  obtain ⟨x, hx, hb, ha⟩ := h
  have hs : szS n = 1 := by unfold szS; omega
  rw [hs] at ha ⊢
  have h3 : (k : Int) / 64 = 0 := by omega
  have e1 := and63 (show k < 64 by omega)
  have hc := ha.cell (i := 0) (by omega)
  have hf := ha.free 0
  have HA := Lib.hid ha
  have HX := Lib.hid hx
  have HB := Lib.hid hb
  have HK := Lib.hid hk
  have HN := Lib.hid hn
  have hk0 : (0 : Int) ≤ k := by omega
  clear ha hx hb hk hn hs
  go_enter Tryz.func37, Tryz.ntmps37
  go_still_tail 10, (by kernel_rfl)
  go_wp2
  go_end0
  have hv : bits .or .u64 (x : Int) (IntKind.u64.wrap (2 ^ k)) = ((x ||| 2 ^ k : Nat) : Int) := by
    have h1 := one_shl (show k < 60 by have := HK.out; have := HN.out; omega)
    have h2 := HX.out
    rw [show (2 : Int) ^ k = ((2 ^ k : Nat) : Int) by rw [Int.natCast_pow]; rfl]
    generalize 2 ^ k = y at *
    rw [IntWalk.u64_in _ (by omega)]
    exact or_bits (by omega) (by omega)
  refine ⟨rfl, ⟨x ||| 2 ^ k, Nat.or_lt_two_pow HX.out (one_shl (by have := HK.out; have := HN.out; omega)), fun i => ?_, ?_⟩, ?_⟩
  · rw [Nat.testBit_or, HB.out, Nat.testBit_two_pow]
    unfold upn
    by_cases e : i = k
    · subst e; have := HK.out; simp [this]
    · rw [if_neg e, show decide (k = i) = false from decide_eq_false fun q => e q.symm, Bool.or_false]
  · rw [show szS n = 1 by have := HK.out; have := HN.out; unfold szS; omega, hv]
    have HA2 : Ar .u64 92 b 1 (fun _ => (x : Int)) w.drew := HA.out
    exact (HA2.set 0 _).eq fun i hi => by obtain rfl : i = 0 := (by omega); exact upn_at _ _ _
  · exact (Keeps.of_below _ (Below.refl _ _).drew).trans (Keeps.set1 _ _ _ _)
/-- The places that are in, rising. -/
def plc (F : Nat → Bool) (m : Nat) : List Int := ((List.range m).filter F).map Int.ofNat
theorem plc_succ (F : Nat → Bool) (m : Nat) : plc F (m + 1) = plc F m ++ if F m = true then [(m : Int)] else [] := by
  unfold plc
  rw [List.range_succ, List.filter_append, List.map_append]
  congr 1
  by_cases h : F m = true <;> simp [h]
theorem plc_len (F : Nat → Bool) (m : Nat) : (plc F m).length ≤ m := by
  unfold plc
  rw [List.length_map]
  exact Nat.le_trans (List.length_filter_le _ _) (by simp)
theorem plc_ext {F G : Nat → Bool} {m : Nat} (h : ∀ i, i < m → F i = G i) : plc F m = plc G m := by
  unfold plc
  congr 1
  exact List.filter_congr fun i hi => h i (List.mem_range.1 hi)
theorem plc_cut {F : Nat → Bool} {n : Nat} : ∀ m, n ≤ m → (∀ i, n ≤ i → F i = false) → plc F m = plc F n
  | 0, h, _ => by
    obtain rfl : n = 0 := by omega
    rfl
  | m + 1, h, hF => by
    rcases Nat.lt_or_ge m n with q | q
    · obtain rfl : n = m + 1 := by omega
      rfl
    · rw [plc_succ, hF m q, plc_cut m q hF]
      simp
theorem or_nought {k : Nat} (h : k < 64) : bits .or .i64 0 (k : Int) = (k : Int) := by
  show IntKind.i64.wrap ((BitVec.ofInt 64 0 ||| BitVec.ofInt 64 (k : Int)).toNat : Int) = _
  rw [BitVec.toNat_or, BitVec.toNat_ofInt, BitVec.toNat_ofInt]
  have e1 : ((k : Int) % ((2 ^ 64 : Nat) : Int)).toNat = k := by omega
  rw [e1]
  simp only [Int.zero_emod, Int.toNat_zero, Nat.zero_or]
  exact IntWalk.i64_in _ (by omega)
theorem infoI64 : (Tryz.prog.info? 3).map (fun i => (i.zero, i.size, i.bytes)) = some (some (.int .i64 0), 1, 8) := by kernel_rfl
set_option maxRecDepth 100000 in
theorem graPlaces_is {b n : Nat} {F : Nat → Bool} {w : World} (h : SetAt b n F w) (hn : n ≤ 60) :
    Calls Tryz.prog 33 #[.slice (some ⟨b, 0, none⟩) (szS n) (szS n)] w fun e w' => ∃ v, e = .returned v ∧ OwnW .i64 w' w.heap.size 3 v (plc F n) ∧ Below w.heap.size w w' := by
  obtain ⟨i0, hi, hz0, hz1, hz2⟩ := info_parts infoI64
  obtain ⟨x, hx, hb, ha⟩ := h
  have hs : szS n = if n = 0 then 0 else 1 := by unfold szS; split <;> omega
  by_cases h0 : n = 0
  · rw [if_pos h0] at hs
    rw [hs]
    subst h0
    clear ha hx hb hs hn
    go_enter Tryz.func33, Tryz.ntmps33
    go_wp2
    go_loopw [9, 3, 4, 5, 6, 14] (fun i v _ _ _ _ wr => i = .int .i64 0 ∧ v = .slice none 0 0 ∧ wr = w) (fun _ _ _ _ _ _ _ => 0)
    case atStart => exact ⟨rfl, rfl, rfl⟩
    case round =>
      obtain ⟨rfl, rfl, rfl⟩ := hrel
      go_wp2
      go_ret
      exact ⟨_, rfl, OwnW.nil _ _ _, Below.refl _ _⟩
  · rw [if_neg h0] at hs
    rw [hs] at ha ⊢
    have HA := Lib.hid ha
    have HX := Lib.hid hx
    have HB := Lib.hid hb
    have HN := Lib.hid hn
    have HS := Lib.hid hs
    clear ha hx hb hn hs h0
    go_enter Tryz.func33, Tryz.ntmps33
    go_wp2
    go_loopw [9, 3, 4, 5, 6, 14] (fun i v _ _ _ _ wr => ∃ j : Nat, j ≤ 1 ∧ i = .int .i64 j ∧ OwnW .i64 wr w.heap.size 3 v (plc x.testBit (if j = 0 then 0 else 64)) ∧ Below w.heap.size w wr) (fun i _ _ _ _ _ _ => 1 - (intOf i).toNat)
    case atStart => exact ⟨0, by omega, rfl, OwnW.nil _ _ _, Below.refl _ _⟩
    case round =>
      obtain ⟨j, hj, rfl, ho, hk⟩ := hrel
      have HK := Lib.hid hk
      have HO := Lib.hid ho
      rcases (show j = 0 ∨ j = 1 by omega) with rfl | rfl
      · have hc := (HA.out.keep hk).cell (i := 0) (by omega)
        clear ho hk
        have hx0 : (0 : Int) ≤ x := by omega
        go_wp2
        go_loopw [14, 3, 6] (fun t v _ wa => ∃ i : Nat, i ≤ 64 ∧ t = .int .i64 i ∧ OwnW .i64 wa w.heap.size 3 v (plc x.testBit i) ∧ Below w.heap.size w wa) (fun t _ _ _ => 64 - (intOf t).toNat)
        case atStart => exact ⟨0, by omega, rfl, HO.out, HK.out⟩
        case round =>
          obtain ⟨i, hi', rfl, ho, hk⟩ := hrel
          have HK := Lib.hid hk
          have HO := Lib.hid ho
          by_cases hlt : i < 64
          · have hlt' : (i : Int) < 64 := by omega
            have e2 := fun v (hv : x.testBit i = v) => shr_bit hv
            have HP := Lib.hid (plc_succ x.testBit i)
            obtain ⟨v, hv⟩ : ∃ v, x.testBit i = v := ⟨_, rfl⟩
            have e3 := e2 _ hv
            have HV := Lib.hid hv
            have e4 := or_nought hlt
            have hsz := hk.size
            have hll : (plc x.testBit i).length ≤ 64 := Nat.le_trans (plc_len _ _) hi'
            clear e2 hv ho hk hi' hlt
            cases v with
            | false =>
              simp at e3
              go_wp2
              go_roundw
              case rel => exact ⟨i + 1, by omega, by go_num, by rw [HP.out, HV.out, if_neg (by simp), List.append_nil]; exact HO.out, HK.out⟩
              case measure => simp [intOf]; omega
            | true =>
              simp at e3
              go_wp2_with (at_builtin; refine wpList_append_w rfl _ _ 32 rfl w.heap.size 3 i0 (.int .i64 0) Tryz.underlying32 hi hz0 hz1 (by omega) rfl rfl (HO.out.keep ((Below.refl _ _).alloc (Nat.le_refl _) _)) rfl (Ws.oneb .i64 (b := wr.heap.size) _ _ _ (by simp)) (by omega) (by simp; omega) ?_; intro v' w2 hown hgr)
              have hob := HO.out.lt
              go_roundw
              case rel => exact ⟨i + 1, by omega, by go_num, by rw [HP.out, HV.out, if_pos rfl]; exact hown, ((HK.out.alloc hsz _).grown hgr (by simp; omega) fun q hq => (hob q hq).1)⟩
              case measure => simp [intOf]; omega
          · obtain rfl : i = 64 := by omega
            clear ho hk hlt hi'
            go_wp2
            go_roundw
            case rel => exact ⟨1, by omega, by go_num, HO.out, HK.out⟩
            case measure => simp [intOf]
      · clear ho hk
        have HE := Lib.hid (show plc x.testBit 64 = plc F n from by
          rw [plc_cut 64 (n := n) (by have := HN.out; omega) fun i hi => by rw [HB.out, decide_eq_false (by omega), Bool.false_and]]
          exact plc_ext fun i hi => by rw [HB.out, decide_eq_true hi, Bool.true_and])
        go_wp2
        go_ret
        exact ⟨_, rfl, by rw [← HE.out]; exact HO.out, HK.out⟩

open Go.RowKit Go.IntWalk Go.Sort

def gFar (o N : Int) : Int := if o = 36 ∨ o = 37 ∨ o = 38 ∨ o = 39 ∨ o = 40 then N else -1
def gNear (o pc : Int) : Int := if o = 39 ∨ o = 40 ∨ o = 0 ∨ o = 41 ∨ o = 43 then -1 else pc + 1
/-- Two numbers, the less one first; one, if they are the same. -/
def gTwo (x y : Int) : List Int := if x = y then [x] else [min x y, max x y]
def gIn (n : Nat) (q : Int) : Bool := decide (0 ≤ q ∧ q < n)
def gNxt (n : Nat) (o N pc : Int) : List Int := (gTwo (gNear o pc) (gFar o N)).filter (gIn n)
/-- Where it may go on from the place pc of the words l. -/
def nxl (l : List Int) (pc : Nat) : List Int := gNxt l.length (cO (byAt l pc)) (cG (byAt l pc) 3) pc
theorem gTwo_len (x y : Int) : (gTwo x y).length ≤ 2 := by unfold gTwo; split <;> simp
theorem nxl_len (l : List Int) (pc : Nat) : (nxl l pc).length ≤ 2 := Nat.le_trans (List.length_filter_le _ _) (gTwo_len _ _)
theorem nxl_in {l : List Int} {pc : Nat} {q : Int} (h : q ∈ nxl l pc) : 0 ≤ q ∧ q < l.length := by
  have := (List.mem_filter.1 h).2
  simpa [gIn] using this

theorem run_minG {P : Program} (w : World) (ts : Array TypeId) (t : TypeId) (k : IntKind) (x y v : Int) (hv : v = min x y) : (Builtin.min_ ts t #[.int k x, .int k y]).run P w = .ok (.int k v) w := by
  have h : (Builtin.min_ ts t #[.int k x, .int k y]).run P w = .ok (.int k (if y < x then y else x)) w := by
    simp [Builtin.min_, Builtin.min2]
  rw [h, hv]
  congr 2
  split <;> omega
theorem run_maxG {P : Program} (w : World) (ts : Array TypeId) (t : TypeId) (k : IntKind) (x y v : Int) (hv : v = max x y) : (Builtin.max_ ts t #[.int k x, .int k y]).run P w = .ok (.int k v) w := by
  have h : (Builtin.max_ ts t #[.int k x, .int k y]).run P w = .ok (.int k (if x < y then y else x)) w := by
    simp [Builtin.max_, Builtin.max2]
  rw [h, hv]
  congr 2
  split <;> omega
theorem compact_two (x y : Int) : Lib.compact [x, y] = if x = y then [x] else [x, y] := by
  show ((List.range 2).filter (Lib.keeps #[x, y])).map (#[x, y][·]!) = _
  have h0 : Lib.keeps #[x, y] 0 = true := by simp [Lib.keeps]
  by_cases e : x = y
  · have h1 : Lib.keeps #[x, y] 1 = false := by simp [Lib.keeps, e]
    rw [if_pos e, show List.range 2 = [0, 1] from rfl]
    simp [h0, h1]
  · have h1 : Lib.keeps #[x, y] 1 = true := by simp [Lib.keeps]; exact fun q => e q.symm
    rw [if_neg e, show List.range 2 = [0, 1] from rfl]
    simp [h0, h1]
/-- slices.Compact of two. -/
theorem compact2_is {b : Nat} {x y : Int} {w : World} (h : BlkAt b 3 #[.int .i64 x, .int .i64 y] w) :
    Calls Tryz.prog 45 #[.slice (some ⟨b, 0, none⟩) 2 2] w fun e w' => e = .returned (.slice (some ⟨b, 0, none⟩) (if x = y then [x] else [x, y]).length 2) ∧
      (∃ f : Nat → Int, Ar .i64 3 b 2 f w' ∧ ∀ i, i < (if x = y then [x] else [x, y]).length → f i = byAt (if x = y then [x] else [x, y]) i) ∧ Keeps (fun j => j = b) w w' := by
  have hH : Holds (Value.int .i64) w b 0 [x, y].toArray := fun j hj => by
    have hj' : j < 2 := by simpa using hj
    rw [Nat.zero_add]
    refine ⟨?_, h.free j⟩
    rw [h.cell]
    rcases (show j = 0 ∨ j = 1 by omega) with rfl | rfl <;> rfl
  refine (slices_Compact_int b 0 2 [x, y] w hH (by simp) (by simp)).mono ?_
  rintro e w' ⟨rfl, q, hw⟩
  rw [compact_two] at *
  refine ⟨rfl, ?_, ?_⟩
  · have hb' : (Sort.ahead w q).heap[b]? = some (.cells #[.int .i64 x, .int .i64 y] 3 (0, 0)) := h
    have hw' : w'.heap[b]? = some (.cells (putCells (Value.int .i64) 0 ((if x = y then [x] else [x, y]) ++ List.replicate ([x, y].length - (if x = y then [x] else [x, y]).length) 0).toArray #[.int .i64 x, .int .i64 y]) 3 (0, 0)) := by
      rw [hw]
      show ((Sort.ahead w q).heap.modify b _)[b]? = _
      rw [Array.getElem?_modify, if_pos rfl, hb']
      rfl
    by_cases e : x = y
    · simp only [if_pos e] at hw' ⊢
      exact ⟨fun i => if i = 0 then x else 0, hw', fun i hi => by
        obtain rfl : i = 0 := by simpa using hi
        rfl⟩
    · simp only [if_neg e] at hw' ⊢
      exact ⟨fun i => if i = 0 then x else y, hw', fun i hi => by
        rcases (show i = 0 ∨ i = 1 by simp at hi; omega) with rfl | rfl <;> rfl⟩
  · rw [hw]
    refine ⟨rfl, rfl, rfl, by show w.heap.size ≤ (w.heap.modify b _).size; simp, fun j hj hn => ?_⟩
    show ((Sort.ahead w q).heap.modify b _)[j]? = _
    rw [Array.getElem?_modify, if_neg fun e => hn e.symm]
    rfl
theorem infoI32 : (Tryz.prog.info? 21).map (fun i => (i.zero, i.size, i.bytes)) = some (some (.int .i32 0), 1, 4) := by kernel_rfl
theorem gTwo_sort (x y lo hi : Int) (h1 : lo = min x y) (h2 : hi = max x y) : gTwo x y = if lo = hi then [lo] else [lo, hi] := by
  subst h1 h2
  unfold gTwo
  by_cases e : x = y
  · subst e; simp
  · rw [if_neg e, if_neg (by omega)]
set_option maxRecDepth 100000 in
set_option maxHeartbeats 1000000 in
theorem graOnward_is {base : Nat} {v : Value} {l0 l : List Int} {a : Option Addr} {n c : Nat} {w : World} {pc : Nat} (hv : OwnW .i32 w base 21 v l0) (h0 : l0.length ≤ 1000) (hbase : base ≤ w.heap.size) (h : Ws .u32 w a n c l) (hn : n ≤ 60) (hpc : pc < n)
    (hs : ShapesLaid w) (hb : ∀ i, i < l.length → 0 ≤ byAt l i ∧ byAt l i < 4294967296) :
    Calls Tryz.prog 24 #[v, .slice a n c, .int .i64 pc] w fun e w' => ∃ v', e = .returned v' ∧ OwnW .i32 w' base 21 v' (l0 ++ nxl l pc) ∧ Keeps (fun j => v.ownBlock = some j) w w' ∧ Nexts w v v' := by
  obtain ⟨i0, hi, hz0, hz1, hz2⟩ := info_parts infoI32
  obtain ⟨g, off, rfl, hc⟩ := h.lie (by omega)
  have c0 := hc pc hpc
  have hl := h.len
  obtain ⟨v0, v1⟩ := hb pc (by omega)
  obtain ⟨x, hx⟩ : ∃ x, byAt l pc = x := ⟨_, rfl⟩
  rw [hx] at c0 v0 v1
  obtain ⟨o, ho⟩ : ∃ o, cO x = o := ⟨_, rfl⟩
  obtain ⟨N, hN⟩ : ∃ N, cG x 3 = N := ⟨_, rfl⟩
  have HD := Lib.hid (fun w2 (hs : ShapesLaid w2) => codeDecode_to (v := x) (w := w2) ho rfl rfl rfl hN rfl hs v0 v1)
  have HE := Lib.hid (show nxl l pc = (gTwo (gNear o pc) (gFar o N)).filter (gIn n) by unfold nxl gNxt; rw [hx, ho, hN, hl])
  have HS := Lib.hid hs
  have HV := Lib.hid hv
  have hpc' : (pc : Int) < n := by omega
  have hn' : (n : Int) ≤ 60 := by omega
  have H0 := Lib.hid h0
  clear hc hb hx ho hN hs hv hl h v0 v1 h0
  go_enter Tryz.func24, Tryz.ntmps24
  go_upto_block 0 with (go_at_call 44; ((with_reducible refine (HD.out _ HS.out).mono ?_); rintro e w2 ⟨rfl, hq⟩); have HQ := Lib.hid hq; clear hq)
  obtain ⟨W1, hW1⟩ : ∃ W1, w2.alloc (.cells #[.int .i64 o, .int .i64 (cG x 0), .int .i64 (cG x 1), .int .i64 (cG x 2), .int .i64 N] 39) = W1 := ⟨_, rfl⟩
  have HB1 := Lib.hid (show Below w.heap.size w W1 from hW1 ▸ HQ.out.alloc HQ.out.size _)
  have hc4 : W1.cell? ⟨w2.heap.size, 4, none⟩ = some (.int .i64 N) := by
    rw [← hW1, (BlkAt.new w2 _ _).cell]; rfl
  rw [hW1]
  clear hW1
  generalize w2.heap.size = B1 at *
  go_cut [7, 8] from 25 to 39 (fun s7 s8 wx => s7 = .int .i64 (gNear o pc) ∧ s8 = .int .i64 (gFar o N) ∧ Below W1.heap.size W1 wx)
  case first =>
    have done7 : ∀ p q : Int, gNear o pc = p → gFar o N = q → (.int .i64 p : Value) = .int .i64 (gNear o pc) ∧ (.int .i64 q : Value) = .int .i64 (gFar o N) := fun p q e1 e2 => by rw [e1, e2]; exact ⟨rfl, rfl⟩
    have H7 := Lib.hid done7
    clear done7
    by_cases e36 : o = 36
    · subst e36; go_wp2; go_meet; exact ⟨(H7.out _ _ rfl rfl).1, (H7.out _ _ rfl rfl).2, Below.refl _ _⟩
    by_cases e37 : o = 37
    · subst e37; go_wp2; go_meet; exact ⟨(H7.out _ _ rfl rfl).1, (H7.out _ _ rfl rfl).2, Below.refl _ _⟩
    by_cases e38 : o = 38
    · subst e38; go_wp2; go_meet; exact ⟨(H7.out _ _ rfl rfl).1, (H7.out _ _ rfl rfl).2, Below.refl _ _⟩
    by_cases e39 : o = 39
    · subst e39; go_wp2; go_quiet (fail); go_wp2; go_meet; exact ⟨(H7.out _ _ rfl rfl).1, (H7.out _ _ rfl rfl).2, below_drewN (Below.refl _ _) _⟩
    by_cases e40 : o = 40
    · subst e40; go_wp2; go_quiet (fail); go_wp2; go_meet; exact ⟨(H7.out _ _ rfl rfl).1, (H7.out _ _ rfl rfl).2, below_drewN (Below.refl _ _) _⟩
    by_cases e0 : o = 0
    · subst e0; go_wp2; go_meet; exact ⟨(H7.out _ _ rfl rfl).1, (H7.out _ _ rfl rfl).2, Below.refl _ _⟩
    by_cases e41 : o = 41
    · subst e41; go_wp2; go_meet; exact ⟨(H7.out _ _ rfl rfl).1, (H7.out _ _ rfl rfl).2, Below.refl _ _⟩
    by_cases e43 : o = 43
    · subst e43; go_wp2; go_meet; exact ⟨(H7.out _ _ rfl rfl).1, (H7.out _ _ rfl rfl).2, Below.refl _ _⟩
    have f36 : (o == 36) = false := by simpa using e36
    have f37 : (o == 37) = false := by simpa using e37
    have f38 : (o == 38) = false := by simpa using e38
    have f39 : (o == 39) = false := by simpa using e39
    have f40 : (o == 40) = false := by simpa using e40
    have f0 : (o == 0) = false := by simpa using e0
    have f41 : (o == 41) = false := by simpa using e41
    have f43 : (o == 43) = false := by simpa using e43
    have HN := Lib.hid (show gNear o pc = pc + 1 by unfold gNear; rw [if_neg]; simp [e39, e40, e0, e41, e43])
    have HF := Lib.hid (show gFar o N = -1 by unfold gFar; rw [if_neg]; simp [e36, e37, e38, e39, e40])
    clear e36 e37 e38 e39 e40 e0 e41 e43
    go_wp2
    go_meet
    exact ⟨(H7.out _ _ HN.out HF.out).1, (H7.out _ _ HN.out HF.out).2, Below.refl _ _⟩
  case rest =>
    obtain ⟨rfl, rfl, hb⟩ := hcut
    obtain ⟨p, hp⟩ : ∃ p, gNear o pc = p := ⟨_, rfl⟩
    obtain ⟨q, hq⟩ : ∃ q, gFar o N = q := ⟨_, rfl⟩
    rw [hp, hq]
    obtain ⟨lo, hlo⟩ : ∃ z, z = min p q := ⟨_, rfl⟩
    obtain ⟨hi2, hhi⟩ : ∃ z, z = max p q := ⟨_, rfl⟩
    obtain ⟨L, hL⟩ : ∃ L, (if lo = hi2 then [lo] else [lo, hi2]) = L := ⟨_, rfl⟩
    obtain ⟨k, hk⟩ : ∃ k, L.length = k := ⟨_, rfl⟩
    have HE2 := Lib.hid (show nxl l pc = L.filter (gIn n) by rw [HE.out, hp, hq, gTwo_sort p q lo hi2 hlo hhi, hL])
    have hk2 : k ≤ 2 := by rw [← hk, ← hL]; split <;> simp
    have hmin := fun w ts => run_minG (P := Tryz.prog) w ts 3 .i64 p q lo hlo
    have hmax := fun w ts => run_maxG (P := Tryz.prog) w ts 3 .i64 p q hi2 hhi
    have HC := Lib.hid (fun (W : World) b (hW : BlkAt b 3 #[.int .i64 lo, .int .i64 hi2] W) => hk ▸ hL ▸ compact2_is hW)
    have HBx := Lib.hid (show Below w.heap.size w wc from HB1.out.trans (hb.mono HB1.out.size))
    have hsx : w.heap.size ≤ wc.heap.size := HBx.out.size
    have HKL := Lib.hid hk
    clear hp hq hlo hhi hL hk hb hc4 HE HB1
    go_wp2_with (go_at_call 45; ((with_reducible refine (HC.out _ _ (BlkAt.new _ _ _)).mono ?_); rintro e w3 ⟨rfl, ⟨f, ha, hf⟩, hq⟩); have HA3 := Lib.hid ha; have HF3 := Lib.hid hf; have HK3 := Lib.hid hq; clear ha hf hq)
    have hs3 := HK3.out.size
    simp only [World.size_alloc] at hs3
    have hKa : Keeps (fun j => v.ownBlock = some j) w w3 := ((Keeps.of_below _ HBx.out).trans (Keeps.of_below _ ((Below.refl _ _).alloc (Nat.le_refl _) _))).next HK3.out fun j hj e => by omega
    have hsz : wc.heap.size < w3.heap.size := by omega
    have HKa := Lib.hid hKa
    have hobV := HV.out.lt
    have HOW := Lib.hid (HV.out.kept (F := fun j => j = wc.heap.size) (w' := w3) ⟨by rw [hKa.os], by rw [hKa.tape], by rw [hKa.output], hKa.size, fun j hj hn => by
      have hx1 := HBx.out.block j hj
      have hx2 := HK3.out.block j (by simp; omega) hn
      rw [hx2, Below.heap_alloc _ _ _ (by omega), hx1]⟩ fun j q => by have := hobV j q; omega)
    clear hKa hs3
    generalize hB : wc.heap.size = b at *
    clear hB
    go_loopw [49, 0, 12] (fun i u _ wr => ∃ j : Nat, j ≤ k ∧ i = .int .i64 j ∧ OwnW .i32 wr base 21 u (l0 ++ (L.take j).filter (gIn n)) ∧ Ar .i64 3 b 2 f wr ∧ Keeps (fun j => v.ownBlock = some j) w wr ∧ Nexts w v u) (fun i _ _ _ => k - (intOf i).toNat)
    case atStart => exact ⟨0, by omega, rfl, by rw [List.take_zero]; simpa using HOW.out, HA3.out, HKa.out, Nexts.refl _ _⟩
    case round =>
      obtain ⟨j, hj, rfl, ho, ha, hkk, hnx⟩ := hrel
      have HO := Lib.hid ho
      have HA := Lib.hid ha
      have HK := Lib.hid hkk
      have HN := Lib.hid hnx
      have hsr := hkk.size
      by_cases hlt : j < k
      · have hlt' : (j : Int) < k := by omega
        have hx := ha.cell (i := j) (by omega)
        obtain ⟨x, hxx⟩ : ∃ x, f j = x := ⟨_, rfl⟩
        rw [hxx] at hx
        have hxL : byAt L j = x := by rw [← HF3.out j (by first | exact hlt | (rw [HKL.out]; exact hlt))]; exact hxx
        have HT := Lib.hid (show L.take (j + 1) = L.take j ++ [x] by
          rw [List.take_succ_eq_append_getElem (by rw [HKL.out]; exact hlt), byAt_eq, hxL])
        clear ho ha hkk hnx hxx hxL hlt
        have hln : (l0 ++ (L.take j).filter (gIn n)).length ≤ 1100 := by
          have h1 := List.length_filter_le (gIn n) (L.take j)
          have h2 := H0.out
          rw [List.length_take] at h1
          rw [List.length_append]
          omega
        have HBk : ∀ q, u0.ownBlock = some q → q ≠ b := fun q e => by
          rintro rfl
          exact own_off_type HO.out HA.out (by decide) e
        have HBK := Lib.hid HBk
        clear HBk
        by_cases h0 : 0 ≤ x
        · by_cases h1 : x < n
          · have HI := Lib.hid (show gIn n x = true by unfold gIn; simp [h0, h1])
            go_wp2_with (at_builtin; refine wpList_append_1 rfl _ _ 23 rfl base 21 i0 (.int .i32 0) Tryz.underlying23 hi hz0 hz1 (by omega) rfl rfl (HO.out.keep ((Below.refl _ _).alloc (Nat.le_refl _) _)) rfl ((BlkAt.new _ _ _).cell 0) (by omega) (by simp; omega) ?_; intro v' w' hown hgr hnx)
            go_roundw
            case rel =>
              have k1 : Keeps (fun j => u0.ownBlock = some j) wr w' := (Keeps.of_below _ ((Below.refl _ _).alloc (Nat.le_refl _) _)).trans (Keeps.of_grown hgr fun j e => e)
              refine ⟨j + 1, by omega, by go_num, ?_, HA.out.kept k1 fun e => HBK.out _ e rfl, HK.out.next k1 fun j hj g => (HN.out j g).elim id fun e => absurd e (by omega), ?_⟩
              · rw [HT.out, List.filter_append, ← List.append_assoc]
                simpa [HI.out] using hown
              · exact HN.out.trans (fun q e => (hnx q e).imp id fun e => by simp at e; omega) hsr
            case measure => simp [intOf]; omega
          · have HI := Lib.hid (show gIn n x = false by unfold gIn; simp; omega)
            have d1 : decide (x < n) = false := decide_eq_false h1
            go_wp2
            go_roundw
            case rel => exact ⟨j + 1, by omega, by go_num, by rw [HT.out, List.filter_append]; simpa [HI.out] using HO.out, HA.out, HK.out, HN.out⟩
            case measure => simp [intOf]; omega
        · have HI := Lib.hid (show gIn n x = false by unfold gIn; simp; omega)
          go_wp2
          go_roundw
          case rel => exact ⟨j + 1, by omega, by go_num, by rw [HT.out, List.filter_append]; simpa [HI.out] using HO.out, HA.out, HK.out, HN.out⟩
          case measure => simp [intOf]; omega
      · obtain rfl : j = k := by omega
        clear ho ha hkk hnx
        go_wp2
        go_ret
        exact ⟨_, rfl, by rw [HE2.out, ← List.take_length (l := L), HKL.out]; exact HO.out, HK.out, HN.out⟩

open Go.RowKit Go.IntWalk

/-- Where it may go on from any place. -/
def nextL (l : List Int) (p : Int) : List Int := if 0 ≤ p ∧ p < l.length then nxl l p.toNat else []
theorem nextL_nat {l : List Int} {k : Nat} (h : k < l.length) : nextL l k = nxl l k := by
  unfold nextL
  rw [if_pos (by omega)]
  rfl
theorem Keeps.none {w w' : World} (h : Keeps (fun j => (Value.slice none 0 0).ownBlock = some j) w w') : Below w.heap.size w w' :=
  (h.mono (G := fun _ => False) fun _ _ e => nomatch e).nought
set_option maxRecDepth 100000 in
theorem graNext_is {l : List Int} {a : Option Addr} {n c : Nat} {w : World} (p : Int) (h : Ws .u32 w a n c l) (hn : n ≤ 60) (hs : ShapesLaid w) (hb : ∀ i, i < l.length → 0 ≤ byAt l i ∧ byAt l i < 4294967296) :
    Calls Tryz.prog 9 #[.slice a n c, .int .i64 p] w fun e w' => ∃ v, e = .returned v ∧ OwnW .i64 w' w.heap.size 3 v (nextL l p) ∧ Below w.heap.size w w' := by
  obtain ⟨i0, hi, hz0, hz1, hz2⟩ := info_parts infoI64
  have hl := h.len
  by_cases h0 : 0 ≤ p ∧ p < n
  · obtain ⟨h1, h2⟩ := h0
    obtain ⟨k, rfl⟩ : ∃ k : Nat, p = k := ⟨p.toNat, by omega⟩
    rw [nextL_nat (by omega)]
    have d1 : decide ((n : Int) ≤ (k : Int)) = false := by simp; omega
    have d2 : decide (n ≤ k) = false := by simp; omega
    have hO := graOnward_is (pc := k) (OwnW.nil w w.heap.size 21) (by simp) (Nat.le_refl _) h hn (by omega) hs hb
    simp only [List.nil_append] at hO
    have hn' : (n : Int) ≤ 60 := by omega
    have HNL := Lib.hid (nxl_len l k)
    have HNI := Lib.hid (fun q (hq : q ∈ nxl l k) => nxl_in hq)
    obtain ⟨L, hL⟩ : ∃ L, nxl l k = L := ⟨_, rfl⟩
    rw [hL] at hO HNL HNI ⊢
    have HO := Lib.hid hO
    rw [hl] at HNI
    clear h hs hb hl hL hO
    go_enter Tryz.func9, Tryz.ntmps9
    go_wp2_with (go_at_call 24; ((with_reducible refine (HO.out).mono ?_); rintro e w1 ⟨v, rfl, ho, hk, -⟩); obtain ⟨a1, c1, rfl, hw2⟩ := ho.ws; have HW := Lib.hid hw2; have HK := Lib.hid (Keeps.none hk); clear ho hk hw2)
    obtain ⟨m, hm⟩ : ∃ m, L.length = m := ⟨_, rfl⟩
    rw [hm] at HW HNL ⊢
    have HM := Lib.hid hm
    have hmb : (m : Int) ≤ 2 := by have := HNL.out; omega
    clear hm
    go_loopw [20, 5, 7] (fun i u _ wr => ∃ j : Nat, j ≤ m ∧ i = .int .i64 j ∧ OwnW .i64 wr w1.heap.size 3 u (L.take j) ∧ Below w1.heap.size w1 wr) (fun i _ _ _ => m - (intOf i).toNat)
    case atStart => exact ⟨0, by omega, rfl, by rw [List.take_zero]; exact OwnW.nil _ _ _, Below.refl _ _⟩
    case round =>
      obtain ⟨j, hj, rfl, ho, hk⟩ := hrel
      have HO := Lib.hid ho
      have HB := Lib.hid hk
      have hsz := hk.size
      by_cases hlt : j < m
      · have hlt' : (j : Int) < m := by omega
        obtain ⟨g, off, rfl, hc⟩ := (HW.out.keep hk).lie (by omega)
        have c0 := hc j hlt
        obtain ⟨x, hx⟩ : ∃ x, byAt L j = x := ⟨_, rfl⟩
        rw [hx] at c0
        have HT := Lib.hid (show L.take (j + 1) = L.take j ++ [x] by
          rw [List.take_succ_eq_append_getElem (by rw [HM.out]; exact hlt), byAt_eq, hx])
        have hxb := HNI.out x (by rw [← hx, ← byAt_eq (by rw [HM.out]; exact hlt)]; exact List.getElem_mem _)
        obtain ⟨x0, x1⟩ := hxb
        have hln : (L.take j).length ≤ 2 := by have := HNL.out; rw [List.length_take]; omega
        clear ho hk hx hc hlt
        go_wp2_with (at_builtin; refine wpList_append_1 rfl _ _ 32 rfl w1.heap.size 3 i0 (.int .i64 0) Tryz.underlying32 hi hz0 hz1 (by omega) rfl rfl (HO.out.keep ((Below.refl _ _).alloc (Nat.le_refl _) _)) rfl ((BlkAt.new _ _ _).cell 0) (by omega) (by simp; omega) ?_; intro v' w' hown hgr hnx)
        have hob := HO.out.lt
        go_roundw
        case rel => exact ⟨j + 1, by omega, by go_num, by rw [HT.out]; exact hown, (HB.out.alloc hsz _).grown hgr (by simp; omega) fun q hq => (hob q hq).1⟩
        case measure => simp [intOf]; omega
      · obtain rfl : j = m := by omega
        clear ho hk
        go_wp2
        go_ret
        have h1 := HK.out.size
        exact ⟨_, rfl, by rw [← List.take_length (l := L), HM.out]; exact HO.out.mono h1, HK.out.trans (HB.out.mono h1)⟩
  · have e : nextL l p = [] := by unfold nextL; rw [if_neg (by rw [hl]; exact h0)]
    rw [e]
    clear e h hb hs hl
    by_cases h1 : 0 ≤ p
    · have d1 : decide ((n : Int) ≤ p) = true := by simp; omega
      go_enter Tryz.func9, Tryz.ntmps9
      go_wp2
      go_ret
      exact ⟨_, rfl, OwnW.nil _ _ _, Below.refl _ _⟩
    · go_enter Tryz.func9, Tryz.ntmps9
      go_wp2
      go_ret
      exact ⟨_, rfl, OwnW.nil _ _ _, Below.refl _ _⟩

/-! ### Ways -/
def endsL (L : List (List Int)) : List Int := (List.range (L.length + 1)).map fun k => ((L.take k).flatten.length : Int)
theorem endsL_len (L : List (List Int)) : (endsL L).length = L.length + 1 := by simp [endsL]
theorem endsL_at (L : List (List Int)) {k : Nat} (h : k ≤ L.length) : byAt (endsL L) k = ((L.take k).flatten.length : Int) := by
  unfold endsL byAt
  rw [List.getD_eq_getElem?_getD, List.getElem?_map, List.getElem?_range (by omega)]
  rfl
theorem endsL_snoc (L : List (List Int)) (x : List Int) : endsL (L ++ [x]) = endsL L ++ [((L ++ [x]).flatten.length : Int)] := by
  unfold endsL
  rw [List.length_append, List.length_singleton, List.range_succ (n := L.length + 1), List.map_append]
  congr 1
  · apply List.map_congr_left
    intro k hk
    rw [List.take_append_of_le_length (by have := List.mem_range.1 hk; omega)]
  · rw [List.map_singleton, List.take_of_length_le (by simp)]
/-- Ways lie in memory: the places to which each leads, one behind the other; where those of each begin and end. -/
structure WaysAt (w : World) (a : Option Addr) (m c : Nat) (a' : Option Addr) (n1 c' : Nat) (L : List (List Int)) : Prop where
  tos : Ws .i32 w a m c L.flatten
  ends : Ws .i32 w a' n1 c' (endsL L)
theorem WaysAt.keep {w w' : World} {a a' : Option Addr} {m c n1 c' : Nat} {L : List (List Int)} (h : WaysAt w a m c a' n1 c' L) (k : Below w.heap.size w w') : WaysAt w' a m c a' n1 c' L := ⟨h.tos.keep k, h.ends.keep k⟩
theorem WaysAt.len {w : World} {a a' : Option Addr} {m c n1 c' : Nat} {L : List (List Int)} (h : WaysAt w a m c a' n1 c' L) : n1 = L.length + 1 := by rw [← h.ends.len, endsL_len]
/-- A value of ways. -/
def WaysV (w : World) (v : Value) (L : List (List Int)) : Prop := ∃ a m c a' n1 c', v = .agg #[.slice a m c, .slice a' n1 c'] ∧ WaysAt w a m c a' n1 c' L ∧ ∀ b off, a = some ⟨b, off, none⟩ → b < w.heap.size
def wayL (l : List Int) (n : Nat) : List (List Int) := (List.range n).map (nxl l)
theorem wayL_succ (l : List Int) (n : Nat) : wayL l (n + 1) = wayL l n ++ [nxl l n] := by simp [wayL, List.range_succ]
theorem wayL_len (l : List Int) (n : Nat) : (wayL l n).length = n := by simp [wayL]
theorem wayL_flat (l : List Int) (n : Nat) : (wayL l n).flatten.length ≤ 2 * n := by
  induction n with
  | zero => simp [wayL]
  | succ n ih =>
    rw [wayL_succ, List.flatten_append, List.length_append]
    have := nxl_len l n
    rw [show [nxl l n].flatten = nxl l n by simp]
    omega
theorem graSize_is {w : World} {n : Nat} (x : Value) (a' : Option Addr) (c' : Nat) (hn : n ≤ 100) :
    Calls Tryz.prog 47 #[.agg #[x, .slice a' (n + 1) c']] w fun e w' => e = .returned (.int .i64 n) ∧ Below w.heap.size w w' := by
  have hn' : (n : Int) ≤ 100 := by omega
  go_enter Tryz.func47, Tryz.ntmps47
  go_wp2
  go_ret
  exact ⟨rfl, (Below.refl _ _).alloc (Nat.le_refl _) _⟩
structure ReadR (w : World) (b : Nat) (l : List Int) (k : Nat) (a : Option Addr) (m c : Nat) (a' : Option Addr) (c' : Nat) (wr : World) : Prop where
  box : BlkAt b 60 #[.slice a m c, .slice a' (k + 1) c'] wr
  tos : OwnW .i32 wr w.heap.size 21 (.slice a m c) (wayL l k).flatten
  ends : OwnW .i32 wr w.heap.size 21 (.slice a' (k + 1) c') (endsL (wayL l k))
  ne : ∀ j, (Value.slice a m c).ownBlock = some j → (Value.slice a' (k + 1) c').ownBlock ≠ some j
  bel : Below w.heap.size w wr
set_option maxRecDepth 100000 in
set_option maxHeartbeats 1000000 in
theorem graRead_is {l : List Int} {a : Option Addr} {n c : Nat} {w : World} (h : Ws .u32 w a n c l) (hn : n ≤ 60) (hs : ShapesLaid w) (hb : ∀ i, i < l.length → 0 ≤ byAt l i ∧ byAt l i < 4294967296) :
    Calls Tryz.prog 21 #[.slice a n c] w fun e w' => ∃ v, e = .returned v ∧ WaysV w' v (wayL l n) ∧ Below w.heap.size w w' := by
  obtain ⟨i0, hi, hz0, hz1, hz2⟩ := info_parts infoI32
  have hcap := h.cap
  have hbig := h.big
  unfold maxLen at hbig
  have HL := Lib.hid h
  have HS := Lib.hid hs
  have HB := Lib.hid hb
  have hn' : (n : Int) ≤ 60 := by omega
  clear h hs hb
  go_enter Tryz.func21, Tryz.ntmps21
  go_wp2_with (at_make; refine wpList_make_zeros _ rfl _ _ 23 rfl 21 i0 Tryz.underlying23 hi hz0 hz1 _ _ _ 1 (n + 1) rfl rfl (by omega) (by omega) (by rw [hz2]; omega) (by unfold maxLen; omega) ?_; intro w2 hown hw2)
  obtain ⟨W0, hW0⟩ : ∃ W0, ((w.alloc (.cells #[.slice none 0 0, .slice none 0 0] 60)).alloc (.cells (fnArr (n + 1) fun _ => .int .i32 0) 21)).alloc (.cells #[.slice none 0 0, .slice (some ⟨w.heap.size + 1, 0, none⟩) 1 (n + 1)] 60) = W0 := ⟨_, rfl⟩
  have HR0 := Lib.hid (show ReadR w (w.heap.size + 1 + 1) l 0 none 0 0 (some ⟨w.heap.size + 1, 0, none⟩) (n + 1) W0 from by
    rw [← hW0]
    refine ⟨BlkAt.newb _ _ _ (by simp), OwnW.nil _ _ _, ?_, fun j e => (nomatch e), ?_⟩
    · subst hw2
      simp only [World.size_alloc] at hown
      exact (hown.keep ((Below.refl _ _).alloc (Nat.le_refl _) _)).mono (Nat.le_succ _)
    · exact (((Below.refl _ _).alloc (Nat.le_refl _) _).alloc (by simp) _).alloc (by simp; omega) _)
  have H2 := Lib.hid (show BlkAt w.heap.size 60 #[.slice none 0 0, .slice none 0 0] W0 from by
    rw [← hW0]
    exact (BlkAt.new _ _ _).keep (((Below.refl _ _).alloc (Nat.le_refl _) _).alloc (by simp) _))
  have hz : w.heap.size + 1 + 1 < W0.heap.size := by rw [← hW0]; simp
  rw [hW0]
  clear hW0 hown hw2
  obtain ⟨bx, hbx⟩ : ∃ bx, w.heap.size + 1 + 1 = bx := ⟨_, rfl⟩
  rw [hbx] at HR0 ⊢
  have hbw : w.heap.size < bx := by omega
  clear hbx hz
  go_loopw [12, 4] (fun i _ wr => ∃ k : Nat, k ≤ n ∧ i = .int .i64 k ∧ ∃ a m c a' c', ReadR w bx l k a m c a' c' wr ∧ BlkAt w.heap.size 60 #[.slice none 0 0, .slice none 0 0] wr) (fun i _ _ => n - (intOf i).toNat)
  case atStart => exact ⟨0, by omega, rfl, _, _, _, _, _, HR0.out, H2.out⟩
  case round =>
    obtain ⟨k, hk, rfl, a1, m1, c1, a2, c2, hR, h2⟩ := hrel
    have HR := Lib.hid hR
    have H2r := Lib.hid h2
    have g0 := hR.box.cell 0
    have g1 := hR.box.cell 1
    simp only [List.getElem?_toArray, List.getElem?_cons_zero, List.getElem?_cons_succ] at g0 g1
    have f0 := hR.box.free 0
    have f1 := hR.box.free 1
    have hbl := hR.box.lt
    by_cases hlt : k < n
    · have hlt' : (k : Int) < n := by omega
      have hfl := wayL_flat l k
      have hO := graOnward_is (w := wr) (pc := k) hR.tos (by omega) hR.bel.size (HL.out.keep hR.bel) hn hlt (HS.out.below hR.bel HS.out.lt) HB.out
      rw [show (wayL l k).flatten ++ nxl l k = (wayL l (k + 1)).flatten by rw [wayL_succ, List.flatten_append]; simp] at hO
      obtain ⟨m3, hm3⟩ : ∃ m, (wayL l (k + 1)).flatten.length = m := ⟨_, rfl⟩
      have hm3b : (m3 : Int) ≤ 200 := by have := wayL_flat l (k + 1); omega
      have HEL := Lib.hid (show (endsL (wayL l k)).length = k + 1 by rw [endsL_len, wayL_len])
      have HES := Lib.hid (show endsL (wayL l (k + 1)) = endsL (wayL l k) ++ [(m3 : Int)] by rw [wayL_succ, endsL_snoc, ← wayL_succ, hm3])
      have HM3 := Lib.hid hm3
      have HO := Lib.hid hO
      clear hR hlt hO hfl hm3
      have q0 := h2.cell 0
      have q1 := h2.cell 1
      clear h2
      go_wp2_with (first
        | (go_at_call 24; ((with_reducible refine (HO.out).mono ?_); rintro e w3 ⟨v3, rfl, ho, hk3, hn3⟩); obtain ⟨a3, c3, rfl, hw3⟩ := ho.wsn HM3.out; have HO3 := Lib.hid ho; have HK3 := Lib.hid hk3; have HN3 := Lib.hid hn3; have hs3 := hk3.size; have hx3 := HR.out.box.kept hk3 (fun e => own_off_type HR.out.tos HR.out.box (by decide) e); have HX3 := Lib.hid hx3; have HE3 := Lib.hid (HR.out.ends.kept hk3 (fun j e f => HR.out.ne j f e)); have g30 := hx3.cell 0; have g31 := hx3.cell 1; have f30 := hx3.free 0; have f31 := hx3.free 1; clear ho hk3 hn3 hw3 hx3 g0 g1 f0 f1)
        | (at_builtin; refine wpList_append_1 rfl _ _ 23 rfl w.heap.size 21 i0 (.int .i32 0) Tryz.underlying23 hi hz0 hz1 (by omega) rfl rfl ((HE3.out.kept (Keeps.set1 _ bx _ _) (fun j e f => own_off_type HE3.out HX3.out (by decide) (f ▸ e))).keep ((Below.refl _ _).alloc (Nat.le_refl _) _)) rfl ((BlkAt.newb _ _ _ (by simp)).cell 0) (by have := HEL.out; omega) (by have := HR.out.bel.size; simp; omega) ?_; intro v' w' hown hgr hnx; obtain ⟨a4, c4, rfl, -⟩ := hown.wsn (m := k + 1 + 1) (by rw [List.length_append, HEL.out]; rfl); have kg := Keeps.of_grown (F := fun j => (Value.slice a2 (k + 1) c2).ownBlock = some j) hgr fun j e => e; have hx5 := (((HX3.out.set 0 (.slice a3 m3 c3)).keep ((Below.refl _ _).alloc (Nat.le_refl _) _)).kept kg (fun e => own_off_type HE3.out HX3.out (by decide) e)); have HX5 := Lib.hid hx5; have KG := Lib.hid kg; have HNX := Lib.hid hnx; have HOW := Lib.hid hown; have g50 := hx5.cell 1; have f51 := hx5.free 1; clear kg hx5 hnx hown hgr))
      go_roundw
      case rel =>
        have hw4 := ((Keeps.set1 w3 bx 0 (.slice a3 m3 c3)).trans (Keeps.of_below _ ((Below.refl _ _).alloc (Nat.le_refl _) (.cells #[.int .i32 m3] 21))))
        have hob := HE3.out.lt
        have hot := HO3.out.lt
        have hxe : (Value.slice a2 (k + 1) c2).ownBlock ≠ some bx := fun e => own_off_type HE3.out HX3.out (by decide) e
        have hxt : (Value.slice a3 m3 c3).ownBlock ≠ some bx := fun e => own_off_type HO3.out HX3.out (by decide) e
        have hne : ∀ j, (Value.slice a3 m3 c3).ownBlock = some j → (Value.slice a2 (k + 1) c2).ownBlock ≠ some j := fun j e f => (HN3.out j e).elim (fun g => HR.out.ne j g f) fun g => by have := (HR.out.ends.lt j f).2; omega
        have kg := KG.out
        have kall : Keeps (fun j => (Value.slice a1 m1 c1).ownBlock = some j ∨ j = bx ∨ (Value.slice a2 (k + 1) c2).ownBlock = some j) wr (w'.setCell ⟨bx, 1, none⟩ (.slice a4 (k + 1 + 1) c4)) :=
          (((HK3.out.mono fun j _ e => .inl e).trans (hw4.mono fun j _ e => .inr (.inl e))).trans (kg.mono fun j _ e => .inr (.inr e))).trans ((Keeps.set1 _ _ _ _).mono fun j _ e => .inr (.inl e))
        refine ⟨k + 1, by omega, by go_num, a3, m3, c3, a4, c4, ⟨?_, ?_, ?_, ?_, ?_⟩, ?_⟩
        · exact (HX5.out.set 1 _).eq rfl
        · exact ((HO3.out.kept hw4 fun j e f => hxt (f ▸ e)).kept kg fun j e => hne j e).kept (Keeps.set1 _ _ _ _) fun j e f => hxt (f ▸ e)
        · rw [HES.out]
          exact HOW.out.kept (Keeps.set1 _ _ _ _) fun j e f => own_off_type HOW.out HX5.out (by decide) (f ▸ e)
        · intro j e f
          rcases HNX.out j f with g | g
          · exact hne j e g
          · have := (hot j e).2
            simp at g
            omega
        · refine kall.below HR.out.bel HR.out.bel.size ?_
          rintro j (e | e | e)
          · exact (HR.out.tos.lt j e).1
          · omega
          · exact (hob j e).1
        · refine H2r.out.kept kall ?_
          rintro (e | e | e)
          · exact own_off_type HR.out.tos H2r.out (by decide) e
          · omega
          · exact own_off_type HR.out.ends H2r.out (by decide) e
      case measure => simp [intOf]; omega
    · obtain rfl : k = n := by omega
      have q0 := h2.cell 0
      have q1 := h2.cell 1
      have p0 := h2.free 0
      have p1 := h2.free 1
      clear hR h2 hlt
      go_wp2
      refine bodyPost_ret (v := .agg #[.slice a1 m1 c1, .slice a2 (k + 1) c2]) (by simp [results, Tryz.results21, go_sem, q0, q1]) rfl ?_
      have hb2 := HR.out.bel
      obtain ⟨b1, d1, e1, ht⟩ := HR.out.tos.ws
      obtain ⟨b2, d2, e2, he⟩ := HR.out.ends.ws
      rw [endsL_len, wayL_len] at e2 he
      simp only [Value.slice.injEq] at e1 e2
      obtain ⟨rfl, rfl, rfl⟩ := e1
      obtain ⟨rfl, -, rfl⟩ := e2
      have hk4 : Keeps (fun j => j = w.heap.size) wr ((wr.setCell ⟨w.heap.size, 0, none⟩ (.slice a1 (wayL l k).flatten.length c1)).setCell ⟨w.heap.size, 1, none⟩ (.slice a2 (k + 1) c2)) := (Keeps.set1 _ _ _ _).trans (Keeps.set1 _ _ _ _)
      refine ⟨_, rfl, ⟨_, _, _, _, _, _, rfl, ⟨ht.kept hk4 ?_, he.kept hk4 ?_⟩, ?_⟩, hk4.below hb2 hb2.size fun j e => by omega⟩
      · rintro b off rfl rfl
        exact own_off_type HR.out.tos H2r.out (by decide) rfl
      · rintro b off rfl rfl
        exact own_off_type HR.out.ends H2r.out (by decide) rfl
      · rintro b off rfl
        exact Nat.lt_of_lt_of_le (HR.out.tos.lt b rfl).2 hk4.size

open Go.RowKit Go.IntWalk

theorem flat_mid (L : List (List Int)) {p : Nat} (h : p < L.length) : (L.flatten.drop (L.take p).flatten.length).take ((L.take (p + 1)).flatten.length - (L.take p).flatten.length) = el L p := by
  have e1 : L.take (p + 1) = L.take p ++ [el L p] := by rw [List.take_succ_eq_append_getElem h, el_eq h]
  have e2 : L.flatten = (L.take p).flatten ++ (el L p ++ (L.drop (p + 1)).flatten) := by
    conv => lhs; rw [← List.take_append_drop (p + 1) L, e1]
    rw [List.flatten_append, List.flatten_append, List.append_assoc]
    simp
  have e3 : (L.take (p + 1)).flatten.length = (L.take p).flatten.length + (el L p).length := by
    rw [e1, List.flatten_append, List.length_append]
    simp
  rw [e3, Nat.add_sub_cancel_left]
  conv => lhs; rw [e2]
  rw [List.drop_left, List.take_left]
theorem flat_le (L : List (List Int)) (p : Nat) : (L.take p).flatten.length ≤ L.flatten.length := by
  conv => rhs; rw [← List.take_append_drop p L]
  rw [List.flatten_append, List.length_append]
  omega
theorem flat_succ (L : List (List Int)) (p : Nat) : (L.take p).flatten.length ≤ (L.take (p + 1)).flatten.length := by
  have := flat_le (L.take (p + 1)) p
  rw [List.take_take, Nat.min_eq_left (by omega)] at this
  exact this
/-- Ways in memory, however the places to which they lead lie there. -/
structure WayG (w : World) (a : Option Addr) (m c : Nat) (a' : Option Addr) (n1 c' : Nat) (L : List (List Int)) : Prop where
  ex : ∃ F E, Ws .i32 w a m c F ∧ Ws .i32 w a' n1 c' E ∧ ∀ p, p < L.length → ∃ lo hi : Nat, byAt E p = lo ∧ byAt E (p + 1) = hi ∧ lo ≤ hi ∧ hi ≤ m ∧ (F.drop lo).take (hi - lo) = el L p
  len : n1 = L.length + 1
theorem WaysAt.g {w : World} {a a' : Option Addr} {m c n1 c' : Nat} {L : List (List Int)} (h : WaysAt w a m c a' n1 c' L) : WayG w a m c a' n1 c' L :=
  ⟨⟨_, _, h.tos, h.ends, fun p hp => ⟨_, _, endsL_at L (by omega), endsL_at L (by omega), flat_succ L p, by rw [← h.tos.len]; exact flat_le L _, flat_mid L hp⟩⟩, h.len⟩
theorem WayG.keep {w w' : World} {a a' : Option Addr} {m c n1 c' : Nat} {L : List (List Int)} (h : WayG w a m c a' n1 c' L) (k : Below w.heap.size w w') : WayG w' a m c a' n1 c' L := by
  obtain ⟨⟨F, E, h1, h2, h3⟩, h4⟩ := h
  exact ⟨⟨F, E, h1.keep k, h2.keep k, h3⟩, h4⟩
theorem WayG.kept {G : Nat → Prop} {w w' : World} {a a' : Option Addr} {m c n1 c' : Nat} {L : List (List Int)} (h : WayG w a m c a' n1 c' L) (k : Keeps G w w') (ha : ∀ b off, a = some ⟨b, off, none⟩ → ¬ G b) (ha' : ∀ b off, a' = some ⟨b, off, none⟩ → ¬ G b) : WayG w' a m c a' n1 c' L := by
  obtain ⟨⟨F, E, h1, h2, h3⟩, h4⟩ := h
  exact ⟨⟨F, E, h1.kept k ha, h2.kept k ha', h3⟩, h4⟩
set_option maxRecDepth 100000 in
set_option maxHeartbeats 1000000 in
theorem graOf_is {w0 w : World} {a a' : Option Addr} {m c n1 c' p : Nat} {L : List (List Int)} (h : WayG w0 a m c a' n1 c' L) (hk0 : Below w0.heap.size w0 w) (hn : L.length ≤ 100) (hp : p < L.length) :
    Calls Tryz.prog 27 #[.agg #[.slice a m c, .slice a' n1 c'], .int .i64 p] w fun e w' => ∃ b k d, e = .returned (.slice b k d) ∧ Ws .i32 w0 b k d (el L p) ∧ (∀ g off, b = some ⟨g, off, none⟩ → ∃ off', a = some ⟨g, off', none⟩) ∧ Below w.heap.size w w' := by
  obtain ⟨⟨F, E, hF, hE, hP⟩, hlen⟩ := h
  obtain ⟨lo, hi, h0, h0', h1, h2, hP⟩ := hP p hp
  obtain ⟨b, d, hsl, hw, ha⟩ := hF.mid h1 h2
  rw [hP] at hw
  have hcp := hF.cap
  obtain ⟨g, off, rfl, hc⟩ := (hE.keep hk0).lie (by omega)
  have c0 := hc p (by omega)
  have c1 := hc (p + 1) (by omega)
  rw [h0] at c0
  rw [h0'] at c1
  have hrun := fun w => run_cut_mid (P := Tryz.prog) 23 Tryz.underlying23 (s := 1) (fun w => Tryz.sizeOf21 w) .i32 .i32 a m c lo hi h1 (by omega) w
  simp only [hsl] at hrun
  have hg : g < w.heap.size := cell_lt c0
  obtain ⟨k, hk⟩ : ∃ k, hi - lo = k := ⟨_, rfl⟩
  rw [hk] at hrun hw
  have HW := Lib.hid hw
  have HA := Lib.hid ha
  have hp' : (p : Int) < n1 := by omega
  have hp2 : (p : Int) + 1 < n1 := by omega
  have hn' : (n1 : Int) ≤ 101 := by omega
  clear hk0 h0 h0' hsl hw ha hF hc hE hP hlen hk
  go_enter Tryz.func27, Tryz.ntmps27
  go_wp2
  have hw1 : IntKind.i64.wrap ((p : Int) + 1) = (p : Int) + 1 := IntWalk.i64_in _ (by omega)
  have hw2 : (0 : Int) ≤ (p : Int) + 1 := by omega
  have hw3 : ((p : Int) + 1).toNat = p + 1 := by omega
  go_quiet (fail)
  go_wp2
  go_ret
  exact ⟨_, _, _, rfl, HW.out, HA.out, below_drewN ((Below.refl _ _).alloc (Nat.le_refl _) _) _⟩
/-- The first place, if there is one. -/
def beginL (n : Nat) : List Int := List.replicate (min n 1) 0
set_option maxRecDepth 100000 in
set_option maxHeartbeats 1000000 in
theorem graBegin_is {w : World} {n : Nat} (x : Value) (a' : Option Addr) (c' : Nat) (hn : n ≤ 100) :
    Calls Tryz.prog 26 #[.agg #[x, .slice a' (n + 1) c']] w fun e w' => ∃ g k, e = .returned (.slice (some ⟨g, 0, none⟩) k k) ∧ Ws .i32 w' (some ⟨g, 0, none⟩) k k (beginL n) ∧ w.heap.size ≤ g ∧ g < w'.heap.size ∧ Below w.heap.size w w' := by
  obtain ⟨i0, hi, hz0, hz1, hz2⟩ := info_parts infoI32
  obtain ⟨k, hk⟩ : ∃ k : Nat, k = min n 1 := ⟨_, rfl⟩
  have hmin := fun w ts => run_minG (P := Tryz.prog) w ts 3 .i64 n 1 k (by omega)
  have HK := Lib.hid hk
  clear hk
  go_enter Tryz.func26, Tryz.ntmps26
  go_wp2_with (first
    | (go_at_call 47; ((with_reducible refine (graSize_is _ _ _ hn).mono ?_); rintro e w2 ⟨rfl, hq⟩); have HQ := Lib.hid hq; clear hq)
    | (at_make; refine wpList_make_zeros _ rfl _ _ 23 rfl 21 i0 Tryz.underlying23 hi hz0 hz1 _ _ _ k k rfl rfl rfl (Nat.le_refl _) (by rw [hz2]; have := HK.out; omega) (by unfold maxLen; have := HK.out; omega) ?_; intro w3 hown hw3))
  go_ret
  have hs := HQ.out.size
  simp only [World.size_alloc] at hs
  obtain ⟨b, d, e1, hw⟩ := hown.wsn (m := k) (by simp)
  simp only [Value.slice.injEq] at e1
  obtain ⟨rfl, -, rfl⟩ := e1
  refine ⟨_, _, rfl, ?_, by omega, by simp, ?_⟩
  · unfold beginL
    rw [← HK.out, ← hw3]
    exact hw
  · exact (((Below.refl _ _).alloc (Nat.le_refl _) _).trans (HQ.out.mono (by simp))).alloc (by omega) _

end Go.Proofs.YtggiaopdgijgnaaGreatDoor
