/- What the document's own sums of bytes (package astrolaberef11) give. Conditions: the slices' cells are bytes. -/
import Derived.Test.YtochnjbacglhbaaDoorRefs
import Derived.Test.YtochnjbacglhbaaDoorCrcL
import Derived.Test.YtochnjbacglhbaaDoorBysA
import Derived.Deep.RegionHeld3
namespace Go.Proofs.YtochnjbacglhbaaDoor
open Go.RowKit

/-- What has been gathered ahead of bit k. -/
def xLow (a b : Int) (k : Nat) : Int := (((a.toNat ^^^ b.toNat) % 2 ^ k : Nat) : Int)
theorem xLow_0 (a b : Int) : xLow a b 0 = 0 := by unfold xLow; simp [Nat.mod_one]
theorem pw_nat (k : Nat) : pw k = ((2 ^ k : Nat) : Int) := by unfold pw; simp
theorem xLow_16 {a b : Int} (a1 : 0 ≤ a) (a2 : a < 65536) (b1 : 0 ≤ b) (b2 : b < 65536) : xLow a b 16 = wXr a b := by
  obtain ⟨a, rfl⟩ : ∃ n : Nat, a = n := ⟨a.toNat, by omega⟩
  obtain ⟨b, rfl⟩ : ∃ n : Nat, b = n := ⟨b.toNat, by omega⟩
  rw [wXr_nat (by omega) (by omega)]
  unfold xLow
  simp only [Int.toNat_natCast]
  rw [Nat.mod_eq_of_lt]
  exact Nat.xor_lt_two_pow (by omega) (by omega)
theorem xLow_bd (a b : Int) (k : Nat) : 0 ≤ xLow a b k ∧ xLow a b k < pw k := by
  rw [pw_nat]
  unfold xLow
  have := Nat.mod_lt (a.toNat ^^^ b.toNat) (Nat.pow_pos (n := k) (show 0 < 2 by decide))
  omega
theorem xLow_step {a b : Int} (a1 : 0 ≤ a) (b1 : 0 ≤ b) (k : Nat) : xLow a b (k + 1) = if a / pw k % 2 = b / pw k % 2 then xLow a b k else xLow a b k + pw k := by
  obtain ⟨a, rfl⟩ : ∃ n : Nat, a = n := ⟨a.toNat, by omega⟩
  obtain ⟨b, rfl⟩ : ∃ n : Nat, b = n := ⟨b.toNat, by omega⟩
  rw [pw_nat]
  unfold xLow
  simp only [Int.toNat_natCast]
  rw [xor_low]
  by_cases h : a / 2 ^ k % 2 = b / 2 ^ k % 2
  · rw [if_pos h, if_pos (by exact_mod_cast h)]; simp
  · rw [if_neg h, if_neg (by exact_mod_cast h)]; simp

set_option maxHeartbeats 1000000 in
theorem refXor_is (a b z : Int) (w : World) (a1 : 0 ≤ a) (a2 : a < 65536) (b1 : 0 ≤ b) (b2 : b < 65536) (hz : wXr a b = z) :
    Calls Tryd.prog 55 #[.int .i64 a, .int .i64 b] w fun e w' => e = .returned (.int .i64 z) ∧ Below w.heap.size w w' := by
  have E := Lib.hid ((xLow_16 a1 a2 b1 b2).trans hz)
  clear hz
  have hb := Below.refl w.heap.size w
  go_enter Tryd.func55, Tryd.ntmps55
  go_wp2
  go_loopw [5, 6] (fun o m wr => ∃ k : Nat, k ≤ 16 ∧ m = .int .i64 (pw k) ∧ o = .int .i64 (xLow a b k) ∧ Below w.heap.size w wr) (fun _ m _ => (65536 - intOf m).toNat)
  case atStart => exact ⟨0, by omega, rfl, by rw [xLow_0], hb⟩
  case round =>
    obtain ⟨k, hk, rfl, rfl, hb⟩ := hrel
    have p0 := pw_pos k
    have p1 : pw k ≤ 65536 := pw_mono (m := 16) (by omega)
    have x0 := xLow_bd a b k
    by_cases hlt : k < 16
    · have p2 : pw k ≤ 32768 := pw_mono (m := 15) (by omega)
      have HS := Lib.hid (xLow_step a1 b1 k)
      have HP := Lib.hid (pw_succ k)
      generalize xLow a b k = o at *
      generalize pw k = m at *
      have hA : (a / m).tmod 2 = a / m % 2 := Int.tmod_eq_emod_of_nonneg (Int.ediv_nonneg a1 (by omega))
      have hB : (b / m).tmod 2 = b / m % 2 := Int.tmod_eq_emod_of_nonneg (Int.ediv_nonneg b1 (by omega))
      generalize a / m % 2 = x at *
      generalize b / m % 2 = y at *
      by_cases hxy : x = y
      · have HE := Lib.hid (show xLow a b (k + 1) = o by rw [HS.out, if_pos hxy])
        have ht : (x != y) = false := by simpa using hxy
        clear hxy HS
        go_wp2
        go_quiet (fail)
        go_wp2
        go_roundw
        case rel => exact ⟨k + 1, by omega, by rw [HP.out], by rw [HE.out], below_drewN hb _⟩
        case measure => simp [intOf]; omega
      · have HE := Lib.hid (show xLow a b (k + 1) = o + m by rw [HS.out, if_neg hxy])
        have ht : (x != y) = true := by simpa using hxy
        clear hxy HS
        go_wp2
        go_quiet (fail)
        go_wp2
        go_roundw
        case rel => exact ⟨k + 1, by omega, by rw [HP.out], by rw [HE.out], below_drewN hb _⟩
        case measure => simp [intOf]; omega
    · obtain rfl : k = 16 := by omega
      have hp : pw 16 = 65536 := by decide
      rw [hp, E.out]
      go_wp2
      go_ret
      exact ⟨rfl, hb⟩

set_option maxHeartbeats 1000000 in
theorem refCrcStep_is (c b z : Int) (w : World) (c1 : -2147483648 ≤ c) (c2 : c ≤ 2147483647) (h1 : 0 ≤ b) (h2 : b ≤ 255) (hz : wCt c b = z) :
    Calls Tryd.prog 46 #[.int .i32 c, .int .u8 b] w fun e w' => e = .returned (.int .i32 z) ∧ Below w.heap.size w w' := by
  have E := Lib.hid ((ctI_8 (c := c) h1 h2).trans hz)
  have B0 := cv_bd (ctI c b 0)
  have H0 := Lib.hid (show wXr (c % 65536) (256 * b) = cv (ctI c b 0) by unfold wXr ctI; rw [cw_mod])
  clear hz
  have hb := Below.refl w.heap.size w
  have hB := Nat.le_refl w.heap.size
  go_enter Tryd.func46, Tryd.ntmps46
  go_wp2_with (first
    | (go_at_call 40; (with_reducible refine (refMod_is c 65536 _ _ (by omega) (by omega) rfl).mono ?_); rintro e w1 ⟨rfl, rfl⟩)
    | (go_at_call 55; (with_reducible refine (keep (refXor_is (c % 65536) (256 * b) _ _ (by omega) (by omega) (by omega) (by omega) H0.out) hb hB).mono ?_); rintro e w1 ⟨rfl, hb, hB⟩))
  go_loopw [5, 6] (fun x i wr => ∃ k : Nat, k ≤ 8 ∧ i = .int .i64 k ∧ x = .int .i64 (cv (ctI c b k)) ∧ Below w.heap.size w wr ∧ w.heap.size ≤ wr.heap.size) (fun _ i _ => (8 - intOf i).toNat)
  case atStart => exact ⟨0, by omega, rfl, rfl, hb, hB⟩
  case round =>
    clear hb hB
    obtain ⟨k, hk, rfl, rfl, hb, hB⟩ := hrel
    have Bk := cv_bd (ctI c b k)
    by_cases hlt : k < 8
    · have hlt' : (k : Int) < 8 := by omega
      have HS := cbs_num (ctI c b k)
      by_cases ht : 32768 ≤ cv (ctI c b k)
      · rw [if_pos ht] at HS
        have HS' := Lib.hid (show wXr (2 * cv (ctI c b k) % 65536) 4129 = cv (ctI c b (k + 1)) from HS.symm)
        clear HS
        generalize cv (ctI c b k) = x at *
        go_wp2_with (go_at_call 55; (with_reducible refine (keep (refXor_is (2 * x % 65536) 4129 _ _ (by omega) (by omega) (by omega) (by omega) HS'.out) hb hB).mono ?_); rintro e w1 ⟨rfl, hb, hB⟩)
        go_roundw
        case rel => exact ⟨k + 1, by omega, by go_num, rfl, hb, hB⟩
        case measure => simp [intOf]; omega
      · rw [if_neg ht] at HS
        have HS' := Lib.hid (show 2 * cv (ctI c b k) % 65536 = cv (ctI c b (k + 1)) from HS.symm)
        clear HS
        generalize cv (ctI c b k) = x at *
        go_wp2
        go_roundw
        case rel => exact ⟨k + 1, by omega, by go_num, by rw [HS'.out], hb, hB⟩
        case measure => simp [intOf]; omega
    · obtain rfl : k = 8 := by omega
      rw [E.out] at Bk ⊢
      go_wp2
      go_ret
      exact ⟨rfl, hb⟩

set_option maxHeartbeats 1000000 in
theorem refCrcOf_is (a : Option Addr) (n c : Nat) (l : List Int) (w : World) (hB : By w a n c l) :
    Calls Tryd.prog 33 #[.slice a n c] w fun e w' => e = .returned (.int .i32 (wOn 65535 l)) ∧ Below w.heap.size w w' := by
  have hn := hB.cap
  have hn2 := hB.big
  unfold maxLen at hn2
  have HB := Lib.hid hB
  have hb := Below.refl w.heap.size w
  have hS := Nat.le_refl w.heap.size
  clear hB
  go_enter Tryd.func33, Tryd.ntmps33
  go_wp2
  go_loopw [3, 4] (fun x i wr => ∃ k : Nat, k ≤ n ∧ i = .int .i64 k ∧ x = .int .i32 (wOn 65535 (l.take k)) ∧ Below w.heap.size w wr ∧ w.heap.size ≤ wr.heap.size) (fun _ i _ => n - (intOf i).toNat)
  case atStart => exact ⟨0, by omega, rfl, rfl, hb, hS⟩
  case round =>
    clear hb hS
    obtain ⟨k, hk, rfl, rfl, hb, hS⟩ := hrel
    have Hl := HB.out.len
    have Bk := wOn_bd (c := 65535) (by decide) (by decide) (l.take k)
    by_cases hlt : k < n
    · have hx := HB.out.bd.at (i := k) (by omega)
      obtain ⟨b, off, rfl, hcs⟩ := HB.out.lie (by omega)
      have hxc : wr.cell? ⟨b, off + k, none⟩ = some (.int .u8 (byAt l k)) := (hb.cell (p := ⟨b, off + k, none⟩) (cell_lt (hcs k hlt))).trans (hcs k hlt)
      have HS := Lib.hid (wOn_snoc (c := 65535) (l := l) (k := k) (by omega))
      clear hcs Hl
      generalize byAt l k = x at *
      generalize wOn 65535 (l.take k) = s at *
      go_wp2_with (go_at_call 46; (with_reducible refine (keep (refCrcStep_is s x _ _ (by omega) (by omega) hx.1 hx.2 rfl) hb hS).mono ?_); rintro e w1 ⟨rfl, hb, hS⟩)
      go_roundw
      case rel => exact ⟨k + 1, by omega, by go_num, by rw [HS.out], hb, hS⟩
      case measure => simp [intOf]; omega
    · obtain rfl : k = n := by omega
      rw [wOn_take (by omega)] at Bk ⊢
      go_wp2
      go_ret
      exact ⟨rfl, hb⟩

set_option maxHeartbeats 1000000 in
theorem refCrcSeal_is (a : Option Addr) (n c : Nat) (l : List Int) (w : World) (hB : By w a n c l) (hn : n ≤ 140737488355000) :
    Calls Tryd.prog 15 #[.slice a n c] w fun e w' => RetOwn w 5 (sealOf l) e w' := by
  obtain ⟨i0, hi, hz0, hz1, hz2⟩ := info_parts infoU8
  have HB := Lib.hid hB
  have Hl := Lib.hid hB.len
  have B := wOn_bd (c := 65535) (by decide) (by decide) l
  have hT := Lib.hid (show sealOf l = l ++ [wOn 65535 l / 256] ++ [wOn 65535 l % 256] by unfold sealOf tailOf; simp)
  have HO := Lib.hid (fun (w : World) (a : Option Addr) (n c : Nat) (hB : By w a n c l) => refCrcOf_is a n c l w hB)
  clear hB
  generalize wOn 65535 l = s at *
  have D1 := Lib.hid (show Bd8 [s / 256] from Bd8.cons (by omega) (by omega) Bd8.nil)
  have D2 := Lib.hid (show Bd8 [s % 256] from Bd8.cons (by omega) (by omega) Bd8.nil)
  have hb := Below.refl w.heap.size w
  have hS := Nat.le_refl w.heap.size
  have ho := Own.nil w w.heap.size 5
  go_enter Tryd.func15, Tryd.ntmps15
  go_wp2_with (first
    | (go_at_call 33; (with_reducible refine (HO.out _ a n c (HB.out.keep hb (Nat.le_refl _))).mono ?_); rintro e w2 ⟨rfl, hb1⟩; have ho2 := ho.below hb1 (Nat.le_refl _); have hS2 := Nat.le_trans hS hb1.size; have hb2 := hb.trans (hb1.mono hS))
    | (at_builtin; refine wpList_append_by rfl _ _ 28 rfl w.heap.size 5 i0 (.int .u8 0) Tryd.underlying28 hi hz0 hz1 hz2 rfl rfl (ho) rfl (HB.out) (by simp; omega) hS hb ?_; intro v' w1 ho hb hS)
    | (at_builtin; refine wpList_append_by rfl _ _ 28 rfl w.heap.size 5 i0 (.int .u8 0) Tryd.underlying28 hi hz0 hz1 hz2 rfl rfl (ho2.below ((Below.refl _ _).alloc (Nat.le_refl _) _) (Nat.le_refl _)) rfl (By.lit _ 5 rfl (by unfold maxLen; simp) D1.out rfl) (by simp [Hl.out]; omega) (by simp; omega) (hb2.alloc hS2 _) ?_; intro v' w1 ho hb hS)
    | (at_builtin; refine wpList_append_by rfl _ _ 28 rfl w.heap.size 5 i0 (.int .u8 0) Tryd.underlying28 hi hz0 hz1 hz2 rfl rfl (ho.below ((Below.refl _ _).alloc (Nat.le_refl _) _) (Nat.le_refl _)) rfl (By.lit _ 5 rfl (by unfold maxLen; simp) D2.out rfl) (by simp [Hl.out]; omega) (by simp; omega) (hb.alloc hS _) ?_; intro v' w1 ho hb hS))
  go_ret
  exact ⟨_, rfl, by rw [hT.out]; exact ho, hb⟩

theorem lies_mk {w w' : World} {a : Option Addr} {n c : Nat} {l : List Int} (hB : By w a n c l) (hb : Below w.heap.size w w') :
    (convert 28 9 (.slice a n c)).run Tryd.prog w' = .ok (.string (strOfNums l)) w' ∧ Below w.heap.size w w' ∧ w.heap.size ≤ w'.heap.size :=
  ⟨(hB.keep hb (Nat.le_refl _)).str 28 5 9 Tryd.underlying28 Tryd.underlying5 Tryd.underlying9, hb, hb.size⟩
/-- Sealed within a region: what was there since w stays; the sealed bytes as a string. -/
theorem refCrcSeal_at {w w' : World} {a a0 : Option Addr} {n c n0 c0 : Nat} {k l : List Int} (hB0 : By w a0 n0 c0 l) (hB : By w a n c k) (hn : n ≤ 140737488355000)
    (hS : (convert 28 9 (.slice a0 n0 c0)).run Tryd.prog w' = .ok (.string (strOfNums l)) w' ∧ Below w.heap.size w w' ∧ w.heap.size ≤ w'.heap.size) :
    Calls Tryd.prog 15 #[.slice a n c] w' fun e w'' => ∃ a2 n2 c2, e = .returned (.slice a2 n2 c2) ∧ (convert 28 9 (.slice a2 n2 c2)).run Tryd.prog w'' = .ok (.string (strOfNums (sealOf k))) w'' ∧ (convert 28 9 (.slice a2 n2 c2)).run Tryd.prog w''.drew = .ok (.string (strOfNums (sealOf k))) w''.drew ∧
      ((convert 28 9 (.slice a0 n0 c0)).run Tryd.prog w'' = .ok (.string (strOfNums l)) w'' ∧ Below w.heap.size w w'' ∧ w.heap.size ≤ w''.heap.size) := by
  refine (refCrcSeal_is a n c k w' (hB.keep hS.2.1 (Nat.le_refl _)) hn).mono ?_
  rintro e w2 ⟨v2, rfl, ho2, hb1⟩
  obtain ⟨a2, c2, rfl, hB2⟩ := ho2.by (sealOf_bd hB.bd)
  refine ⟨a2, _, c2, rfl, ?_, ?_, lies_mk hB0 (hS.2.1.trans (hb1.mono hS.2.2))⟩
  · exact hB2.str 28 5 9 Tryd.underlying28 Tryd.underlying5 Tryd.underlying9
  · exact (hB2.keep (Below.refl _ _).drew (Nat.le_refl _)).str 28 5 9 Tryd.underlying28 Tryd.underlying5 Tryd.underlying9

set_option maxHeartbeats 1000000 in
theorem refCrcOpen_is (a : Option Addr) (n c : Nat) (l : List Int) (w : World) (hB : By w a n c l) (hn : n ≤ 140737488355000) :
    Calls Tryd.prog 21 #[.slice a n c] w fun e w' => RetOwnE w 5 (openOf l).1 (openOf l).2 e w' := by
  obtain ⟨i0, hi, hz0, hz1, hz2⟩ := info_parts infoU8
  have Hl := hB.len
  by_cases h2 : n < 2
  · have ho := Lib.hid (show openOf l = ([], 4) by unfold openOf; rw [if_pos (by omega)])
    have h2' : (n : Int) < 2 := by omega
    clear hB Hl
    go_enter Tryd.func21, Tryd.ntmps21
    go_wp2
    go_ret2
    rw [ho.out]
    exact retNone w _ 4 (Below.refl _ _)
  · obtain ⟨m, rfl⟩ : ∃ m, n = m + 2 := ⟨n - 2, by omega⟩
    obtain ⟨b, off, rfl, -⟩ := hB.lie (by omega)
    have hcap := hB.cap
    have hbig := hB.big
    unfold maxLen at hbig
    have e0 : l.length - 2 = m := by omega
    have hbd := Lib.hid hB.bd
    have HP := Lib.hid (hB.pre (k := m) (by omega))
    have HB := Lib.hid hB
    have HS := Lib.hid (fun (w' : World) (hb : Below w.heap.size w w') => (⟨hb, hb.size⟩ : Below w.heap.size w w' ∧ w.heap.size ≤ w'.heap.size))
    have hd := sealOf_bd (hB.bd.take m)
    have hlen := Lib.hid (show (l.take m).length = m by rw [List.length_take]; omega)
    have hsl := Lib.hid (sealOf_len (l.take m))
    have hok := okSum_seal (l := l) (by omega)
    rw [e0] at hok
    by_cases hk : okSum l
    · have HO := Lib.hid (show openOf l = (l.take m, 0) by unfold openOf; rw [if_neg (by omega), if_pos hk, e0])
      have ht := str_same8 (hok.1 hk)
      have hD := Lib.hid hd
      have HL := Lib.hid (fun w' => lies_mk (w' := w') hB)
      have g1 : (0 : Int) ≤ (m : Int) := by omega
      have g2 : (m : Int) ≤ (c : Int) := by omega
      clear hk e0 hB Hl hok hd
      go_enter Tryd.func21, Tryd.ntmps21
      go_wp2
      go_region_held (fun w' => (convert 28 9 (.slice (some ⟨b, off, none⟩) (m + 2) c)).run Tryd.prog w' = .ok (.string (strOfNums l)) w' ∧ Below w.heap.size w w' ∧ w.heap.size ≤ w'.heap.size)
        (first | with_reducible assumption | exact HL.out _ (Below.refl _ _) | exact HL.out _ (Below.refl _ _).drew)
        (first
          | (go_at_call 15; (refine (refCrcSeal_at HB.out HP.out (by omega) (by assumption)).mono ?_); rintro e w2 ⟨a2, n2, c2, rfl, hq, hq', hS⟩))
      all_goals go_wp2_with (at_builtin; refine wpList_append_by rfl _ _ 28 rfl w.heap.size 5 i0 (.int .u8 0) Tryd.underlying28 hi hz0 hz1 hz2 rfl rfl (Own.nil _ _ _) rfl (HP.out.keep hS.2.1 (Nat.le_refl _)) (by simp; omega) hS.2.2 hS.2.1 ?_; intro v' w1 ho hb hS2)
      all_goals go_ret2
      all_goals rw [HO.out]
      all_goals exact ⟨_, rfl, by simpa using ho, hb⟩
    · have HO := Lib.hid (show openOf l = ([], 7) by unfold openOf; rw [if_neg (by omega), if_neg hk])
      have ht := str_apart8 hd hB.bd (fun h => hk (hok.2 h))
      have hD := Lib.hid hd
      have HL := Lib.hid (fun w' => lies_mk (w' := w') hB)
      have g1 : (0 : Int) ≤ (m : Int) := by omega
      have g2 : (m : Int) ≤ (c : Int) := by omega
      clear hk e0 hB Hl hok hd
      go_enter Tryd.func21, Tryd.ntmps21
      go_wp2
      go_region_held (fun w' => (convert 28 9 (.slice (some ⟨b, off, none⟩) (m + 2) c)).run Tryd.prog w' = .ok (.string (strOfNums l)) w' ∧ Below w.heap.size w w' ∧ w.heap.size ≤ w'.heap.size)
        (first | with_reducible assumption | exact HL.out _ (Below.refl _ _) | exact HL.out _ (Below.refl _ _).drew)
        (first
          | (go_at_call 15; (refine (refCrcSeal_at HB.out HP.out (by omega) (by assumption)).mono ?_); rintro e w2 ⟨a2, n2, c2, rfl, hq, hq', hS⟩))
      all_goals go_wp2
      all_goals go_ret2
      all_goals rw [HO.out]
      all_goals exact retNone w _ 7 hS.2.1
end Go.Proofs.YtochnjbacglhbaaDoor
