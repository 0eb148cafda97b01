/- Package plan: what Secret answers; the library's Repeat of a mark. Conditions: as few words as 2048. -/
import Derived.Test.YtpgjdbnhbkggpaaPlaE
import Derived.Deep.RegionLaw
namespace Go.Proofs.Ytpgjdbnhbkggpaa
open Go.RowKit Go.IntWalk

theorem mulOne_is (k : Nat) (hk : k < 18446744073709551616) (w : World) : Calls Try.prog 41 #[.int .u64 1, .int .u64 k] w fun e w' => e = .returned (.tuple #[.int .u64 0, .int .u64 k]) ∧ w = w' := by
  have h := bits_Mul 1 k (by decide) hk w
  have e1 : 1 * k / 18446744073709551616 = 0 := by rw [Nat.one_mul]; exact Nat.div_eq_of_lt hk
  have e2 : 1 * k % 18446744073709551616 = k := by rw [Nat.one_mul]; exact Nat.mod_eq_of_lt hk
  rw [e1, e2] at h
  exact h.mono fun _ _ q => ⟨q.1, q.2.symm⟩
/-- The first m of k marks are z. -/
def repF (z : Bool) (m : Nat) (i : Nat) : Value := .bool (decide (i < m) && z)
theorem rep_copy {nb k m q : Nat} {z : Bool} {T : TypeId} {w : World} (h : BlkAt nb T (fnArr k (repF z m)) w) (hq : m + q ≤ k) : BlkAt nb T (fnArr k (repF z (m + q))) (w.setCells nb m (List.replicate q (.bool z))) := by
  refine (setCells_blk (List.replicate q (.bool z)) m h).1.eq ?_
  apply Array.ext_getElem?
  intro i
  by_cases hi : i < k
  · rw [fnArr_get _ hi]
    by_cases h1 : m ≤ i ∧ i < m + q
    · rw [setsA_in _ _ _ h1.1 (by rw [List.length_replicate]; exact h1.2) (by rw [fnArr_size]; exact hi), List.getElem?_replicate, if_pos (by omega)]
      unfold repF; rw [decide_eq_true h1.2]; rfl
    · rw [setsA_out _ _ _ (by rw [List.length_replicate]; omega), fnArr_get _ hi]
      unfold repF
      by_cases h2 : i < m
      · rw [decide_eq_true h2, decide_eq_true (show i < m + q by omega)]
      · rw [decide_eq_false h2, decide_eq_false (show ¬ i < m + q by omega)]
  · rw [setsA_out _ _ _ (by rw [List.length_replicate]; omega), Array.getElem?_eq_none (by rw [fnArr_size]; omega), Array.getElem?_eq_none (by rw [fnArr_size]; omega)]
theorem rep_own {base nb k : Nat} {z : Bool} {w : World} (h : BlkAt nb 4 (fnArr k (repF z k)) w) (hb : base ≤ nb) (hk : k ≤ maxLen) : OwnEl boolK w base 4 (.slice (some ⟨nb, 0, none⟩) k k) (List.replicate k z) := by
  have hv : boolK.vs (List.replicate k z) = List.replicate k (.bool z) := by
    clear h hb hk
    induction k with
    | zero => rfl
    | succ k ih => rw [List.replicate_succ, List.replicate_succ, ← ih]; simp [Kd.vs, boolK]
  have hl : (fnArr k (repF z k)).toList = List.replicate k (.bool z) := by
    apply List.ext_getElem?
    intro i
    rw [Array.getElem?_toList, List.getElem?_replicate]
    by_cases hi : i < k
    · rw [fnArr_get _ hi, if_pos hi]; unfold repF; rw [decide_eq_true hi]; rfl
    · rw [if_neg hi, Array.getElem?_eq_none (by rw [fnArr_size]; omega)]
  refine ⟨by rw [hv]; simp [boolK], .inr ⟨nb, k, fnArr k (repF z k), by rw [List.length_replicate], hb, h, by rw [List.length_replicate]; exact Nat.le_refl _, hk, by rw [fnArr_size]; exact (Nat.mul_one k).symm, ?_⟩⟩
  rw [hv, hl, List.length_replicate, show k * boolK.k = k from Nat.mul_one k, List.take_of_length_le (by rw [List.length_replicate]; exact Nat.le_refl _)]
section
variable {w : World} {b off c k : Nat} {z : Bool}
set_option maxRecDepth 100000 in
set_option maxHeartbeats 4000000 in
theorem plaRepeat_is (hz : w.cell? ⟨b, off, none⟩ = some (.bool z)) (hk : 1 ≤ k) (hk2 : k ≤ 2048) : Calls Try.prog 30 #[.slice (some ⟨b, off, none⟩) 1 c, .int .i64 k] w (RetM w (List.replicate k z)) := by
  obtain ⟨i0, hi, hz0, hz1, hz2⟩ := info_el infoBo
  have hsz : (Try.prog.info? 4).map (·.size) = some 1 := by rw [hi]; simp [hz1]
  have CM := Lib.hid fun w => mulOne_is k (by omega) w
  have hk' : (1 : Int) ≤ k := by omega
  have hk2' : (k : Int) ≤ 2048 := by omega
  have hu : IntKind.u64.wrap (k : Int) = k := by simp [IntKind.wrap, IntKind.bits, IntKind.signed]; omega
  have hbl := cell_lt hz
  obtain ⟨nb, hnb⟩ : ∃ nb, w.heap.size = nb := ⟨_, rfl⟩
  have hm : madeCells #[.bool false] k = fnArr k (repF z 0) := by
    rw [made_fn (z := .bool false) (k := 1) rfl (fun j hj => by match j, hj with | 0, _ => rfl) (by decide)]
    exact fnArr_ext fun i _ => by unfold repF; simp
  have k1 := (Below.refl w.heap.size w).alloc (Nat.le_refl _) (.cells (madeCells #[.bool false] k) 4)
  have b1 := BlkAt.new w 4 (madeCells #[.bool false] k)
  obtain ⟨W1, hW1⟩ : ∃ W1, w.alloc (.cells (madeCells #[.bool false] k) 4) = W1 := ⟨_, rfl⟩
  rw [hW1] at k1 b1
  rw [hnb, hm] at b1
  have hz' := (k1.cell (p := ⟨b, off, none⟩) hbl).trans hz
  rw [hnb] at k1
  have hcp1 : ∀ ty, (Builtin.copy_ #[46, 46] ty #[.slice (some ⟨nb, 0, none⟩) k k, .slice (some ⟨b, off, none⟩) 1 c]).run Try.prog W1 = .ok (goInt 1) (W1.setCells nb 0 [.bool z]) := fun ty =>
    run_copy_cells W1 _ _ ty 4 nb 0 k k ⟨b, off, none⟩ 1 c [.bool z] Try.underlying46 hsz (by simp only [List.length_singleton, Nat.min_def]; split <;> omega)
      (fun j v hj => by
        cases j with
        | zero => simp at hj; subst hj; simpa [Addr.add] using hz'
        | succ j => simp at hj)
      (fun j hj => by rw [Nat.zero_add, b1.fcell (by simp at hj; omega)]; rfl) (fun j hj => b1.free _) (fun v hv => by simp at hv; subst hv; rfl)
  have b2 := rep_copy (q := 1) b1 (by omega)
  have k2 := (setCells_blk [.bool z] 0 b1).2
  have k2' := k1.trans (k2.below (Below.refl nb W1) (Nat.le_of_lt b1.lt) (fun j q => by omega))
  obtain ⟨W2, hW2⟩ : ∃ W2, W1.setCells nb 0 [.bool z] = W2 := ⟨_, rfl⟩
  rw [hW2] at hcp1
  rw [show List.replicate 1 (Value.bool z) = [.bool z] from rfl, hW2] at b2
  rw [hW2] at k2'
  have HB2 := Lib.hid b2
  have HK2 := Lib.hid k2'
  have HNB := Lib.hid hnb
  clear k1 b1 k2 b2 k2' hz' hm hW2
  go_enter Try.func30, Try.ntmps30
  go_wp2_with (first
    | (go_at_call 41; ((with_reducible refine (CM.out _).mono ?_); rintro e w3 ⟨rfl, rfl⟩))
    | (at_make; refine wpList_make_blk _ rfl _ _ 46 rfl 4 i0 (.bool false) 1 Try.underlying46 hi hz0 hz1 _ _ _ _ k rfl rfl rfl rfl (by rw [hz2]; omega) (by unfold maxLen; omega) ?_)
    | (at_builtin; refine wpList_copy_runI _ rfl _ _ 46 46 rfl _ _ rfl rfl (hcp1 _) ?_))
  go_loopw [8] (fun i wr => ∃ m : Nat, 1 ≤ m ∧ m ≤ k ∧ i = .int .i64 m ∧ BlkAt nb 4 (fnArr k (repF z m)) wr ∧ Below nb w wr) (fun i _ => k - (intOf i).toNat)
  case atStart => exact ⟨1, by omega, hk, rfl, HB2.out, HK2.out⟩
  case round =>
    obtain ⟨m, hm1, hm2, rfl, hB, hW⟩ := hrel
    have HB3 := Lib.hid hB
    have HW3 := Lib.hid hW
    by_cases hlt : m < k
    · have hlt' : (m : Int) < k := by omega
      obtain ⟨q, hq, hq2, hq3⟩ : ∃ q, q = Nat.min m (k - m) ∧ 1 ≤ q ∧ m + q ≤ k := ⟨_, rfl, by simp only [Nat.min_def]; split <;> omega, by simp only [Nat.min_def]; split <;> omega⟩
      have hcp3 : ∀ ty dc sc, (Builtin.copy_ #[46, 46] ty #[.slice (some ⟨nb, m, none⟩) (k - m) dc, .slice (some ⟨nb, 0, none⟩) m sc]).run Try.prog wr.drew = .ok (goInt q) (wr.drew.setCells nb m (List.replicate q (.bool z))) := fun ty dc sc => by
        have := run_copy_cells (P := Try.prog) wr.drew 46 46 ty 4 nb m (k - m) dc ⟨nb, 0, none⟩ m sc (List.replicate q (.bool z)) Try.underlying46 hsz (by rw [List.length_replicate]; exact hq)
          (fun j v hj => by
            rw [List.getElem?_replicate] at hj
            split at hj
            · rename_i h1
              simp at hj; subst hj
              rw [Addr.add_lit, Nat.zero_add]
              have h2 : j < m := by have : q ≤ m := by rw [hq]; exact Nat.min_le_left _ _
                                    omega
              have := hB.fcell (k := j) (by omega)
              unfold repF at this
              rw [decide_eq_true h2] at this
              exact this
            · cases hj)
          (fun j hj => by
            rw [List.length_replicate] at hj
            have := hB.fcell (k := m + j) (by omega)
            show (wr.cell? ⟨nb, m + j, none⟩).isSome = true
            rw [this]; rfl)
          (fun j hj => hB.free _) (fun v hv => by rw [List.mem_replicate] at hv; rw [hv.2]; rfl)
        rwa [List.length_replicate] at this
      have HB4 := Lib.hid (rep_copy (q := q) (hB.keep (Below.refl wr.heap.size wr).drew) hq3)
      have k3 := (setCells_blk (List.replicate q (.bool z)) m (hB.keep (Below.refl wr.heap.size wr).drew)).2
      have HW4 := Lib.hid (k3.below hW.drew (Nat.le_of_lt hB.lt) (fun j q => by omega))
      have k4 : (m : Int) + q ≤ k := by omega
      have HQ := Lib.hid hq
      clear hB hW hq k3
      have hkm : ¬ (k = m) := by omega
      have hww : IntKind.i64.wrap ((m : Int) + (q : Int)) = (m : Int) + (q : Int) := by rw [IntKind.wrap_i64]; omega
      have mixed : Try.prog.follows .mixedOrders = true := by kernel_rfl
      go_wp2
      go_region_law_o (refine step_copy_runI rfl _ _ 46 46 rfl _ _ (by simp [Act.eval, Act.put]) (by simp [Act.eval, Act.put]) (hcp3 _ _ _) ?_)
      go_simp
      go_wp2
      go_roundw
      case rel => exact ⟨m + q, by omega, hq3, by go_num, HB4.out, HW4.out⟩
      case measure => simp [intOf]; omega
    · obtain rfl : m = k := by omega
      clear hB hW
      go_wp2
      go_ret
      exact ⟨_, rfl, rep_own HB3.out (by have := HNB.out; omega) (by unfold maxLen; omega), by rw [HNB.out]; exact HW3.out⟩
section
variable {p : Value} {n c : Nat} {w : World} {a : Option Addr} {size : Int} {rs : Rgs}
set_option maxRecDepth 100000 in
set_option maxHeartbeats 4000000 in
theorem plaSecret_is (h : HeldP p w a n c rs) (hS : Sides size rs) : Calls Try.prog 18 #[p] w (RetM w (secL rs)) := by
  obtain ⟨i0, hi, hz0, hz1, hz2⟩ := info_el infoBo
  have hln := h.els.len
  have hcap := h.els.cap
  have hbig := h.els.big
  unfold maxLen at hbig
  have hn : n ≤ 2048 := by
    have h1 := hS.len
    have h2 := hS.upto (Nat.le_refl _)
    omega
  have C := Lib.hid (h.call w (Below.refl _ _))
  have HE := Lib.hid h.els
  have HL := Lib.hid hln
  have HS := Lib.hid hS
  clear h hS hln
  go_enter Try.func18, Try.ntmps18
  go_wp2_with (go_at_call 26; ((with_reducible refine (C.out).mono ?_); rintro e w2 ⟨rfl, rfl⟩))
  go_loopw [3, 9] (fun v i wr => ∃ k : Nat, k ≤ n ∧ i = .int .i64 k ∧ OwnEl boolK wr w.heap.size 4 v (secL (rs.take k)) ∧ Below w.heap.size w wr) (fun _ i _ => n - (intOf i).toNat)
  case atStart => exact ⟨0, by omega, rfl, OwnEl.nil _ _ _ _, Below.refl _ _⟩
  case round =>
    obtain ⟨k, hk, rfl, ho, hb⟩ := hrel
    have HO := Lib.hid ho
    have HB := Lib.hid hb
    by_cases hlt : k < n
    · have hlt' : (k : Int) < n := by omega
      have hkl : k < rs.length := by rw [HL.out]; exact hlt
      have hsc := sec_succ hkl
      have hle := sec_len HS.out k (by omega)
      obtain ⟨e0, e1, e2, e3⟩ := HS.out.one hkl
      have hlen : ((secL (rs.take k)).length : Int) + (el rs k).2.2.1 ≤ 2048 := by
        have := HS.out.upto (i := k + 1) (by omega)
        rw [used_succ hkl] at this
        omega
      obtain ⟨b, off, rfl, d0, d1, d2, d3⟩ := (HE.out.keep hb).rg hlt
      have hup := HS.out.upto (i := k) (by omega)
      obtain ⟨r, hr⟩ : ∃ r, el rs k = r := ⟨_, rfl⟩
      rw [hr] at hsc hlen d0 d1 d2 d3 e1
      obtain ⟨r0, r1, r2, r3⟩ := r
      simp only at hsc hlen d0 d1 d2 d3 e1
      obtain ⟨m, rfl⟩ := Int.eq_ofNat_of_zero_le (show 0 ≤ r2 by omega)
      rw [Int.toNat_natCast] at hsc
      obtain ⟨L, hL⟩ : ∃ L, secL (rs.take k) = L := ⟨_, rfl⟩
      rw [hL] at HO hsc hlen
      have HSC := Lib.hid hsc
      have hl : L.length + m ≤ 1048576 := by omega
      have k1 := (Below.refl wr.heap.size wr).alloc (Nat.le_refl _) (.cells #[.string r0, .int .i64 r1, .int .i64 m, .bool r3] 37)
      have b1 := BlkAt.new wr 37 #[.string r0, .int .i64 r1, .int .i64 m, .bool r3]
      obtain ⟨W1, hW1⟩ : ∃ W1, wr.alloc (.cells #[.string r0, .int .i64 r1, .int .i64 m, .bool r3] 37) = W1 := ⟨_, rfl⟩
      obtain ⟨q1, hq1⟩ : ∃ q, wr.heap.size = q := ⟨_, rfl⟩
      rw [hW1] at k1 b1
      have k2 := k1.alloc k1.size (.cells #[.bool r3] 4)
      have b2 := BlkAt.new W1 4 #[.bool r3]
      have b1' := b1.keep ((Below.refl W1.heap.size W1).alloc (Nat.le_refl _) (.cells #[.bool r3] 4))
      obtain ⟨W2, hW2⟩ : ∃ W2, W1.alloc (.cells #[.bool r3] 4) = W2 := ⟨_, rfl⟩
      obtain ⟨q2, hq2⟩ : ∃ q, W1.heap.size = q := ⟨_, rfl⟩
      rw [hW2] at k2 b2 b1'
      have HO2 := Lib.hid (HO.out.keep k2)
      have HB2 := Lib.hid (HB.out.trans (k2.mono HB.out.size))
      rw [hq1] at b1 b1'
      rw [hq2] at b2
      have g3 : W1.cell? ⟨q1, 3, none⟩ = some (.bool r3) := b1.cell 3
      have g2 : W1.cell? ⟨q1, 2, none⟩ = some (.int .i64 m) := b1.cell 2
      have g2' : W2.cell? ⟨q1, 2, none⟩ = some (.int .i64 m) := b1'.cell 2
      have CR := Lib.hid (plaRepeat_is (w := W2) (b := q2) (off := 0) (c := 1) (k := m) (z := r3) (b2.cell 0) (by omega) (by omega))
      clear ho hb e0 e2 e3 hle hup hr hL hsc k1 b1 k2 b2 b1'
      go_wp2_with (first
        | (go_at_call 30; ((with_reducible refine (CR.out).mono ?_); rintro e w3 ⟨v3, rfl, ho3, hb3⟩); have HO3 := Lib.hid (HO2.out.keep hb3); have HB3 := Lib.hid (HB2.out.trans (hb3.mono HB2.out.size)); obtain ⟨a3, c3, e3, hE3⟩ := ho3.at; rw [List.length_replicate] at e3 hE3; subst e3; have HE3 := Lib.hid hE3; clear ho3 hb3 hE3)
        | (at_builtin; refine wpList_append_els rfl _ _ 46 rfl w.heap.size 4 i0 _ Try.underlying46 hi hz0 hz1 (by omega) rfl rfl HO3.out rfl HE3.out hl HB3.out.size ?_; intro v4 w5 hown2 hgrow2; obtain ⟨a4, n4, c4, rfl⟩ := OwnEl.shape hown2; have HO5 := Lib.hid hown2; have HG5 := Lib.hid (HB3.out.grown hgrow2 HB3.out.size (fun j q => (HO3.out.lt j q).1)); clear hown2 hgrow2))
      go_roundw
      case rel => exact ⟨k + 1, by omega, by go_num, by rw [HSC.out]; exact HO5.out, HG5.out⟩
      case measure => simp [intOf]; omega
    · obtain rfl : k = n := by omega
      have HT := Lib.hid (show rs.take k = rs by rw [← HL.out, List.take_length])
      clear ho hb
      go_wp2
      go_ret
      exact ⟨_, rfl, by rw [← HT.out]; exact HO.out, HB.out⟩
end
end
end Go.Proofs.Ytpgjdbnhbkggpaa
