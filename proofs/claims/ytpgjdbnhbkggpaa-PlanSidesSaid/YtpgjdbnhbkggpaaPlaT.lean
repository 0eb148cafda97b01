/- The document's own plans of memory: what Secret, Same, Bools answer. Conditions: as few regions as 1000. -/
import Derived.Test.YtpgjdbnhbkggpaaPlaS
namespace Go.Proofs.Ytpgjdbnhbkggpaa
open Go.RowKit Go.IntWalk

theorem infoBool : (Try.prog.info? 4).map (fun i => (i.zero, i.size, i.bytes)) = some (some (.bool false), 1, 1) := by kernel_rfl
/-- A list of marks of the call's own is answered. -/
def RetB (w : World) (l : List Bool) (e : Ending) (w' : World) : Prop := ∃ v, e = .returned v ∧ OwnEl boolK w' w.heap.size 4 v l ∧ Below w.heap.size w w'
section
variable {B x n : Nat} {size : Int} {rs : Rgs} {F : Nat → Prop}
set_option maxRecDepth 100000 in
set_option maxHeartbeats 4000000 in
theorem refSecret20_is (w : World) (h : RefPn B w x size rs F) (hS : Sides size rs) :
    Calls Try.prog 19 #[.pointer (some ⟨x, 0, none⟩)] w (RetB w (secL rs)) := by
  obtain ⟨n, hnl⟩ : ∃ n, rs.length = n := ⟨_, rfl⟩
  obtain ⟨i0, hi, hz0, hz1, hz2⟩ := info_el infoBool
  obtain ⟨a, c, c0, c1, h3⟩ := h.at hnl
  have hxl : x < w.heap.size := (h.low _ h.own).2
  have hL := hS.len
  have HLB := Lib.hid (hS.upto (Nat.le_refl _)).2.2
  rw [hnl] at hL
  have H3 := Lib.hid h3
  have HL := Lib.hid hnl
  have HS := Lib.hid hS
  have hcap := h3.cap
  have hbig := h3.big
  unfold maxLen at hbig
  have hn : n ≤ 2048 := by have := HLB.out; omega
  have HC1 := Lib.hid c1
  clear h h3 hnl hS c0 c1 hL
  go_enter Try.func19, Try.ntmps19
  go_wp2
  go_loopw [3, 4] (fun v i wr => ∃ k : Nat, k ≤ n ∧ i = .int .i64 k ∧ OwnEl boolK wr w.heap.size 4 v (secL (rs.take k)) ∧ Below w.heap.size w wr) (fun _ i _ => n - (intOf i).toNat)
  case atStart => exact ⟨0, by omega, rfl, OwnEl.nil _ _ _ _, Below.refl _ _⟩
  case round =>
    obtain ⟨k, hk, rfl, ho, hb⟩ := hrel
    have HO := Lib.hid ho
    have HB := Lib.hid hb
    have c1 : wr.cell? ⟨x, 1, none⟩ = some (.slice a n c) := (hb.cell (p := ⟨x, 1, none⟩) hxl).trans HC1.out
    by_cases hlt : k < n
    · have hlt' : (k : Int) < n := by omega
      have hkl : k < rs.length := by rw [HL.out]; exact hlt
      have hsc := sec_succ hkl
      have hle := sec_len HS.out k (by omega)
      obtain ⟨e0, e1, e2, e3⟩ := HS.out.one hkl
      have hup := HS.out.upto (i := k) (by omega)
      have hlen : ((secL (rs.take k)).length : Int) + (el rs k).2.2.1 ≤ 2048 := by
        have := HS.out.upto (i := k + 1) (by omega)
        rw [used_succ hkl] at this
        omega
      obtain ⟨b, off, rfl, d0, d1, d2, d3⟩ := (H3.out.keep hb).rg hlt
      have D2 := Lib.hid fun W (q : Below w.heap.size w W) => ((H3.out.keep q).rg hlt)
      obtain ⟨r, hr⟩ : ∃ r, el rs k = r := ⟨_, rfl⟩
      rw [hr] at hsc hlen d0 d1 d2 d3 e1
      have HR := Lib.hid hr
      obtain ⟨r0, r1, r2, r3⟩ := r
      simp only at hsc hlen d0 d1 d2 d3 e1
      obtain ⟨L, hL⟩ : ∃ L, secL (rs.take k) = L := ⟨_, rfl⟩
      rw [hL] at HO hsc hlen
      have HSC := Lib.hid hsc
      have hr2 : r2 ≤ 2048 := by omega
      clear ho hb d0 d1 d2 d3 e0 e2 e3 hup hle hr hL hsc
      go_wp2
      clear c1
      go_loopw [3, 5] (fun v i ws => ∃ m : Nat, (m : Int) ≤ r2 ∧ i = .int .i64 m ∧ OwnEl boolK ws w.heap.size 4 v (L ++ List.replicate m r3) ∧ Below w.heap.size w ws) (fun _ i _ => r2.toNat - (intOf i).toNat)
      case atStart => exact ⟨0, by omega, rfl, by simpa using HO.out, HB.out⟩
      case round =>
        obtain ⟨m, hm, rfl, ho, hb⟩ := hrel
        have HO2 := Lib.hid ho
        have HB2 := Lib.hid hb
        have c1 : wr.cell? ⟨x, 1, none⟩ = some (.slice (some ⟨b, off, none⟩) n c) := (hb.cell (p := ⟨x, 1, none⟩) hxl).trans HC1.out
        obtain ⟨b', off', e', d0, d1, d2, d3⟩ := D2.out wr hb
        simp only [Option.some.injEq, Addr.mk.injEq, and_true] at e'
        obtain ⟨rfl, rfl⟩ := e'
        rw [HR.out] at d2 d3
        simp only at d2 d3
        have hsz := hb.size
        clear d0 d1 ho hb
        by_cases hl2 : (m : Int) < r2
        · go_wp2_with (at_builtin; refine wpList_append_el1 rfl _ _ 46 rfl w.heap.size 4 i0 _ Try.underlying46 hi hz0 hz1 (by omega) rfl rfl (HO2.out.keep ((Below.refl _ _).alloc (Nat.le_refl _) _)) rfl (one_el (K := boolK) (b := wr.heap.size) wr 4 r3 #[.bool r3] rfl rfl) (by rw [List.length_append, List.length_replicate]; omega) (by simp; omega) ?_; intro v2 w5 hown2 hgrow2 hnext2; obtain ⟨a2, n2, c2, rfl⟩ := OwnEl.shape hown2; have HO5 := Lib.hid hown2; have HG5 := Lib.hid ((HB2.out.alloc hsz _).grown hgrow2 (by simp; omega) fun j q => (HO2.out.lt j q).1); clear hown2 hgrow2 hnext2)
          go_roundw
          case rel => exact ⟨m + 1, by omega, by go_num, by have := HO5.out; rwa [List.append_assoc, ← List.replicate_succ'] at this, HG5.out⟩
          case measure => simp [intOf]; omega
        · obtain rfl : r2 = m := by omega
          go_wp2
          go_roundw
          case rel => exact ⟨k + 1, by omega, by go_num, by rw [HSC.out]; exact HO2.out, HB2.out⟩
          case measure => simp [intOf]; omega
    · obtain rfl : k = n := by omega
      have HE := Lib.hid (show rs.take k = rs by rw [← HL.out, List.take_length])
      clear ho hb
      go_wp2
      go_ret
      exact ⟨_, rfl, by rw [← HE.out]; exact HO.out, HB.out⟩
theorem eq_rg (a : ByteArray) (b c : Int) (d : Bool) (w : World) : Sem.run Try.prog (Op.equalIn 10000 37 (.agg #[.string a, .int .i64 b, .int .i64 c, .bool d]) (.agg #[.string a, .int .i64 b, .int .i64 c, .bool d])) w = .ok true w := by
  rw [run_equalIn_struct w 9999 37 _ _ (by kernel_rfl) (by kernel_rfl)]
  have hu := Try.underlying37
  simp only [Program.fieldsOf, hu]
  go_simp
set_option maxHeartbeats 1000000 in
theorem refSame20_is {a a' : Option Addr} {n c c' : Nat} {l : Rgs} {w : World} (hB : ElAt rgK w a n c l) (hB' : ElAt rgK w a' n c' l) :
    Calls Try.prog 15 #[.slice a n c, .slice a' n c'] w fun e w' => e = .returned (.bool true) ∧ Below w.heap.size w w' := by
  have hcap := hB.cap
  have hbig := hB.big
  have hcap' := hB'.cap
  have hbig' := hB'.big
  unfold maxLen at hbig hbig'
  have HB := Lib.hid hB
  have HB' := Lib.hid hB'
  clear hB hB'
  go_enter Try.func15, Try.ntmps15
  go_wp2
  go_loopw [5] (fun i wr => ∃ k : Nat, k ≤ n ∧ i = .int .i64 k ∧ Below w.heap.size w wr) (fun i _ => n - (intOf i).toNat)
  case atStart => exact ⟨0, by omega, rfl, Below.refl _ _⟩
  case round =>
    obtain ⟨k, hk, rfl, hb⟩ := hrel
    have Hb := Lib.hid hb
    by_cases hlt : k < n
    · obtain ⟨b, off, rfl, c0, c1, c2, c3⟩ := (HB.out.keep hb).rg hlt
      obtain ⟨b', off', rfl, d0, d1, d2, d3⟩ := (HB'.out.keep hb).rg hlt
      have hlt' : (k : Int) < n := by omega
      generalize (el l k).1 = y0 at *
      generalize (el l k).2.1 = y1 at *
      generalize (el l k).2.2.1 = y2 at *
      generalize (el l k).2.2.2 = y3 at *
      have hE := eq_rg y0 y1 y2 y3
      clear hb
      go_wp2
      go_quiet (fail)
      go_wp2
      go_roundw
      case rel => exact ⟨k + 1, by omega, by go_num, bel_drewN Hb.out _⟩
      case measure => simp [intOf]; omega
    · obtain rfl : k = n := by omega
      clear hb
      go_wp2
      go_ret
      exact ⟨rfl, Hb.out⟩
set_option maxHeartbeats 1000000 in
theorem refBools20_is {a a' : Option Addr} {n c c' : Nat} {l : List Bool} {w : World} (hB : ElAt boolK w a n c l) (hB' : ElAt boolK w a' n c' l) :
    Calls Try.prog 17 #[.slice a n c, .slice a' n c'] w fun e w' => e = .returned (.bool true) ∧ Below w.heap.size w w' := by
  have hcap := hB.cap
  have hbig := hB.big
  have hcap' := hB'.cap
  have hbig' := hB'.big
  unfold maxLen at hbig hbig'
  have HB := Lib.hid hB
  have HB' := Lib.hid hB'
  clear hB hB'
  go_enter Try.func17, Try.ntmps17
  go_wp2
  go_loopw [5] (fun i wr => ∃ k : Nat, k ≤ n ∧ i = .int .i64 k ∧ Below w.heap.size w wr) (fun i _ => n - (intOf i).toNat)
  case atStart => exact ⟨0, by omega, rfl, Below.refl _ _⟩
  case round =>
    obtain ⟨k, hk, rfl, hb⟩ := hrel
    have Hb := Lib.hid hb
    by_cases hlt : k < n
    · obtain ⟨b, off, rfl, c0⟩ := (HB.out.keep hb).boo hlt
      obtain ⟨b', off', rfl, d0⟩ := (HB'.out.keep hb).boo hlt
      have hlt' : (k : Int) < n := by omega
      generalize el l k = y0 at *
      have hE : (y0 == y0) = true := by simp
      clear hb
      go_wp2
      go_quiet (fail)
      go_wp2
      go_roundw
      case rel => exact ⟨k + 1, by omega, by go_num, bel_drewN Hb.out _⟩
      case measure => simp [intOf]; omega
    · obtain rfl : k = n := by omega
      clear hb
      go_wp2
      go_ret
      exact ⟨rfl, Hb.out⟩
end
end Go.Proofs.Ytpgjdbnhbkggpaa
