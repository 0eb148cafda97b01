/- The walk of the law RamApart: it returns true and writes nothing that was there. -/
import Derived.Test.YtjkdgbgknhkgbaaRamK
import Derived.Deep.RegionHeld
import Derived.Deep.RegionHeld3
namespace Go.Proofs.Ytjkdgbgknhkgbaa.ramApart
open Go.RowKit

/-- A memory stays where another's cell is written. -/
theorem ram_off {T e : TypeId} {w : World} {base b : Nat} {v : Value} {L : List Int} (h : RamAt T e w base b v L) {g : Nat} (hb : b ≠ g) (hv : v.ownBlock ≠ some g) (k : Nat) (u : Value) : RamAt T e (w.setCell ⟨g, k, none⟩ u) base b v L := by
  refine ⟨?_, World.ownsRow.kept h.own (grown_set w g k u) (.inr hv), h.ge, h.ne⟩
  unfold BlkAt
  rw [Below.heap_setCell _ _ _ _ hb]
  exact h.blk
theorem set_back {l : List Int} {k : Nat} {x y : Int} (hk : k < l.length) (hy : byAt l k = y) : (l.set k x).set k y = l := by
  rw [List.set_set, ← hy, ← byAt_eq hk, List.set_getElem_self]
theorem ldV_set {l : List Int} {k : Nat} {x : Int} (hk : k < l.length) : ldV (l.set k x) (k : Int) = x ∧ ldB (l.set k x) (k : Int) = true := by
  have hk' : k < (l.set k x).length := by rw [List.length_set]; exact hk
  obtain ⟨e1, e2, -⟩ := ld_in hk'
  refine ⟨e2.trans ?_, e1⟩
  rw [← byAt_eq hk', List.getElem_set_self]
theorem OwnW.ws_at {w : World} {base : Nat} {e : TypeId} {v : Value} {l : List Int} {n : Nat} (h : OwnW w base e v l) (hl : l.length = n) (hn : 0 < n) :
    ∃ g cap, v = .slice (some ⟨g, 0, none⟩) n cap ∧ base ≤ g ∧ g < w.heap.size ∧ n ≤ cap ∧ cap ≤ maxLen ∧ Ws w (some ⟨g, 0, none⟩) n cap l := by
  obtain ⟨g, cap, rfl, h1, h2, h3, h4⟩ := h.form hl hn
  obtain ⟨a, c, e, hw⟩ := h.ws
  rw [hl] at e hw
  simp only [Value.slice.injEq] at e
  obtain ⟨rfl, -, rfl⟩ := e
  exact ⟨g, cap, rfl, h1, h2, h3, h4, hw⟩
theorem store_in {base b : Nat} {v : Value} {L : List Int} {w : World} {k : Nat} (u : Int) (h : RamAt 43 21 w base b v L) (hL : L.length ≤ 1048576) (hx : -2147483648 ≤ (k : Int) ∧ (k : Int) ≤ 2147483647) (hk : k < L.length) :
    Calls Try.prog 8 #[.pointer (some ⟨b, 0, none⟩), .int .i32 (k : Int), .int .i32 u] w fun e w' => e = .returned (.bool true) ∧ RamAt 43 21 w' base b v (L.set k u) ∧ w.grownBy w' v.ownBlock := by
  obtain ⟨e1, -, e3⟩ := ld_in hk
  refine (ramStore_is k u h hL hx).mono ?_
  rw [e1, e3]
  exact fun _ _ h => h
/-- A list of a call's own beside a memory that a word is put into. -/
theorem own_beside {w w' : World} {base base' g n cap : Nat} {e : TypeId} {v : Value} {L l : List Int} {T : TypeId} {b : Nat} (h : OwnW w base e (.slice (some ⟨g, 0, none⟩) n cap) l) (hR : RamAt T e w base' b v L) (hg : g < base') (hk : w.grownBy w' v.ownBlock) : OwnW w' base e (.slice (some ⟨g, 0, none⟩) n cap) l :=
  World.ownsRow.kept h hk (.inr fun e => by have := (hR.own.lt g e.symm).1; omega)
set_option maxRecDepth 100000 in
set_option maxHeartbeats 1500000 in
theorem within (a : Option Addr) (n c : Nat) (l : List Int) (k : Nat) (x : Int) (w : World) (h : Ws w a n c l) (hn : n ≤ 2048) (hk : k < n) :
    Calls Try.prog 4 #[.slice a n c, .int .i32 (k : Int), .int .i32 x] w fun e w' => e = .returned (.bool true) ∧ Below w.heap.size w w' := by
  have hlen := h.len
  have hcap := h.cap
  have hbig := h.big
  unfold maxLen at hbig
  obtain ⟨wb, wo, rfl, hcs⟩ := h.lie (by omega)
  have m0 := hcs k hk
  obtain ⟨y0, hy0⟩ : ∃ y, byAt l k = y := ⟨_, rfl⟩
  rw [hy0] at m0
  have hwb := cell_lt m0
  have HY := Lib.hid hy0
  have HB := Lib.hid h
  have HLEN := Lib.hid hlen
  have HO := Lib.hid (OwnW.nil w w.heap.size 21)
  have HX := Lib.hid (show -2147483648 ≤ (k : Int) ∧ (k : Int) ≤ 2147483647 by omega)
  have hkl : k < l.length := by omega
  have HKL := Lib.hid hkl
  have HLL := Lib.hid (show l.length ≤ 1048576 by omega)
  have e0 : (y0 != y0) = false := by simp
  have e1 : (x != x) = false := by simp
  obtain ⟨i0, hi, hz0, hz1, hz2⟩ := info_parts infoI32
  have hpos : 0 < n := by omega
  clear h hcs hy0 hlen hkl
  go_enter Try.func4, Try.ntmps4
  go_wp2_with (first
    | (at_builtin; refine wpList_append_ws rfl _ _ 22 rfl w.heap.size 21 i0 (.int .i32 0) Try.underlying22 hi hz0 hz1 hz2 rfl rfl HO.out rfl HB.out (by simpa using (by omega : n * 4 ≤ 140737488355328)) (by simp) (Below.refl _ _) ?_; intro v' w1 hown hb1 hs1; rw [List.nil_append] at hown; obtain ⟨g, cap, rfl, hg1, hg2, hg3, hg4, hws⟩ := OwnW.ws_at hown HLEN.out hpos; have HOW := Lib.hid hown; have HWS := Lib.hid hws; have HB1 := Lib.hid hb1; unfold maxLen at hg4; clear hown hws hb1)
    | (go_at_call 6; ((with_reducible refine (ramNew_is _ n cap l _ HWS.out hn).mono ?_); rintro e w2 ⟨b, v, rfl, hr, hk2⟩); have HR := Lib.hid hr; have HOW2 := Lib.hid (own_keep HOW.out hk2); have HB2 := Lib.hid (HB1.out.trans (hk2.mono HB1.out.size)); clear hr hk2))
  have hR2 := HR.out
  have hS0 : w2.cell? ⟨wb, wo + k, none⟩ = some (.int .i32 y0) ∧ w2.cell? ⟨g, k, none⟩ = some (.int .i32 y0) := by
    have c2 := OwnW.cell HOW2.out HLEN.out hk
    rw [HY.out] at c2
    exact ⟨(HB2.out.cell (p := ⟨wb, _, none⟩) hwb).trans m0, c2⟩
  have hS1 : w2.drew.cell? ⟨wb, wo + k, none⟩ = some (.int .i32 y0) ∧ w2.drew.cell? ⟨g, k, none⟩ = some (.int .i32 y0) := hS0
  go_region_held (fun w' => w'.cell? ⟨wb, wo + k, none⟩ = some (.int .i32 y0) ∧ w'.cell? ⟨g, k, none⟩ = some (.int .i32 y0))
    (with_reducible assumption)
    ((go_at_call 8; refine (store_in x (by first | with_reducible exact HR.out | exact HR.out.keep (Below.refl _ _).drew) HLL.out HX.out HKL.out).mono ?_; rintro e w3 ⟨rfl, hr, hgr⟩; have HR3 := Lib.hid hr; have HOW3 := Lib.hid (own_beside (own_keep HOW2.out (Below.refl _ _).drew) (HR.out.keep (Below.refl _ _).drew) hg2 hgr); have HB3 := Lib.hid (HB2.out.drew.grown hgr HB2.out.size (fun q hq => by have := (HR.out.own.lt q hq).1; omega)); have m3 := (HB3.out.cell (p := ⟨wb, _, none⟩) hwb).trans m0; have c3 := OwnW.cell HOW3.out HLEN.out hk; rw [HY.out] at c3; have hS : w3.cell? ⟨wb, wo + k, none⟩ = some (.int .i32 y0) ∧ w3.cell? ⟨g, k, none⟩ = some (.int .i32 y0) := ⟨m3, c3⟩; clear hr hgr m3 c3))
  have HLS := Lib.hid (show (l.set k x).length = n by rw [List.length_set]; exact HLEN.out)
  have HL2 := Lib.hid (show (l.set k x).length ≤ 1048576 by rw [List.length_set]; exact HLL.out)
  have HV := Lib.hid (ldV_set (x := x) HKL.out)
  clear hS0 hS1 hR2
  go_wp2_with (first
    | (go_at_call 13; refine (ramAll_is (L := l.set k x) (b := b) (v := v) (base := w1.heap.size) (by first | with_reducible exact HR3.out | exact HR3.out.keep (Below.refl _ _).drew) HL2.out).mono ?_; rintro e w4 ⟨v4, rfl, ho4, hk4⟩
       have hk5 : Below w3.heap.size w3 w4 := by first | with_reducible exact hk4 | exact (Below.refl _ _).drew.trans hk4
       have ho5 : OwnW w4 w3.heap.size 21 v4 (l.set k x) := ho4
       obtain ⟨g4, cap4, rfl, h41, h42, h43, h44, -⟩ := OwnW.ws_at ho5 HLS.out hpos
       have c4 := OwnW.cell ho5 HLS.out hk
       have f4 := OwnW.free ho5 HLS.out k
       have HO4 := Lib.hid (own_keep HOW3.out hk5)
       have cg := OwnW.cell HO4.out HLEN.out hk
       have fg := OwnW.free HO4.out HLEN.out k
       have HR4 := Lib.hid (HR3.out.keep hk5)
       have HB4 := Lib.hid (on_below HB3.out hk5)
       have hgg : g < w3.heap.size := Nat.lt_of_lt_of_le hg2 (Nat.le_trans HR3.out.ge (Nat.le_of_lt HR3.out.blk.lt))
       have hg34 : g ≠ g4 := by omega
       have hg43 : g4 ≠ g := by omega
       have HRs := Lib.hid (fun A B => ram_off (ram_off HR4.out (g := g4) (by have := HR3.out.blk.lt; omega) (fun e => by have := (HR3.out.own.lt g4 e).2; omega) k A) (g := g) (by have := HR3.out.ge; omega) (fun e => by have := (HR3.out.own.lt g e).1; omega) k B)
       have HBs := Lib.hid (fun A B => (HB4.out.setCell (p := ⟨g4, k, none⟩) (show w.heap.size ≤ g4 by have := HB3.out.size; omega) A).setCell (p := ⟨g, k, none⟩) hg1 B)
       unfold maxLen at h44
       clear ho4 ho5 hk4 hk5)
    | (go_at_call 9; ((with_reducible refine (ramLoad_at (HRs.out _ _) HL2.out HX.out HV.out.1 HV.out.2).mono ?_); rintro e w5 ⟨rfl, hk6⟩); have HR5 := Lib.hid ((HRs.out _ _).keep hk6); have HB5 := Lib.hid (on_below (HBs.out _ _) hk6); clear hk6)
    | (go_at_call 13; ((with_reducible refine (ramAll_is HR5.out HL2.out).mono ?_); rintro e w6 ⟨v6, rfl, ho6, hk7⟩)
       have HB6 := Lib.hid (on_below HB5.out hk7)
       obtain ⟨g6, cap6, rfl, h61, h62, h63, h64, -⟩ := OwnW.ws_at ho6 HLS.out hpos
       have hw6 : w.heap.size ≤ g6 := Nat.le_trans HB5.out.size h61
       have c6 := OwnW.cell ho6 HLS.out hk
       have f6 := OwnW.free ho6 HLS.out k
       have m6 := (HB6.out.cell (p := ⟨wb, _, none⟩) hwb).trans m0
       have ho7 := OwnW.set ho6 HLS.out k y0
       rw [set_back HKL.out HY.out] at ho7
       have HO7 := Lib.hid ho7
       have HB7 := Lib.hid (HB6.out.setCell (p := ⟨g6, k, none⟩) hw6 (.int .i32 y0))
       unfold maxLen at h64
       clear ho6 ho7 hk7)
    | (go_at_call 12; obtain ⟨a8, c8, e8, hw8⟩ := OwnW.ws HO7.out; rw [HLEN.out] at e8 hw8; simp only [Value.slice.injEq] at e8; obtain ⟨rfl, -, rfl⟩ := e8; ((with_reducible refine (refSameW_is _ _ n _ c l _ hw8 (HB.out.on (fun _ bb _ _ hl => HB7.out.block bb hl))).mono ?_); rintro e w8 ⟨rfl, hk8⟩); have HB8 := Lib.hid (on_below HB7.out hk8); clear hk8)
    | (go_at_call 5; ((with_reducible refine (ramAwake_is _).mono ?_); rintro e w9 ⟨rfl, hk9⟩); have HB9 := Lib.hid (on_below HB8.out hk9); clear hk9))
  go_ret
  exact ⟨rfl, HB9.out⟩
set_option maxHeartbeats 1000000 in
theorem walk (a0 : Option Addr) (len0 cap0 : Nat) (z0 : List Int) (a1 a2 : Int) (w : World) (h0 : IsRow .i32 w a0 len0 cap0 z0) (w1 : (Lit.int .i32 a1).wf = true) (_ : (Lit.int .i32 a2).wf = true) :
    Calls Try.prog 4 #[.slice a0 len0 cap0, .int .i32 a1, .int .i32 a2] w fun e w' => e = .returned (.bool true) ∧ Below w.heap.size w w' := by
  have h := Ws.of_row h0
  obtain ⟨x0, x1⟩ := bounds_i32 w1
  have hcap := h.cap
  have hbig := h.big
  unfold maxLen at hbig
  by_cases hin : len0 ≤ 2048 ∧ 0 ≤ a1 ∧ a1 < len0
  · obtain ⟨h1, h2, h3⟩ := hin
    obtain ⟨k, rfl⟩ : ∃ k : Nat, a1 = k := ⟨a1.toNat, by omega⟩
    exact within _ _ _ _ k a2 w h h1 (by omega)
  · clear h h0 w1
    by_cases hn : len0 ≤ 2048
    · have hn' : (len0 : Int) ≤ 2048 := by omega
      by_cases hz : a1 < 0
      · clear hin hn
        go_enter Try.func4, Try.ntmps4
        go_wp2_with (go_at_call 5; ((with_reducible refine (ramAwake_is _).mono ?_); rintro e w5 ⟨rfl, hk⟩))
        go_ret
        exact ⟨rfl, hk⟩
      · have hz' : 0 ≤ a1 := by omega
        have hg : (len0 : Int) ≤ a1 := by omega
        clear hin hn hz
        go_enter Try.func4, Try.ntmps4
        go_wp2_with (go_at_call 5; ((with_reducible refine (ramAwake_is _).mono ?_); rintro e w5 ⟨rfl, hk⟩))
        go_ret
        exact ⟨rfl, hk⟩
    · have hn' : (2048 : Int) < len0 := by omega
      clear hin hn
      go_enter Try.func4, Try.ntmps4
      go_wp2_with (go_at_call 5; ((with_reducible refine (ramAwake_is _).mono ?_); rintro e w5 ⟨rfl, hk⟩))
      go_ret
      exact ⟨rfl, hk⟩
end Go.Proofs.Ytjkdgbgknhkgbaa.ramApart
