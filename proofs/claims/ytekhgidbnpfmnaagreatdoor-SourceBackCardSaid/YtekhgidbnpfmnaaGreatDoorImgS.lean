/- Whether two lists, two images are one, as the document says it (astrolaberef15, 17, 20, 21, 22): of equal ones. -/
import Derived.Test.YtekhgidbnpfmnaaGreatDoorImgO
import Derived.Test.YtekhgidbnpfmnaaGreatDoorRefs
import Derived.StillTailTactics
import Derived.Deep.Cut
namespace Go.Proofs.YtekhgidbnpfmnaaGreatDoor
open Go.RowKit Go.IntWalk

theorem img_drewN {B : Nat} {a w : World} (h : Below B a w) (m : Nat) : Below B a (w.drewN m) := ⟨h.os, h.tape, h.output, h.size, h.block⟩
set_option maxHeartbeats 1000000 in
theorem refS15_is (a a' : Option Addr) (n c c' : Nat) (l : List Int) (w : World) (hB : Ws .i32 w a n c l) (hB' : Ws .i32 w a' n c' l) :
    Calls Tryz.prog 35 #[.slice a n c, .slice a' n c'] w fun e w' => e = .returned (.bool true) ∧ Below w.heap.size w w' := by
  have hcap := hB.cap
  have hbig := hB.big
  have hcap' := hB'.cap
  have hbig' := hB'.big
  unfold maxLen at hbig hbig'
  have HB := Lib.hid hB
  have HB' := Lib.hid hB'
  clear hB hB'
  go_enter Tryz.func35, Tryz.ntmps35
  go_wp2
  go_loopw [5] (fun i wr => ∃ k : Nat, k ≤ n ∧ i = .int .i64 k ∧ Below w.heap.size w wr) (fun i _ => n - (intOf i).toNat)
  case atStart => exact ⟨0, by omega, rfl, Below.refl _ _⟩
  case round =>
    obtain ⟨k, hk, rfl, hb⟩ := hrel
    have Hb := Lib.hid hb
    by_cases hlt : k < n
    · obtain ⟨b, off, rfl, h1⟩ := (HB.out.keep hb).lie (by omega)
      obtain ⟨b', off', rfl, h2⟩ := (HB'.out.keep hb).lie (by omega)
      have h1 := h1 k hlt
      have h2 := h2 k hlt
      have hlt' : (k : Int) < n := by omega
      generalize byAt l k = y at *
      have hy : (y != y) = false := by simp
      clear hb
      go_wp2
      go_quiet (fail)
      go_wp2
      go_roundw
      case rel => exact ⟨k + 1, by omega, by go_num, below_drewN Hb.out _⟩
      case measure => simp [intOf]; omega
    · obtain rfl : k = n := by omega
      clear hb
      go_wp2
      go_ret
      exact ⟨rfl, Hb.out⟩
set_option maxHeartbeats 1000000 in
theorem refS17_is {a a' : Option Addr} {n c c' : Nat} {l : List Int} {w : World} (hB : Ws .i64 w a n c l) (hB' : Ws .i64 w a' n c' l) :
    Calls Tryz.prog 37 #[.slice a n c, .slice a' n c'] w fun e w' => e = .returned (.bool true) ∧ Below w.heap.size w w' := by
  have hcap := hB.cap
  have hbig := hB.big
  have hcap' := hB'.cap
  have hbig' := hB'.big
  unfold maxLen at hbig hbig'
  have HB := Lib.hid hB
  have HB' := Lib.hid hB'
  clear hB hB'
  go_enter Tryz.func37, Tryz.ntmps37
  go_wp2
  go_loopw [5] (fun i wr => ∃ k : Nat, k ≤ n ∧ i = .int .i64 k ∧ Below w.heap.size w wr) (fun i _ => n - (intOf i).toNat)
  case atStart => exact ⟨0, by omega, rfl, Below.refl _ _⟩
  case round =>
    obtain ⟨k, hk, rfl, hb⟩ := hrel
    have Hb := Lib.hid hb
    by_cases hlt : k < n
    · obtain ⟨b, off, rfl, h1⟩ := (HB.out.keep hb).lie (by omega)
      obtain ⟨b', off', rfl, h2⟩ := (HB'.out.keep hb).lie (by omega)
      have h1 := h1 k hlt
      have h2 := h2 k hlt
      have hlt' : (k : Int) < n := by omega
      generalize byAt l k = y at *
      have hy : (y != y) = false := by simp
      clear hb
      go_wp2
      go_quiet (fail)
      go_wp2
      go_roundw
      case rel => exact ⟨k + 1, by omega, by go_num, below_drewN Hb.out _⟩
      case measure => simp [intOf]; omega
    · obtain rfl : k = n := by omega
      clear hb
      go_wp2
      go_ret
      exact ⟨rfl, Hb.out⟩
set_option maxHeartbeats 1000000 in
theorem refS20_is {a a' : Option Addr} {n c c' : Nat} {l : List Bool} {w : World} (hB : ElAt boolK w a n c l) (hB' : ElAt boolK w a' n c' l) :
    Calls Tryz.prog 36 #[.slice a n c, .slice a' n c'] w fun e w' => e = .returned (.bool true) ∧ Below w.heap.size w w' := by
  have hcap := hB.cap
  have hbig := hB.big
  have hcap' := hB'.cap
  have hbig' := hB'.big
  unfold maxLen at hbig hbig'
  have HB := Lib.hid hB
  have HB' := Lib.hid hB'
  clear hB hB'
  go_enter Tryz.func36, Tryz.ntmps36
  go_wp2
  go_loopw [5] (fun i wr => ∃ k : Nat, k ≤ n ∧ i = .int .i64 k ∧ Below w.heap.size w wr) (fun i _ => n - (intOf i).toNat)
  case atStart => exact ⟨0, by omega, rfl, Below.refl _ _⟩
  case round =>
    obtain ⟨k, hk, rfl, hb⟩ := hrel
    have Hb := Lib.hid hb
    by_cases hlt : k < n
    · obtain ⟨b, off, rfl, c0⟩ := (HB.out.keep hb).boo hlt
      obtain ⟨b', off', rfl, d0⟩ := (HB'.out.keep hb).boo hlt
      have hlt' : (k : Int) < n := by omega
      generalize el l k = y0 at *
      have hE : (y0 == y0) = true := by simp
      clear hb
      go_wp2
      go_quiet (fail)
      go_wp2
      go_roundw
      case rel => exact ⟨k + 1, by omega, by go_num, img_drewN Hb.out _⟩
      case measure => simp [intOf]; omega
    · obtain rfl : k = n := by omega
      clear hb
      go_wp2
      go_ret
      exact ⟨rfl, Hb.out⟩
set_option maxRecDepth 100000 in
set_option maxHeartbeats 2000000 in
theorem refS21_is {a a' : Option Addr} {n c c' : Nat} {l : List Int} {w : World} (h : Ws .u32 w a n c l) (h' : Ws .u32 w a' n c' l) :
    Calls Tryz.prog 34 #[.slice a n c, .slice a' n c'] w fun e w' => e = .returned (.bool true) ∧ Below w.heap.size w w' := by
  have hcap := h.cap
  have hbig := h.big
  have hcap' := h'.cap
  have hbig' := h'.big
  unfold maxLen at hbig hbig'
  have HB := Lib.hid h
  have HB' := Lib.hid h'
  clear h h'
  go_enter Tryz.func34, Tryz.ntmps34
  go_wp2
  go_loopw [5] (fun i wr => ∃ k : Nat, k ≤ n ∧ i = .int .i64 k ∧ Below w.heap.size w wr) (fun i _ => n - (intOf i).toNat)
  case atStart => exact ⟨0, by omega, rfl, Below.refl _ _⟩
  case round =>
    obtain ⟨k, hk, rfl, hb⟩ := hrel
    have Hb := Lib.hid hb
    by_cases hlt : k < n
    · obtain ⟨b, off, rfl, d0⟩ := (HB.out.keep hb).lie (by omega)
      obtain ⟨b', off', rfl, f0⟩ := (HB'.out.keep hb).lie (by omega)
      have d0 := d0 k hlt
      have f0 := f0 k hlt
      have hlt' : (k : Int) < n := by omega
      generalize byAt l k = y at *
      clear hb
      go_wp2
      go_quiet (fail)
      go_wp2
      go_roundw
      case rel => exact ⟨k + 1, by omega, by go_num, ⟨Hb.out.os, Hb.out.tape, Hb.out.output, Hb.out.size, Hb.out.block⟩⟩
      case measure => simp [intOf]; omega
    · obtain rfl : k = n := by omega
      clear hb
      go_wp2
      go_ret
      exact ⟨rfl, Hb.out⟩
section
variable {w : World} {a0 a1 a2 a3 a4 b0 b1 b2 b3 b4 : Option Addr} {n0 n1 n2 n3 n4 c0 c1 c2 c3 c4 e0 e1 e2 e3 e4 : Nat} {m : Img}
theorem Ws.keepB {κ : IntKind} {w w' : World} {a : Option Addr} {n c : Nat} {l : List Int} (h : Ws κ w a n c l) (k : Below w.heap.size w w') : Ws κ w' a n c l := h.keep k
theorem ImgAt.keep {w' : World} (h : ImgAt w a0 n0 c0 a1 n1 c1 a2 n2 c2 a3 n3 c3 a4 n4 c4 m) (k : Below w.heap.size w w') : ImgAt w' a0 n0 c0 a1 n1 c1 a2 n2 c2 a3 n3 c3 a4 n4 c4 m := ⟨h.code.keep k, h.data.keep k, h.sec.keep k, h.inn.keep k, h.out.keep k⟩
set_option maxRecDepth 100000 in
set_option maxHeartbeats 2000000 in
/-- Of equal images. -/
theorem refSame22_is (h : ImgAt w a0 n0 c0 a1 n1 c1 a2 n2 c2 a3 n3 c3 a4 n4 c4 m) (g : ImgAt w b0 n0 e0 b1 n1 e1 b2 n2 e2 b3 n3 e3 b4 n4 e4 m) :
    Calls Tryz.prog 12 #[.agg #[.slice a0 n0 c0, .slice a1 n1 c1, .slice a2 n2 c2, .slice a3 n3 c3, .slice a4 n4 c4], .agg #[.slice b0 n0 e0, .slice b1 n1 e1, .slice b2 n2 e2, .slice b3 n3 e3, .slice b4 n4 e4]] w fun e w' => e = .returned (.bool true) ∧ Below w.heap.size w w' := by
  have H := Lib.hid h
  have G := Lib.hid g
  clear h g
  have al := ((Below.refl w.heap.size w).alloc (Nat.le_refl _) (.cells #[.slice a0 n0 c0, .slice a1 n1 c1, .slice a2 n2 c2, .slice a3 n3 c3, .slice a4 n4 c4] 27)).alloc (by simp) (.cells #[.slice b0 n0 e0, .slice b1 n1 e1, .slice b2 n2 e2, .slice b3 n3 e3, .slice b4 n4 e4] 27)
  have hsz : (w.alloc (.cells #[.slice a0 n0 c0, .slice a1 n1 c1, .slice a2 n2 c2, .slice a3 n3 c3, .slice a4 n4 c4] 27)).heap.size = w.heap.size + 1 := by simp
  have bx := (BlkAt.new w 27 #[.slice a0 n0 c0, .slice a1 n1 c1, .slice a2 n2 c2, .slice a3 n3 c3, .slice a4 n4 c4]).keep ((Below.refl _ _).alloc (Nat.le_refl _) (.cells #[.slice b0 n0 e0, .slice b1 n1 e1, .slice b2 n2 e2, .slice b3 n3 e3, .slice b4 n4 e4] 27))
  have bz := BlkAt.newb (w.alloc (.cells #[.slice a0 n0 c0, .slice a1 n1 c1, .slice a2 n2 c2, .slice a3 n3 c3, .slice a4 n4 c4] 27)) 27 #[.slice b0 n0 e0, .slice b1 n1 e1, .slice b2 n2 e2, .slice b3 n3 e3, .slice b4 n4 e4] hsz
  go_enter Tryz.func12, Tryz.ntmps12
  go_upto_region 1 with (fail)
  obtain ⟨W0, hW0⟩ : ∃ V, (w.alloc (.cells #[.slice a0 n0 c0, .slice a1 n1 c1, .slice a2 n2 c2, .slice a3 n3 c3, .slice a4 n4 c4] 27)).alloc (.cells #[.slice b0 n0 e0, .slice b1 n1 e1, .slice b2 n2 e2, .slice b3 n3 e3, .slice b4 n4 e4] 27) = V := ⟨_, rfl⟩
  obtain ⟨q, hq⟩ : ∃ v, w.heap.size = v := ⟨_, rfl⟩
  rw [hW0, hq] at bx bz
  rw [hW0] at al
  simp only [hW0, hq]
  have X0 := Lib.hid (show BlkAt q 27 #[.slice a0 n0 c0, .slice a1 n1 c1, .slice a2 n2 c2, .slice a3 n3 c3, .slice a4 n4 c4] W0 ∧ BlkAt (q + 1) 27 #[.slice b0 n0 e0, .slice b1 n1 e1, .slice b2 n2 e2, .slice b3 n3 e3, .slice b4 n4 e4] W0 ∧ Below W0.heap.size W0 W0 from ⟨bx, bz, Below.refl _ _⟩)
  have H0 := Lib.hid (H.out.keep al)
  have G0 := Lib.hid (G.out.keep al)
  have AL := Lib.hid al
  have K0 := Lib.hid (fun W (k : Below W0.heap.size W0 W) => refS21_is (H0.out.code.keep k) (G0.out.code.keep k))
  have K1 := Lib.hid (fun W (k : Below W0.heap.size W0 W) => refS15_is _ _ _ _ _ _ W (H0.out.data.keep k) (G0.out.data.keep k))
  have K2 := Lib.hid (fun W (k : Below W0.heap.size W0 W) => refS20_is (H0.out.sec.keep k) (G0.out.sec.keep k))
  have K3 := Lib.hid (fun W (k : Below W0.heap.size W0 W) => refS17_is (H0.out.inn.keep k) (G0.out.inn.keep k))
  have K4 := Lib.hid (fun W (k : Below W0.heap.size W0 W) => refS17_is (H0.out.out.keep k) (G0.out.out.keep k))
  have p0 := bx.cell 0
  have r0 := bz.cell 0
  clear al bx bz hsz hW0 hq H G
  go_wp2_with (first
    | (go_at_call 34; ((with_reducible refine (K0.out _ X0.out.2.2).mono ?_); rintro e w1 ⟨rfl, hb⟩); have X1 := Lib.hid (show BlkAt q 27 #[.slice a0 n0 c0, .slice a1 n1 c1, .slice a2 n2 c2, .slice a3 n3 c3, .slice a4 n4 c4] w1 ∧ BlkAt (q + 1) 27 #[.slice b0 n0 e0, .slice b1 n1 e1, .slice b2 n2 e2, .slice b3 n3 e3, .slice b4 n4 e4] w1 ∧ Below W0.heap.size W0 w1 from ⟨X0.out.1.keep hb, X0.out.2.1.keep hb, X0.out.2.2.trans (hb.mono X0.out.2.2.size)⟩); have p1 := X1.out.1.cell 1; have r1 := X1.out.2.1.cell 1; clear hb)
    | (go_at_call 35; ((with_reducible refine (K1.out _ X1.out.2.2).mono ?_); rintro e w2 ⟨rfl, hb⟩); have X2 := Lib.hid (show BlkAt q 27 #[.slice a0 n0 c0, .slice a1 n1 c1, .slice a2 n2 c2, .slice a3 n3 c3, .slice a4 n4 c4] w2 ∧ BlkAt (q + 1) 27 #[.slice b0 n0 e0, .slice b1 n1 e1, .slice b2 n2 e2, .slice b3 n3 e3, .slice b4 n4 e4] w2 ∧ Below W0.heap.size W0 w2 from ⟨X1.out.1.keep hb, X1.out.2.1.keep hb, X1.out.2.2.trans (hb.mono X1.out.2.2.size)⟩); have p2 := X2.out.1.cell 2; have r2 := X2.out.2.1.cell 2; clear hb)
    | (go_at_call 36; ((with_reducible refine (K2.out _ X2.out.2.2).mono ?_); rintro e w3 ⟨rfl, hb⟩); have X3 := Lib.hid (show BlkAt q 27 #[.slice a0 n0 c0, .slice a1 n1 c1, .slice a2 n2 c2, .slice a3 n3 c3, .slice a4 n4 c4] w3 ∧ BlkAt (q + 1) 27 #[.slice b0 n0 e0, .slice b1 n1 e1, .slice b2 n2 e2, .slice b3 n3 e3, .slice b4 n4 e4] w3 ∧ Below W0.heap.size W0 w3 from ⟨X2.out.1.keep hb, X2.out.2.1.keep hb, X2.out.2.2.trans (hb.mono X2.out.2.2.size)⟩); have p3 := X3.out.1.cell 3; have r3 := X3.out.2.1.cell 3; clear hb)
    | (go_at_call 37; ((with_reducible refine (K3.out _ X3.out.2.2).mono ?_); rintro e w4 ⟨rfl, hb⟩); have X4 := Lib.hid (show BlkAt q 27 #[.slice a0 n0 c0, .slice a1 n1 c1, .slice a2 n2 c2, .slice a3 n3 c3, .slice a4 n4 c4] w4 ∧ BlkAt (q + 1) 27 #[.slice b0 n0 e0, .slice b1 n1 e1, .slice b2 n2 e2, .slice b3 n3 e3, .slice b4 n4 e4] w4 ∧ Below W0.heap.size W0 w4 from ⟨X3.out.1.keep hb, X3.out.2.1.keep hb, X3.out.2.2.trans (hb.mono X3.out.2.2.size)⟩); have p4 := X4.out.1.cell 4; have r4 := X4.out.2.1.cell 4; clear hb)
    | (go_at_call 37; ((with_reducible refine (K4.out _ X4.out.2.2).mono ?_); rintro e w5 ⟨rfl, hb⟩); have X5 := Lib.hid (X4.out.2.2.trans (hb.mono X4.out.2.2.size)); clear hb))
  go_ret
  exact ⟨rfl, AL.out.trans (X5.out.mono AL.out.size)⟩
end
section
variable {w : World} {a0 a1 a2 a3 a4 b0 b1 b2 b3 b4 : Option Addr} {n0 n1 n2 n3 n4 c0 c1 c2 c3 c4 k0 k1 k2 k3 k4 e0 e1 e2 e3 e4 : Nat} {m : Img}
theorem refSame22_any (h : ImgAt w a0 n0 c0 a1 n1 c1 a2 n2 c2 a3 n3 c3 a4 n4 c4 m) (g : ImgAt w b0 k0 e0 b1 k1 e1 b2 k2 e2 b3 k3 e3 b4 k4 e4 m) :
    Calls Tryz.prog 12 #[.agg #[.slice a0 n0 c0, .slice a1 n1 c1, .slice a2 n2 c2, .slice a3 n3 c3, .slice a4 n4 c4], .agg #[.slice b0 k0 e0, .slice b1 k1 e1, .slice b2 k2 e2, .slice b3 k3 e3, .slice b4 k4 e4]] w fun e w' => e = .returned (.bool true) ∧ Below w.heap.size w w' := by
  obtain rfl : n0 = k0 := h.code.len.symm.trans g.code.len
  obtain rfl : n1 = k1 := h.data.len.symm.trans g.data.len
  obtain rfl : n2 = k2 := h.sec.len.symm.trans g.sec.len
  obtain rfl : n3 = k3 := h.inn.len.symm.trans g.inn.len
  obtain rfl : n4 = k4 := h.out.len.symm.trans g.out.len
  exact refSame22_is h g
end
end Go.Proofs.YtekhgidbnpfmnaaGreatDoor
