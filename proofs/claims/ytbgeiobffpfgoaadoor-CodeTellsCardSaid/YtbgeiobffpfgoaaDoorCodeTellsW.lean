/- The walk of the law CodeTells: it returns true and writes nothing that was there. -/
import Derived.Test.YtbgeiobffpfgoaaDoorCodK
import Derived.Test.YtbgeiobffpfgoaaDoorCodS
namespace Go.Proofs.YtbgeiobffpfgoaaDoor.codeTells
open Go.RowKit Go.ChangeShapes Go.OpenShut

theorem refDecode_to {v o d a b n z : Int} {w : World} (ho : cO v = o) (hd : cG v 0 = d) (ha : cG v 1 = a) (hb : cG v 2 = b) (hn : cG v 3 = n) (hz : cErr v = z) (v0 : 0 ≤ v) (v1 : v < 4294967296) :
    Calls Tryd.prog 9 #[.int .u32 v] w fun e w' => e = .returned (.tuple #[.agg #[.int .i64 o, .int .i64 d, .int .i64 a, .int .i64 b, .int .i64 n], .int .i64 z]) ∧ Below w.heap.size w w' := by
  subst ho hd ha hb hn hz
  exact (refDecode_is v w v0 v1).mono fun _ _ h => h
/-- What the law's last region reads. -/
def Three (w : World) (A B C : Nat) (o d a b n o' d' a' b' n' : Int) (x : World) : Prop := InsW w A o d a b n x ∧ InsW w B o' d' a' b' n' x ∧ InsW w C o' d' a' b' n' x
theorem Three.keep {w : World} {A B C : Nat} {o d a b n o' d' a' b' n' : Int} {x y : World} (h : Three w A B C o d a b n o' d' a' b' n' x) (k : Below x.heap.size x y) : Three w A B C o d a b n o' d' a' b' n' y := ⟨h.1.keep k, h.2.1.keep k, h.2.2.keep k⟩
theorem Three.bel {w : World} {A B C : Nat} {o d a b n o' d' a' b' n' : Int} {x : World} (h : Three w A B C o d a b n o' d' a' b' n' x) : Below w.heap.size w x := h.1.below
theorem Three.all {w : World} {A B C : Nat} {o d a b n o' d' a' b' n' : Int} {x : World} (h : Three w A B C o d a b n o' d' a' b' n' x) :
    (x.cell? ⟨A, 0, none⟩ = some (.int .i64 o) ∧ x.cell? ⟨A, 1, none⟩ = some (.int .i64 d) ∧ x.cell? ⟨A, 2, none⟩ = some (.int .i64 a) ∧ x.cell? ⟨A, 3, none⟩ = some (.int .i64 b) ∧ x.cell? ⟨A, 4, none⟩ = some (.int .i64 n) ∧ x.cell? ⟨B, 0, none⟩ = some (.int .i64 o') ∧ x.cell? ⟨B, 1, none⟩ = some (.int .i64 d') ∧ x.cell? ⟨B, 2, none⟩ = some (.int .i64 a') ∧ x.cell? ⟨B, 3, none⟩ = some (.int .i64 b') ∧ x.cell? ⟨B, 4, none⟩ = some (.int .i64 n') ∧ x.cell? ⟨C, 0, none⟩ = some (.int .i64 o') ∧ x.cell? ⟨C, 1, none⟩ = some (.int .i64 d') ∧ x.cell? ⟨C, 2, none⟩ = some (.int .i64 a') ∧ x.cell? ⟨C, 3, none⟩ = some (.int .i64 b') ∧ x.cell? ⟨C, 4, none⟩ = some (.int .i64 n')) ∧ Below w.heap.size w x :=
  ⟨⟨h.1.c0, h.1.c1, h.1.c2, h.1.c3, h.1.c4, h.2.1.c0, h.2.1.c1, h.2.1.c2, h.2.1.c3, h.2.1.c4, h.2.2.c0, h.2.2.c1, h.2.2.c2, h.2.2.c3, h.2.2.c4⟩, h.1.below⟩

set_option maxHeartbeats 4000000 in
theorem within (o d a b n v : Int) (w : World) (v0 : 0 ≤ v) (v1 : v < 4294967296) (hL : ShapesLaid w) :
    Calls Tryd.prog 3 #[.agg #[.int .i64 o, .int .i64 d, .int .i64 a, .int .i64 b, .int .i64 n], .int .u32 v] w fun e w' => e = .returned (.bool true) ∧ Below w.heap.size w w' := by
  have HI := Lib.hid (fun T => InsW.new w w o d a b n T (Below.refl _ _) (Nat.le_refl _))
  have HL := Lib.hid hL
  have hq := eq_ins
  obtain ⟨z, hz⟩ : ∃ z, cChk o d a b n = z := ⟨_, rfl⟩
  obtain ⟨x, hx⟩ : ∃ x, cEnc o d a b n = x := ⟨_, rfl⟩
  obtain ⟨o', ho⟩ : ∃ y, cO v = y := ⟨_, rfl⟩
  obtain ⟨d', hd⟩ : ∃ y, cG v 0 = y := ⟨_, rfl⟩
  obtain ⟨a', ha⟩ : ∃ y, cG v 1 = y := ⟨_, rfl⟩
  obtain ⟨b', hb⟩ : ∃ y, cG v 2 = y := ⟨_, rfl⟩
  obtain ⟨n', hn⟩ : ∃ y, cG v 3 = y := ⟨_, rfl⟩
  obtain ⟨z', hz'⟩ : ∃ y, cErr v = y := ⟨_, rfl⟩
  have HZ := Lib.hid hz
  have HX := Lib.hid hx
  have GO := Lib.hid ho
  have GD := Lib.hid hd
  have GA := Lib.hid ha
  have GB := Lib.hid hb
  have GN := Lib.hid hn
  have GZ := Lib.hid hz'
  clear hz hx ho hd ha hb hn hz' hL
  go_enter Tryd.func3, Tryd.ntmps3
  go_wp2_with (first
    | (go_at_call 6; ((with_reducible refine (codeEncode_is o d a b n x z _ (HL.out.below (HI.out _).below HL.out.lt) HZ.out HX.out).mono ?_); rintro e w1 ⟨rfl, hk⟩); have hI := (HI.out _).keep hk; have c0 := hI.c0; have c1 := hI.c1; have c2 := hI.c2; have c3 := hI.c3; have c4 := hI.c4)
    | (go_at_call 7; ((with_reducible refine (refEncode_is o d a b n x z _ HZ.out HX.out).mono ?_); rintro e w2 ⟨rfl, hk⟩); have hI := hI.keep hk; clear c0 c1 c2 c3 c4)
    | (go_at_call 8; ((with_reducible refine (codeDecode_to GO.out GD.out GA.out GB.out GN.out GZ.out (HL.out.below hI.below HL.out.lt) v0 v1).mono ?_); rintro e w3 ⟨rfl, hk⟩); have hI := hI.keep hk; have hJ := InsW.new w w3 o' d' a' b' n' 23 hI.below hI.le; have hI := hI.alloc (.cells #[.int .i64 o', .int .i64 d', .int .i64 a', .int .i64 b', .int .i64 n'] 23))
    | (go_at_call 9; ((with_reducible refine (refDecode_to GO.out GD.out GA.out GB.out GN.out GZ.out v0 v1).mono ?_); rintro e w4 ⟨rfl, hk⟩); have hI := hI.keep hk; have hJ := hJ.keep hk; have hK := InsW.new w w4 o' d' a' b' n' 23 hI.below hI.le; have hI := hI.alloc (.cells #[.int .i64 o', .int .i64 d', .int .i64 a', .int .i64 b', .int .i64 n'] 23); have hJ := hJ.alloc (.cells #[.int .i64 o', .int .i64 d', .int .i64 a', .int .i64 b', .int .i64 n'] 23)))
  obtain ⟨W, hW⟩ : ∃ W, w4.alloc (.cells #[.int .i64 o', .int .i64 d', .int .i64 a', .int .i64 b', .int .i64 n'] 23) = W := ⟨_, rfl⟩
  rw [hW] at hI hJ hK ⊢
  have h3 : Three w w.heap.size w3.heap.size w4.heap.size o d a b n o' d' a' b' n' W.drew := Three.keep ⟨hI, hJ, hK⟩ (Below.refl _ _).drew
  have hS := h3.all
  clear hI hJ hK hW
  go_region_held3 (fun w' => (w'.cell? ⟨w.heap.size, 0, none⟩ = some (.int .i64 o) ∧ w'.cell? ⟨w.heap.size, 1, none⟩ = some (.int .i64 d) ∧ w'.cell? ⟨w.heap.size, 2, none⟩ = some (.int .i64 a) ∧ w'.cell? ⟨w.heap.size, 3, none⟩ = some (.int .i64 b) ∧ w'.cell? ⟨w.heap.size, 4, none⟩ = some (.int .i64 n) ∧ w'.cell? ⟨w3.heap.size, 0, none⟩ = some (.int .i64 o') ∧ w'.cell? ⟨w3.heap.size, 1, none⟩ = some (.int .i64 d') ∧ w'.cell? ⟨w3.heap.size, 2, none⟩ = some (.int .i64 a') ∧ w'.cell? ⟨w3.heap.size, 3, none⟩ = some (.int .i64 b') ∧ w'.cell? ⟨w3.heap.size, 4, none⟩ = some (.int .i64 n') ∧ w'.cell? ⟨w4.heap.size, 0, none⟩ = some (.int .i64 o') ∧ w'.cell? ⟨w4.heap.size, 1, none⟩ = some (.int .i64 d') ∧ w'.cell? ⟨w4.heap.size, 2, none⟩ = some (.int .i64 a') ∧ w'.cell? ⟨w4.heap.size, 3, none⟩ = some (.int .i64 b') ∧ w'.cell? ⟨w4.heap.size, 4, none⟩ = some (.int .i64 n')) ∧ Below w.heap.size w w')
    (with_reducible assumption)
    (first
      | (go_at_call 10; ((with_reducible refine (codeCheckI_is o d a b n z _ (HL.out.below h3.bel HL.out.lt) HZ.out).mono ?_); rintro e w5 ⟨rfl, hk⟩); have h3 := h3.keep hk; have hS := h3.all)
      | (go_at_call 11; ((with_reducible refine (refCheckI_is o d a b n z _ HZ.out).mono ?_); rintro e w6 ⟨rfl, hk⟩); have h3 := h3.keep hk; have hS := h3.all)
      | (go_at_call 12; ((with_reducible refine (codeAwake_is _ (HL.out.below h3.bel HL.out.lt)).mono ?_); rintro e w7 ⟨rfl, hk⟩); have h3 := h3.keep hk; have hS := h3.all))
  all_goals go_wp2
  all_goals go_ret
  all_goals exact ⟨rfl, hS.2⟩
theorem walk (a0_0 a0_1 a0_2 a0_3 a0_4 a1 : Int) (_ : (Lit.int .i64 a0_0).wf = true) (_ : (Lit.int .i64 a0_1).wf = true) (_ : (Lit.int .i64 a0_2).wf = true) (_ : (Lit.int .i64 a0_3).wf = true) (_ : (Lit.int .i64 a0_4).wf = true) (w1 : (Lit.int .u32 a1).wf = true) (w : World) (hL : ShapesLaid w) :
    Calls Tryd.prog 3 #[.agg #[.int .i64 a0_0, .int .i64 a0_1, .int .i64 a0_2, .int .i64 a0_3, .int .i64 a0_4], .int .u32 a1] w fun e w' => e = .returned (.bool true) ∧ Below w.heap.size w w' := by
  obtain ⟨b3, b4⟩ : 0 ≤ a1 ∧ a1 < 4294967296 := by
    simp [Lit.wf, IntKind.min, IntKind.max, IntKind.bits, IntKind.signed] at w1
    omega
  exact within _ _ _ _ _ _ w b3 b4 hL
end Go.Proofs.YtbgeiobffpfgoaaDoor.codeTells
