/- Package line within a law: answers in a caller's words, the page's examples. Conditions: the tables and errors that the program lists lie as its text has them. -/
import Derived.Test.YtheflkhbmbfajaaDoorLinU
import Derived.Test.YtheflkhbmbfajaaDoorCodK
namespace Go.Proofs.YtheflkhbmbfajaaDoor
open Go.RowKit

/-- What is parsed, in a caller's words. -/
theorem lineParse_to {l : List UInt8} {s : ByteArray} {o d a b n z : Int} {w : World} (hs : s = txt l) (hl : l.length < 1000000) (ho : pO (wds l) = o) (hd : pF (wds l) 0 = d) (ha : pF (wds l) 1 = a) (hb : pF (wds l) 2 = b) (hn : pF (wds l) 3 = n) (hz : pErr (wds l) = z) (hL : LinLaid w) :
    Calls Tryd.prog 9 #[.string s] w fun e w' => e = .returned (.tuple #[.agg #[.int .i64 o, .int .i64 d, .int .i64 a, .int .i64 b, .int .i64 n], .int .i64 z]) ∧ Below w.heap.size w w' := by
  subst ho hd ha hb hn hz
  exact (lineParse_is l s w hs hl hL).mono fun _ _ h => h
theorem lineNumber_to {l : List UInt8} {s : ByteArray} {v : Int} {k : Bool} {w : World} (hs : s = txt l) (hl : l.length ≤ 281474976710656) (hv : numV l = v) (hk : numOk l = k) (hL : LinLaid w) :
    Calls Tryd.prog 11 #[.string s] w fun e w' => e = .returned (.tuple #[.int .i64 v, .bool k]) ∧ Below w.heap.size w w' := by
  subst hv hk
  exact (lineNumber_is l s w hs hl hL).mono fun _ _ h => h
def exA : List UInt8 := [32, 97, 100, 100, 105, 32, 114, 49, 32, 32, 114, 50, 32, 45, 53, 32]
def exB : List UInt8 := [97, 100, 100, 105, 32, 114, 48, 49, 32, 114, 50, 32, 53]
def exC : List UInt8 := [45, 49, 50]
theorem ex_lw : cChk 34 1 0 0 40 = 0 ∧ lineT 34 1 0 0 40 = ⟨#[108, 119, 32, 114, 49, 32, 114, 48, 32, 52, 48]⟩ := by decide +kernel
theorem ex_a : pO (wds exA) = 31 ∧ pF (wds exA) 0 = 1 ∧ pF (wds exA) 1 = 2 ∧ pF (wds exA) 2 = 0 ∧ pF (wds exA) 3 = -5 ∧ pErr (wds exA) = 0 := by decide +kernel
theorem ex_b : pO (wds exB) = 0 ∧ pF (wds exB) 0 = 0 ∧ pF (wds exB) 1 = 0 ∧ pF (wds exB) 2 = 0 ∧ pF (wds exB) 3 = 0 ∧ pErr (wds exB) = 3 := by decide +kernel
theorem ex_c : numV exC = -12 ∧ numOk exC = true := by decide +kernel
set_option maxHeartbeats 1000000 in
theorem lineAwake_is (w : World) (hL : LinLaid w) :
    Calls Tryd.prog 6 #[] w fun e w' => e = .returned (.bool true) ∧ Below w.heap.size w w' := by
  have hb := Below.refl w.heap.size w
  have HL := Lib.hid hL
  have hq := eq_ins
  have FL := Lib.hid ex_lw
  have FA := Lib.hid ex_a
  have FB := Lib.hid ex_b
  have FC := Lib.hid ex_c
  have SA := Lib.hid (show (⟨#[32, 97, 100, 100, 105, 32, 114, 49, 32, 32, 114, 50, 32, 45, 53, 32]⟩ : ByteArray) = txt exA from rfl)
  have SB := Lib.hid (show (⟨#[97, 100, 100, 105, 32, 114, 48, 49, 32, 114, 50, 32, 53]⟩ : ByteArray) = txt exB from rfl)
  have SC := Lib.hid (show (⟨#[45, 49, 50]⟩ : ByteArray) = txt exC from rfl)
  clear hL
  go_enter Tryd.func6, Tryd.ntmps6
  go_wp2_with (first
    | (go_at_call 7; ((with_reducible refine (lineText_is 34 1 0 0 40 0 _ _ FL.out.1 FL.out.2 HL.out).mono ?_); rintro e w1 ⟨rfl, hk⟩); have HB := Lib.hid hk; clear hk)
    | (go_at_call 9; ((with_reducible refine (lineParse_to (l := exA) SA.out (by decide) FA.out.1 FA.out.2.1 FA.out.2.2.1 FA.out.2.2.2.1 FA.out.2.2.2.2.1 FA.out.2.2.2.2.2 (HL.out.below HB.out (Nat.le_refl _))).mono ?_); rintro e w2 ⟨rfl, hk⟩); have hI := InsW.new w w2 31 1 2 0 (-5) 23 (HB.out.trans (hk.mono HB.out.size)) (HB.out.trans (hk.mono HB.out.size)).size; clear hk)
    | (go_at_call 9; ((with_reducible refine (lineParse_to (l := exB) SB.out (by decide) FB.out.1 FB.out.2.1 FB.out.2.2.1 FB.out.2.2.2.1 FB.out.2.2.2.2.1 FB.out.2.2.2.2.2 (HL.out.below hI.below (Nat.le_refl _))).mono ?_); rintro e w3 ⟨rfl, hk⟩); have hI := (hI.keep hk).alloc (.cells #[.int .i64 0, .int .i64 0, .int .i64 0, .int .i64 0, .int .i64 0] 23); clear hk)
    | (go_at_call 11; ((with_reducible refine (lineNumber_to (l := exC) SC.out (by decide) FC.out.1 FC.out.2 (HL.out.below hI.below (Nat.le_refl _))).mono ?_); rintro e w4 ⟨rfl, hk⟩); have hI := hI.keep hk; have c0 := hI.c0; have c1 := hI.c1; have c2 := hI.c2; have c3 := hI.c3; have c4 := hI.c4; clear hk))
  go_ret
  exact ⟨rfl, hI.below⟩
end Go.Proofs.YtheflkhbmbfajaaDoor
