/- The walk of the law WordTells: it returns true and writes nothing that was there. -/
import Derived.Test.YtaeogbkiegmmjaaWordB
import Derived.Test.YtaeogbkiegmmjaaRefF
import Derived.Deep.RegionHeld3
import Derived.Laws.BytesArg
namespace Go.Proofs.Ytaeogbkiegmmjaa.wordTells
open Go.RowKit Go.ChangeShapes Go.OpenShut

/-- What is told of a slice of integers that came in: it is nil; or it leads to a row of cap cells, the numbers zs, each fitting its kind. -/
def IsRow (k : IntKind) (w : World) (a : Option Addr) (len cap : Nat) (zs : List Int) : Prop :=
  (a = none ∧ len = 0 ∧ cap = 0 ∧ zs = []) ∨
  ∃ x, a = some x ∧ len ≤ cap ∧ cap ≤ maxLen ∧ zs.length = cap ∧ (∀ i, i < zs.length → w.cell? (x.add i) = some (.int k (zs.getD i 0))) ∧ ∀ n ∈ zs, (Lit.int k n).wf = true

/-- What both ways of reading a word out of bytes answer alike. -/
def Alike (w : World) (a : Option Addr) (n c : Nat) (v e : Int) : Prop :=
  Calls Try.prog 6 #[.slice a n c] w (fun r w' => r = .returned (.tuple #[.int .i32 v, .int .i64 e]) ∧ w = w') ∧
  Calls Try.prog 7 #[.slice a n c] w (fun r w' => r = .returned (.tuple #[.int .i32 v, .int .i64 e]) ∧ w = w')

theorem add_off (b off i : Nat) : Addr.add ⟨b, off, none⟩ i = ⟨b, off + i, none⟩ := by
  unfold Addr.add; by_cases h : i = 0 <;> simp [h]

theorem alike (w : World) (a : Option Addr) (n c : Nat) (z : List Int) (h : IsRow .u8 w a n c z) : ∃ v e, Alike w a n c v e := by
  by_cases h1 : n < 4
  · exact ⟨0, 4, from_short a n c w h1, refFrom_short a n c w h1⟩
  by_cases h2 : 4 < n
  · exact ⟨0, 5, from_long a n c w h2, refFrom_long a n c w h2⟩
  obtain rfl : n = 4 := by omega
  rcases h with ⟨_, h, _⟩ | ⟨x, rfl, hl, hm, hz, hcell, hwz⟩
  · omega
  obtain ⟨b, off, spot⟩ := x
  have hspot : spot = none := by simpa [Addr.add] using World.cell?_spot (hcell 0 (by omega))
  subst hspot
  have hc : ∀ i, i < 4 → w.cell? ⟨b, off + i, none⟩ = some (.int .u8 (z.getD i 0)) := fun i hi => by rw [← add_off]; exact hcell i (by omega)
  have hz' : ∀ i, i < 4 → 0 ≤ z.getD i 0 ∧ z.getD i 0 ≤ 255 := fun i hi => by
    have : z.getD i 0 ∈ z := by
      rw [List.getD_eq_getElem?_getD, List.getElem?_eq_getElem (by omega)]; exact List.getElem_mem _
    exact bounds_u8 (hwz _ this)
  exact ⟨_, 0, from_four b off c (fun i => z.getD i 0) _ w rfl hc hz', refFrom_four b off c (fun i => z.getD i 0) _ w rfl hc hz'⟩

/-- The string of the four bytes that stand at block b. -/
def str4 (x : Int) : ByteArray := strOfNums [byt x 0, byt x 1, byt x 2, byt x 3]

theorem conv4 (w : World) (b : Nat) (x : Int) (h : ∀ i, i < 4 → w.cell? ⟨b, 0 + i, none⟩ = some (.int .u8 (byt x i))) :
    (convert 22 9 (.slice (some ⟨b, 0, none⟩) 4 4)).run Try.prog w = .ok (.string (str4 x)) w :=
  run_convert_bytes_arg w 22 5 Try.underlying22 Try.underlying5 b 0 4 4 [byt x 0, byt x 1, byt x 2, byt x 3] rfl (fun i hi => by
    rw [h i hi]
    obtain rfl | rfl | rfl | rfl : i = 0 ∨ i = 1 ∨ i = 2 ∨ i = 3 := by omega
    all_goals rfl) 9 Try.underlying9

set_option maxHeartbeats 4000000 in
theorem walk (a0 : Int) (a1 : Int) (a2 : Int) (a3 : Option Addr) (len3 cap3 : Nat) (z3 : List Int) (w : World) (w0 : (Lit.int .i64 a0).wf = true) (w1 : (Lit.int .i32 a1).wf = true) (w2 : (Lit.int .i32 a2).wf = true) (w3 : IsRow .u8 w a3 len3 cap3 z3) :
    Calls Try.prog 3 #[.int .i64 a0, .int .i32 a1, .int .i32 a2, .slice a3 len3 cap3] w fun e w' => e = .returned (.bool true) ∧ Below w.heap.size w w' := by
  obtain ⟨v, er, H1, H2⟩ := alike w a3 len3 cap3 z3 w3
  obtain ⟨b1, b2⟩ := bounds_i64 w0
  obtain ⟨b3, b4⟩ := bounds_i32 w1
  obtain ⟨b5, b6⟩ := bounds_i32 w2
  have f1 := fun w => low_is a0 _ w rfl
  have f2 := fun w => refLow_is a0 _ w rfl
  have f3 := fun w => high_is a0 _ w b1 b2 rfl
  have f4 := fun w => refHigh_is a0 _ w b1 b2 rfl
  have f5 := fun w => join_is a1 a2 _ w b3 b4 rfl
  have f6 := fun w => refJoin_is a1 a2 _ w b3 b4 b5 b6 rfl
  have f7 := fun w => half_is a1 _ w rfl
  have f8 := fun w => refHalf_is a1 _ w b3 b4 rfl
  have u1 : IntKind.u8.wrap a1 = a1 % 256 := IntKind.wrap_u8 _
  have u2 : IntKind.u8.wrap a2 = a2 % 256 := IntKind.wrap_u8 _
  have f9 := fun w => pair_is (a1 % 256) (a2 % 256) _ w (by omega) (by omega) (by omega) (by omega) rfl
  have f10 := fun w => refPair_is (a1 % 256) (a2 % 256) _ w (by omega) (by omega) (by omega) (by omega) rfl
  have k1 := conv4 (w.alloc (.cells #[.int .u8 (a1 / 16777216 % 256), .int .u8 (a1 / 65536 % 256), .int .u8 (a1 / 256 % 256), .int .u8 (a1 % 256)] 41)).drew w.heap.size a1 (bytes_cell a1 w)
  have k2 := conv4 ((w.alloc (.cells #[.int .u8 (a1 / 16777216 % 256), .int .u8 (a1 / 65536 % 256), .int .u8 (a1 / 256 % 256), .int .u8 (a1 % 256)] 41)).alloc (.cells #[.int .u8 (a1 / 16777216 % 256), .int .u8 (a1 / 65536 % 256), .int .u8 (a1 / 256 % 256), .int .u8 (a1 % 256)] 5)).drew w.heap.size a1 (fun i hi => by
    obtain rfl | rfl | rfl | rfl : i = 0 ∨ i = 1 ∨ i = 2 ∨ i = 3 := by omega
    all_goals (simp only [byt]; go_cell))
  have k3 := conv4 ((w.alloc (.cells #[.int .u8 (a1 / 16777216 % 256), .int .u8 (a1 / 65536 % 256), .int .u8 (a1 / 256 % 256), .int .u8 (a1 % 256)] 41)).alloc (.cells #[.int .u8 (a1 / 16777216 % 256), .int .u8 (a1 / 65536 % 256), .int .u8 (a1 / 256 % 256), .int .u8 (a1 % 256)] 5)).drew (w.heap.size + 1) a1 (fun i hi => by
    obtain rfl | rfl | rfl | rfl : i = 0 ∨ i = 1 ∨ i = 2 ∨ i = 3 := by omega
    all_goals (simp only [byt]; go_cell))
  go_enter Try.func3, Try.ntmps3
  go_wp2_with (first
    | (go_at_call 6; refine H1.mono ?_; rintro e w' ⟨rfl, rfl⟩)
    | (go_at_call 7; refine H2.mono ?_; rintro e w' ⟨rfl, rfl⟩)
    | (go_at_call 8; refine (f1 _).mono ?_; rintro e w' ⟨rfl, rfl⟩)
    | (go_at_call 9; refine (f2 _).mono ?_; rintro e w' ⟨rfl, rfl⟩)
    | (go_at_call 10; refine (f3 _).mono ?_; rintro e w' ⟨rfl, rfl⟩)
    | (go_at_call 11; refine (f4 _).mono ?_; rintro e w' ⟨rfl, rfl⟩)
    | (go_at_call 12; refine (f5 _).mono ?_; rintro e w' ⟨rfl, rfl⟩)
    | (go_at_call 13; refine (f6 _).mono ?_; rintro e w' ⟨rfl, rfl⟩)
    | (go_at_call 14; refine (f7 _).mono ?_; rintro e w' ⟨rfl, rfl⟩)
    | (go_at_call 15; refine (f8 _).mono ?_; rintro e w' ⟨rfl, rfl⟩))
  go_region_held (fun _ => True) (exact trivial) (first
    | (go_at_call 16; refine (bytes_is _ _).mono ?_; rintro e w' ⟨rfl, rfl⟩)
    | (go_at_call 17; refine (refBytes_is _ _ b3 b4).mono ?_; rintro e w' ⟨rfl, rfl⟩)
    | (go_at_call 18; with_reducible refine (f9 _).mono ?_; rintro e w' ⟨rfl, rfl⟩)
    | (go_at_call 19; with_reducible refine (f10 _).mono ?_; rintro e w' ⟨rfl, rfl⟩)
    | (go_at_call 20; with_reducible refine (awake_is _).mono ?_; rintro e w' ⟨rfl, hb⟩))
  all_goals go_wp2
  all_goals go_ret
  all_goals exact ⟨rfl, ((((Below.refl _ _).alloc (Nat.le_refl _) _).alloc (by simp) _).drew).trans (hb.mono (by simp; omega))⟩
end Go.Proofs.Ytaeogbkiegmmjaa.wordTells
