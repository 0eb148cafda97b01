/- Package core in memory, asking and reckoning. -/
import Derived.Test.YtgmphfagflhglaaGreatDoorCorD
import Derived.Test.YtgmphfagflhglaaGreatDoorRamA
import Derived.Test.YtgmphfagflhglaaGreatDoorCodE
import Derived.Test.YtgmphfagflhglaaGreatDoorAluK
import Derived.Test.YtgmphfagflhglaaGreatDoorAluA
import Derived.Deep.RegionLaw
import Derived.Deep.DeepCutAuto
import Derived.StillTailTactics
import Derived.Deep.QuietTactic
namespace Go.Proofs.YtgmphfagflhglaaGreatDoor
open Go.RowKit

open Go.RowKit Go.IntWalk

/-- An instruction's number k. -/
def insF (v : Int) (k : Nat) : Int := if k = 0 then cO v else cG v (k - 1)
/-- The instructions of words, at a slice. -/
structure InsAt (w : World) (a : Option Addr) (n c : Nat) (l : List Int) : Prop where
  len : l.length = n
  cap : n ≤ c
  big : c ≤ maxLen
  lie : 0 < n → ∃ g, a = some ⟨g, 0, none⟩ ∧ ∀ i, i < n → ∀ k, k < 5 → w.cell? ⟨g, i * 5 + k, none⟩ = some (.int .i64 (insF (byAt l i) k))
theorem InsAt.kept {F : Nat → Prop} {w w' : World} {a : Option Addr} {n c : Nat} {l : List Int} (h : InsAt w a n c l) (k : Keeps F w w') (hn : ∀ g off, a = some ⟨g, off, none⟩ → ¬ F g) : InsAt w' a n c l := by
  refine ⟨h.len, h.cap, h.big, fun h0 => ?_⟩
  obtain ⟨g, e, hc⟩ := h.lie h0
  exact ⟨g, e, fun i hi j hj => k.cell (hn g 0 e) (hc i hi j hj)⟩
theorem InsAt.keep {w w' : World} {a : Option Addr} {n c : Nat} {l : List Int} (h : InsAt w a n c l) (k : Below w.heap.size w w') : InsAt w' a n c l := h.kept (Keeps.of_below (fun _ => False) k) fun _ _ _ f => f
/-- The tables that it asks lie below base. -/
structure TabsAt (base : Nat) (w : World) : Prop where
  shapes : ShapesLaid w
  costs : CostsLaid w
  gs : 1 < base
  gc : 2 < base
theorem TabsAt.kept {base : Nat} {F : Nat → Prop} {w w' : World} (h : TabsAt base w) (k : Keeps F w w') (hF : ∀ j, F j → base ≤ j) : TabsAt base w' := by
  obtain ⟨t1, h1⟩ := h.shapes
  obtain ⟨t2, h2⟩ := h.costs
  refine ⟨⟨t1, ?_⟩, ⟨t2, ?_⟩, h.gs, h.gc⟩
  · rw [k.block _ (Array.getElem?_eq_some_iff.1 h1).1 (fun f => by have := hF _ f; have := h.gs; omega)]; exact h1
  · rw [k.block _ (Array.getElem?_eq_some_iff.1 h2).1 (fun f => by have := hF _ f; have := h.gc; omega)]; exact h2
theorem TabsAt.keep {base : Nat} {w w' : World} (h : TabsAt base w) (k : Below w.heap.size w w') : TabsAt base w' := h.kept (Keeps.of_below (fun _ => False) k) fun _ f => f.elim
/-- What marks cost. -/
def costS : List Mk → Int
  | [] => 0
  | m :: l => m.2.2 + costS l
theorem costS_app (l k : List Mk) : costS (l ++ k) = costS l + costS k := by
  induction l with
  | nil => simp [costS]
  | cons m l ih => simp only [List.cons_append, costS, ih]; omega
theorem costS_one (m : Mk) : costS [m] = m.2.2 := by simp [costS]
theorem costS_bd {l : List Mk} (h : ∀ k, k < l.length → 1 ≤ (mkAt l k).2.2 ∧ (mkAt l k).2.2 ≤ 34) : 0 ≤ costS l ∧ costS l ≤ 34 * l.length := by
  induction l with
  | nil => decide
  | cons m l ih =>
    have h0 := h 0 (by simp)
    have e0 : mkAt (m :: l) 0 = m := rfl
    rw [e0] at h0
    have := ih fun k hk => by
      have h1 := h (k + 1) (by simpa using hk)
      have e1 : mkAt (m :: l) (k + 1) = mkAt l k := by simp [mkAt, List.getD]
      rw [e1] at h1
      exact h1
    simp only [costS, List.length_cons]
    omega

/-- What the program's core holds, place by place. -/
def corC (b rb : Nat) (ca : Option Addr) (cn cc : Nat) (mv : Value) (cyc : Int) (s : Cst) (i : Nat) : Value :=
  if i = 0 then .pointer (some ⟨rb, 0, none⟩) else if i = 1 then .slice ca cn cc else if i = 34 then .int .i64 s.pc else if i = 35 then .int .i64 s.st else if i = 36 then .int .i64 cyc
  else if i = 37 then mv else if i = 38 then .pointer (some ⟨b, 0, none⟩) else .int .i32 (s.reg (i - 2))
/-- The program's core at block b; F: the blocks that it owns, from base on. -/
structure CorW (w : World) (base b rb : Nat) (F : Nat → Prop) (ca : Option Addr) (cn cc : Nat) (rv mv : Value) (cyc : Int) (code : List Int) (s : Cst) : Prop where
  blk : BlkAt b 72 (fnArr 39 (corC b rb ca cn cc mv cyc s)) w
  code : InsAt w ca cn cc code
  ram : RamAt 102 21 w base rb rv s.ram
  marks : OwnMk w base 138 mv s.mks
  tabs : TabsAt base w
  fb : F b
  fr : F rb ∧ rb ≠ b
  fv : ∀ j, rv.ownBlock = some j → F j ∧ j ≠ b
  fm : ∀ j, mv.ownBlock = some j → F j ∧ j ≠ b ∧ j ≠ rb ∧ rv.ownBlock ≠ some j
  fc : ∀ g off, ca = some ⟨g, off, none⟩ → F g ∧ g ≠ b ∧ g ≠ rb ∧ rv.ownBlock ≠ some g ∧ mv.ownBlock ≠ some g
  fF : ∀ j, F j → base ≤ j ∧ j < w.heap.size
section
variable {w w' : World} {base b rb : Nat} {F : Nat → Prop} {ca : Option Addr} {cn cc : Nat} {rv mv : Value} {cyc : Int} {code : List Int} {s : Cst}
theorem CorW.keep (h : CorW w base b rb F ca cn cc rv mv cyc code s) (k : Below w.heap.size w w') : CorW w' base b rb F ca cn cc rv mv cyc code s :=
  ⟨h.blk.keep k, h.code.keep k, h.ram.keep k, h.marks.keep k, h.tabs.keep k, h.fb, h.fr, h.fv, h.fm, h.fc, fun j hj => ⟨(h.fF j hj).1, Nat.lt_of_lt_of_le (h.fF j hj).2 k.size⟩⟩
theorem ram_kept {G : Nat → Prop} {T e : TypeId} {v : Value} {L : List Int} (h : RamAt T e w base rb v L) (k : Keeps G w w') (h0 : ¬ G rb) (h1 : ∀ j, v.ownBlock = some j → ¬ G j) : RamAt T e w' base rb v L :=
  ⟨h.blk.kept k h0, own_kept h.own k h1, h.ge, h.ne⟩
theorem CorW.kept {G : Nat → Prop} (h : CorW w base b rb F ca cn cc rv mv cyc code s) (k : Keeps G w w') (hG : ∀ j, G j → base ≤ j) (ha : ∀ j, F j → ¬ G j) : CorW w' base b rb F ca cn cc rv mv cyc code s :=
  ⟨h.blk.kept k (ha _ h.fb), h.code.kept k fun j off e => ha j (h.fc j off e).1, ram_kept h.ram k (ha _ h.fr.1) fun j e => ha j (h.fv j e).1, h.marks.kept k fun j e => ha j (h.fm j e).1, h.tabs.kept k hG,
    h.fb, h.fr, h.fv, h.fm, h.fc, fun j hj => ⟨(h.fF j hj).1, Nat.lt_of_lt_of_le (h.fF j hj).2 k.size⟩⟩
/-- A place of its block turned. -/
theorem CorW.turn {cyc' : Int} {s' : Cst} (h : CorW w base b rb F ca cn cc rv mv cyc code s) (k : Nat) (v : Value) (e : ∀ i, i < 39 → corC b rb ca cn cc mv cyc' s' i = if i = k then v else corC b rb ca cn cc mv cyc s i) (hr : s'.ram = s.ram) (hm : s'.mks = s.mks) :
    CorW (w.setCell ⟨b, k, none⟩ v) base b rb F ca cn cc rv mv cyc' code s' := by
  have kk : Keeps (fun j => j = b) w (w.setCell ⟨b, k, none⟩ v) := Keeps.set (F := fun j => j = b) rfl w k v
  refine ⟨h.blk.fset k v e, h.code.kept kk fun j off e => (h.fc j off e).2.1, ?_, ?_, h.tabs.kept kk fun j e => e ▸ (h.fF b h.fb).1, h.fb, h.fr, h.fv, h.fm, h.fc, fun j hj => ⟨(h.fF j hj).1, Nat.lt_of_lt_of_le (h.fF j hj).2 kk.size⟩⟩
  · rw [hr]; exact ram_kept h.ram kk h.fr.2 fun j e => (h.fv j e).2
  · rw [hm]; exact h.marks.kept kk fun j e => (h.fm j e).2.1
theorem CorW.to_pc (h : CorW w base b rb F ca cn cc rv mv cyc code s) (x : Int) : CorW (w.setCell ⟨b, 34, none⟩ (.int .i64 x)) base b rb F ca cn cc rv mv cyc code { s with pc := x } := by
  refine h.turn 34 _ (fun i hi => ?_) rfl rfl
  unfold corC
  by_cases e : i = 34
  · subst e; rfl
  · simp only [if_neg e]
theorem CorW.to_st (h : CorW w base b rb F ca cn cc rv mv cyc code s) (x : Int) : CorW (w.setCell ⟨b, 35, none⟩ (.int .i64 x)) base b rb F ca cn cc rv mv cyc code (s.stop x) := by
  refine h.turn 35 _ (fun i hi => ?_) rfl rfl
  unfold corC
  by_cases e : i = 35
  · subst e; rfl
  · simp only [if_neg e]; rfl
theorem CorW.to_cyc (h : CorW w base b rb F ca cn cc rv mv cyc code s) (x : Int) : CorW (w.setCell ⟨b, 36, none⟩ (.int .i64 x)) base b rb F ca cn cc rv mv x code s := by
  refine h.turn 36 _ (fun i hi => ?_) rfl rfl
  unfold corC
  by_cases e : i = 36
  · subst e; rfl
  · simp only [if_neg e]
theorem CorW.to_reg (h : CorW w base b rb F ca cn cc rv mv cyc code s) {d : Nat} (hd : d ≠ 0) (hd2 : d < 32) (x : Int) : CorW (w.setCell ⟨b, 2 + d, none⟩ (.int .i32 x)) base b rb F ca cn cc rv mv cyc code (s.put d x) := by
  refine h.turn (2 + d) _ (fun i hi => ?_) rfl rfl
  unfold corC Cst.put
  simp only [if_neg hd]
  unfold upd
  by_cases e : i = 2 + d
  · subst e
    rw [if_neg (by omega), if_neg (by omega), if_neg (by omega), if_neg (by omega), if_neg (by omega), if_neg (by omega), if_neg (by omega), if_pos (by omega), if_pos rfl]
  · rw [if_neg e]
    by_cases h0 : i = 0
    · simp only [if_pos h0]
    by_cases h1 : i = 1
    · simp only [if_neg h0, if_pos h1]
    rw [if_neg (show ¬ i - 2 = d by omega)]
theorem CorW.cpc (h : CorW w base b rb F ca cn cc rv mv cyc code s) :
    w.cell? ⟨b, 0, none⟩ = some (.pointer (some ⟨rb, 0, none⟩)) ∧ w.cell? ⟨b, 1, none⟩ = some (.slice ca cn cc) ∧ w.cell? ⟨b, 34, none⟩ = some (.int .i64 s.pc) ∧ w.cell? ⟨b, 35, none⟩ = some (.int .i64 s.st) ∧ w.cell? ⟨b, 36, none⟩ = some (.int .i64 cyc) ∧ w.cell? ⟨b, 37, none⟩ = some mv ∧ w.cell? ⟨b, 38, none⟩ = some (.pointer (some ⟨b, 0, none⟩)) :=
  ⟨h.blk.fcell (by omega), h.blk.fcell (by omega), h.blk.fcell (by omega), h.blk.fcell (by omega), h.blk.fcell (by omega), h.blk.fcell (by omega), h.blk.fcell (by omega)⟩
theorem CorW.creg (h : CorW w base b rb F ca cn cc rv mv cyc code s) {d : Nat} (hd : d < 32) : w.cell? ⟨b, 2 + d, none⟩ = some (.int .i32 (s.reg d)) := by
  refine (h.blk.fcell (k := 2 + d) (by omega)).trans ?_
  unfold corC
  rw [if_neg (by omega), if_neg (by omega), if_neg (by omega), if_neg (by omega), if_neg (by omega), if_neg (by omega), if_neg (by omega), show 2 + d - 2 = d by omega]
theorem CorW.free (h : CorW w base b rb F ca cn cc rv mv cyc code s) (k : Nat) : w.frozen? ⟨b, k, none⟩ = false := BlkAt.free h.blk k
theorem corPut_is (d : Nat) (x : Int) (h : CorW w base b rb F ca cn cc rv mv cyc code s) (hd : d < 32) :
    Calls Tryz.prog 74 #[.pointer (some ⟨b, 0, none⟩), .int .i64 (d : Int), .int .i32 x] w fun e w' => e = .returned (.tuple #[]) ∧ CorW w' base b rb F ca cn cc rv mv cyc code (s.put d x) ∧ Keeps (fun j => j = b) w w' := by
  by_cases h0 : d = 0
  · subst h0
    have e0 : ((0 : Int) != 0) = false := by decide
    have HR := Lib.hid h
    clear h
    go_enter Tryz.func74, Tryz.ntmps74
    go_wp2
    go_end0
    exact ⟨rfl, HR.out, Keeps.refl _ _⟩
  · have e0 : ((d : Int) != 0) = true := by simpa using h0
    have cd := h.creg hd
    have fd := h.free (2 + d)
    have hd' : (d : Int) < 32 := by omega
    have HR := Lib.hid (h.to_reg h0 hd x)
    clear h
    go_enter Tryz.func74, Tryz.ntmps74
    go_wp2
    go_end0
    exact ⟨rfl, HR.out, Keeps.set1 _ _ _ _⟩
end
/-- An instruction's block. -/
theorem ins_new' (w : World) (o d a b n : Int) : (w.alloc (.cells #[.int .i64 o, .int .i64 d, .int .i64 a, .int .i64 b, .int .i64 n] 29)).cell? ⟨w.heap.size, 0, none⟩ = some (.int .i64 o) ∧
    (w.alloc (.cells #[.int .i64 o, .int .i64 d, .int .i64 a, .int .i64 b, .int .i64 n] 29)).cell? ⟨w.heap.size, 1, none⟩ = some (.int .i64 d) ∧ (w.alloc (.cells #[.int .i64 o, .int .i64 d, .int .i64 a, .int .i64 b, .int .i64 n] 29)).cell? ⟨w.heap.size, 2, none⟩ = some (.int .i64 a) ∧
    (w.alloc (.cells #[.int .i64 o, .int .i64 d, .int .i64 a, .int .i64 b, .int .i64 n] 29)).cell? ⟨w.heap.size, 3, none⟩ = some (.int .i64 b) ∧ (w.alloc (.cells #[.int .i64 o, .int .i64 d, .int .i64 a, .int .i64 b, .int .i64 n] 29)).cell? ⟨w.heap.size, 4, none⟩ = some (.int .i64 n) := by
  have h := BlkAt.new w 29 #[.int .i64 o, .int .i64 d, .int .i64 a, .int .i64 b, .int .i64 n]
  exact ⟨h.cell 0, h.cell 1, h.cell 2, h.cell 3, h.cell 4⟩
theorem corBranches_is {o x y : Int} {k : Bool} {w : World} (ho : 36 ≤ o ∧ o ≤ 38) (hk : ((decide (o = 36) && decide (x = y)) || (decide (o = 37) && decide (x ≠ y)) || (decide (o = 38) && decide (x < y))) = k) :
    Calls Tryz.prog 76 #[.int .i64 o, .int .i32 x, .int .i32 y] w fun e w' => e = .returned (.bool k) ∧ w = w' := by
  rcases (show o = 36 ∨ o = 37 ∨ o = 38 by omega) with rfl | rfl | rfl
  · have e0 : (x == y) = k := by rw [← hk]; simp; rfl
    clear hk ho
    go_enter Tryz.func76, Tryz.ntmps76
    go_wp2
    go_ret
    exact ⟨rfl, rfl⟩
  · have e0 : (x != y) = k := by rw [← hk]; simp; rfl
    clear hk ho
    go_enter Tryz.func76, Tryz.ntmps76
    go_wp2
    go_ret
    exact ⟨rfl, rfl⟩
  · have e0 : decide (x < y) = k := by rw [← hk]; simp
    clear hk ho
    go_enter Tryz.func76, Tryz.ntmps76
    go_wp2
    go_ret
    exact ⟨rfl, rfl⟩

open Go.RowKit Go.IntWalk

section
variable {w : World} {base b rb : Nat} {F : Nat → Prop} {ca : Option Addr} {cn cc : Nat} {rv mv : Value} {cyc : Int} {code : List Int} {s : Cst}
/-- A word of its memory. -/
theorem corLoad_v {x y : Int} {k : Bool} (h : CorW w base b rb F ca cn cc rv mv cyc code s) (hL : s.ram.length ≤ 1048576) (hx : -2147483648 ≤ x ∧ x ≤ 2147483647) (hy : ldV s.ram x = y) (hk : ldB s.ram x = k) :
    Calls Tryz.prog 80 #[.pointer (some ⟨rb, 0, none⟩), .int .i32 x] w fun e w' => e = .returned (.tuple #[.int .i32 y, .bool k]) ∧ Below w.heap.size w w' := by
  subst hy hk
  exact (ramLoad_is x h.ram hL hx).mono fun _ _ h => h
/-- Another word of its memory. -/
theorem corStore_v {x u : Int} {k : Bool} (h : CorW w base b rb F ca cn cc rv mv cyc code s) (hL : s.ram.length ≤ 1048576) (hx : -2147483648 ≤ x ∧ x ≤ 2147483647) (hk : ldB s.ram x = k) :
    Calls Tryz.prog 81 #[.pointer (some ⟨rb, 0, none⟩), .int .i32 x, .int .i32 u] w fun e w' => e = .returned (.bool k) ∧ CorW w' base b rb F ca cn cc rv mv cyc code (s.hold (stL s.ram x u)) ∧ Keeps (fun j => rv.ownBlock = some j) w w' := by
  subst hk
  refine (ramStore_is x u h.ram hL hx).mono ?_
  rintro e w' ⟨rfl, hr, hg⟩
  have k : Keeps (fun j => rv.ownBlock = some j) w w' := Keeps.of_grown hg fun j e => e
  refine ⟨rfl, ⟨h.blk.kept k fun e => (h.fv b e).2 rfl, h.code.kept k fun g off e q => (h.fc g off e).2.2.2.1 q, hr, h.marks.kept k fun j e => (h.fm j e).2.2.2, h.tabs.kept k fun j e => (h.fF j (h.fv j e).1).1, h.fb, h.fr, h.fv, h.fm, h.fc, fun j hj => ⟨(h.fF j hj).1, Nat.lt_of_lt_of_le (h.fF j hj).2 k.size⟩⟩, k⟩
/-- What lw and sw make of it, but for where it goes on. -/
def askS (s : Cst) (o : Int) (d a : Nat) (n : Int) : Cst := if ldB s.ram (adrS s a n) = true then (if o = 34 then s.put d (ldV s.ram (adrS s a n)) else s.hold (stL s.ram (adrS s a n) (s.reg d))) else s
/-- What comes of an instruction. -/
abbrev outCells (x0 x1 x2 x3 : Int) : Array Value := #[.int .i64 x0, .int .i64 x1, .int .i64 x2, .int .i64 x3]
theorem out_set {ob : Nat} {T : TypeId} {x0 x1 x2 x3 : Int} {w w' : World} (h : BlkAt ob T (outCells x0 x1 x2 x3) w) (k : Nat) (v : Int) {c : Array Value} (e : (outCells x0 x1 x2 x3).setIfInBounds k (.int .i64 v) = c) (hw : w.setCell ⟨ob, k, none⟩ (.int .i64 v) = w') : BlkAt ob T c w' ∧ Keeps (fun j => j = ob) w w' := by
  subst hw e
  exact ⟨h.set k _, Keeps.set1 _ _ _ _⟩
set_option maxRecDepth 100000 in
set_option maxHeartbeats 8000000 in
theorem corAsk_is (o : Int) (d a q : Nat) (n x0 : Int) (ob : Nat) (h : CorW w base b rb F ca cn cc rv mv cyc code s) (hob : BlkAt ob 135 (outCells x0 (-1) 2 0) w) (hF : ¬ F ob) (hbo : base ≤ ob) (ho : o = 34 ∨ o = 35) (hd : d < 32) (ha : a < 32) (hw : w32 (s.reg a)) (n0 : -32768 ≤ n) (n1 : n ≤ 65535) (hL : s.ram.length ≤ 1048576) :
    Calls Tryz.prog 75 #[.pointer (some ⟨b, 0, none⟩), .agg #[.int .i64 o, .int .i64 (d : Int), .int .i64 (a : Int), .int .i64 (q : Int), .int .i64 n], .pointer (some ⟨ob, 0, none⟩)] w fun e w' => e = .returned (.tuple #[]) ∧ CorW w' base b rb F ca cn cc rv mv cyc code (askS s o d a n) ∧
      BlkAt ob 135 (outCells x0 (adrS s a n) (bankS (adrS s a n)) (if ldB s.ram (adrS s a n) = true then 0 else 4)) w' ∧ Keeps (fun j => F j ∨ j = ob) w w' := by
  have HB := Lib.hid ((Below.refl w.heap.size w).alloc (Nat.le_refl _) (.cells #[.int .i64 o, .int .i64 (d : Int), .int .i64 (a : Int), .int .i64 (q : Int), .int .i64 n] 29))
  have HN := Lib.hid (show ¬ F w.heap.size ∧ w.heap.size ≠ ob from ⟨fun f => Nat.lt_irrefl _ (h.fF _ f).2, fun e => Nat.lt_irrefl _ (e ▸ hob.lt)⟩)
  have HR := Lib.hid (h.keep HB.out)
  have HO := Lib.hid (hob.keep HB.out)
  obtain ⟨i0, i1, i2, -, i4⟩ := ins_new' w o d a q n
  have ca' := HR.out.creg ha
  have o0 := HO.out.cell 0
  have o1 := HO.out.cell 1
  have o2 := HO.out.cell 2
  have o3 := HO.out.cell 3
  have fo := BlkAt.free HO.out
  have hd' : (d : Int) < 32 := by omega
  have ha' : (a : Int) < 32 := by omega
  obtain ⟨y, hy⟩ : ∃ y, s.reg a = y := ⟨_, rfl⟩
  obtain ⟨x, hx⟩ : ∃ x, adrS s a n = x := ⟨_, rfl⟩
  rw [hy] at ca' hw
  rw [hx]
  have hxy : wrap32 (y + n) = x := by rw [← hx, ← hy]; rfl
  obtain ⟨y0, y1⟩ := hw
  have hx0 : -2147483648 ≤ x ∧ x ≤ 2147483647 := by rw [← hxy]; unfold wrap32; omega
  obtain ⟨x1, x2⟩ := hx0
  have en : IntKind.i32.wrap n = n := by simp [IntKind.wrap, IntKind.bits, IntKind.signed]; omega
  have ex : IntKind.i32.wrap (y + n) = x := by rw [← hxy]; simp [IntKind.wrap, IntKind.bits, IntKind.signed, wrap32]; try omega
  have ex' : IntKind.i64.wrap x = x := by simp [IntKind.wrap, IntKind.bits, IntKind.signed]; omega
  have HXX := Lib.hid hx
  have HD := Lib.hid (And.intro hd ha)
  have HLL := Lib.hid hL
  have HFB := Lib.hid (And.intro hF hbo)
  have HXB := Lib.hid (And.intro x1 x2)
  obtain ⟨k, hk⟩ : ∃ k, ldB s.ram x = k := ⟨_, rfl⟩
  obtain ⟨u, hu⟩ : ∃ u, ldV s.ram x = u := ⟨_, rfl⟩
  have HKU := Lib.hid (And.intro hk hu)
  clear h hob hy hx hxy hd ha hF hbo hL
  rw [hk]
  clear hk hu
  go_enter Tryz.func75, Tryz.ntmps75
  go_wp2
  generalize hW : w.alloc _ = W at *
  go_quiet (fail)
  clear en ex
  go_upto_if 29 with (fail)
  generalize hW1 : World.drewN W _ = W1
  have HB1 := Lib.hid (show Below W.heap.size W W1 from hW1 ▸ below_drewN (Below.refl _ _) _)
  clear hW1
  have HR1 := Lib.hid (HR.out.keep HB1.out)
  have HO1 := Lib.hid (HO.out.keep HB1.out)
  generalize hW2 : World.setCell W1 _ _ = W2
  obtain ⟨hO2, hK2⟩ := out_set HO1.out 1 x (c := outCells x0 x 2 0) rfl hW2
  clear hW2
  have HO2 := Lib.hid hO2
  have HK2 := Lib.hid hK2
  have p2 := hO2.cell 2
  have f2 := BlkAt.free hO2
  clear hO2 hK2
  go_cut [6] (fun s6 wx => s6 = .int .i32 x ∧ BlkAt ob 135 (outCells x0 x (bankS x) 0) wx ∧ Keeps (fun j => j = ob) W2 wx)
  case first =>
    by_cases hb : 1024 ≤ x
    · go_wp2_with fail
      go_meet
      refine ⟨rfl, ?_⟩
      rw [show bankS x = 3 by unfold bankS; rw [if_pos hb]]
      exact out_set HO2.out 2 3 rfl rfl
    · have hb' : x < 1024 := by omega
      clear hb
      go_wp2_with fail
      go_meet
      refine ⟨rfl, ?_⟩
      rw [show bankS x = 2 by unfold bankS; rw [if_neg (by omega)]]
      exact ⟨HO2.out, Keeps.refl _ _⟩
  case rest =>
    obtain ⟨rfl, hO3, hK3⟩ := hcut
    have HO3 := Lib.hid hO3
    have HK3 := Lib.hid (show Keeps (fun j => j = ob) W wc from ((Keeps.of_below _ HB1.out).trans HK2.out).trans hK3)
    have HR3 := Lib.hid (HR.out.kept HK3.out (fun j e => e ▸ HFB.out.2) fun j f e => HFB.out.1 (e ▸ f))
    have c0 := HR3.out.cpc.1
    have j0 := HK3.out.cell HN.out.2 i0
    have j1 := HK3.out.cell HN.out.2 i1
    clear i0 i1 i2 i4 ca' o0 o1 o2 o3 fo p2 f2 hO3 hK3
    cases k with
    | false =>
      go_wp2_with (go_at_call 80; ((with_reducible refine (corLoad_v HR3.out HLL.out HXB.out HKU.out.2 HKU.out.1).mono ?_); rintro e w4 ⟨rfl, hk⟩); have HR4 := Lib.hid (HR3.out.keep hk); have HO4 := Lib.hid (HO3.out.keep hk); have HK4 := Lib.hid hk; have p3 := (HO3.out.keep hk).cell 3; have f3 := BlkAt.free (HO3.out.keep hk) 3; clear hk)
      go_end0
      obtain ⟨hO5, hK5⟩ := out_set HO4.out 3 4 (c := outCells x0 x (bankS x) 4) rfl rfl
      refine ⟨rfl, ?_, hO5, ?_⟩
      · unfold askS
        rw [HXX.out, HKU.out.1, if_neg (by decide)]
        exact HR4.out.kept hK5 (fun j e => e ▸ HFB.out.2) fun j f e => HFB.out.1 (e ▸ f)
      · exact ((Keeps.of_below _ HB.out).next ((HK3.out.trans (Keeps.of_below _ HK4.out)).trans hK5) fun j _ e => .inr e)
    | true =>
      rcases ho with rfl | rfl
      · go_wp2_with (first
          | (go_at_call 80; ((with_reducible refine (corLoad_v HR3.out HLL.out HXB.out HKU.out.2 HKU.out.1).mono ?_); rintro e w4 ⟨rfl, hk⟩); have HR4 := Lib.hid (HR3.out.keep hk); have HO4 := Lib.hid (HO3.out.keep hk); have HK4 := Lib.hid hk; have m0 := (hk.cell (p := ⟨w.heap.size, 0, none⟩) (cell_lt j0)).trans j0; have m1 := (hk.cell (p := ⟨w.heap.size, 1, none⟩) (cell_lt j1)).trans j1; clear hk)
          | (go_at_call 74; ((with_reducible refine (corPut_is d u HR4.out HD.out.1).mono ?_); rintro e w5 ⟨rfl, hr, hk⟩); have HR5 := Lib.hid hr; have HK5 := Lib.hid hk; clear hr hk))
        go_end0
        have k5 : Keeps F w4 w5 := HK5.out.mono fun j _ e => e ▸ HR.out.fb
        refine ⟨rfl, ?_, HO4.out.kept k5 HFB.out.1, ?_⟩
        · unfold askS
          rw [HXX.out, HKU.out.1, if_pos rfl, if_pos rfl, HKU.out.2]
          exact HR5.out
        · exact (Keeps.of_below _ HB.out).next (((HK3.out.trans (Keeps.of_below _ HK4.out)).mono (G := fun j => F j ∨ j = ob) fun j _ e => .inr e).next k5 fun j _ f => .inl f) fun j _ e => e
      · obtain ⟨z, hz⟩ : ∃ z, s.reg d = z := ⟨_, rfl⟩
        have HZ := Lib.hid hz
        clear hz
        go_wp2_with (go_at_call 80; ((with_reducible refine (corLoad_v HR3.out HLL.out HXB.out HKU.out.2 HKU.out.1).mono ?_); rintro e w4 ⟨rfl, hk⟩); have HR4 := Lib.hid (HR3.out.keep hk); have HO4 := Lib.hid (HO3.out.keep hk); have HK4 := Lib.hid hk; have m0 := (hk.cell (p := ⟨w.heap.size, 0, none⟩) (cell_lt j0)).trans j0; have m1 := (hk.cell (p := ⟨w.heap.size, 1, none⟩) (cell_lt j1)).trans j1; have n0 := (HR3.out.keep hk).cpc.1; have nd := HZ.out ▸ (HR3.out.keep hk).creg HD.out.1; clear hk)
        go_still_tail 12, (by kernel_rfl)
        change wpList _ _ _ _ _ w4.drew
        have HB5 := Lib.hid (show Below w4.heap.size w4 w4.drew from (Below.refl _ _).drew)
        have HR5 := Lib.hid (HR4.out.keep HB5.out)
        have HO5 := Lib.hid (HO4.out.keep HB5.out)
        generalize w4.drew = W5 at *
        go_wp2_with (go_at_call 81; ((with_reducible refine (corStore_v (u := z) HR5.out HLL.out HXB.out HKU.out.1).mono ?_); rintro e w6 ⟨rfl, hr, hk⟩); have HR6 := Lib.hid hr; have HK6 := Lib.hid hk; clear hr hk)
        go_end0
        have k6 : Keeps F W5 w6 := HK6.out.mono fun j _ e => (HR5.out.fv j e).1
        refine ⟨rfl, ?_, HO5.out.kept k6 HFB.out.1, ?_⟩
        · unfold askS
          rw [HXX.out, HKU.out.1, if_pos rfl, if_neg (by decide), HZ.out]
          exact HR6.out
        · exact (Keeps.of_below _ HB.out).next ((((HK3.out.trans (Keeps.of_below _ HK4.out)).trans (Keeps.of_below _ HB5.out)).mono (G := fun j => F j ∨ j = ob) fun j _ e => .inr e).next k6 fun j _ f => .inl f) fun j _ e => e
/-- What reckons. -/
def rckS (s : Cst) (o : Int) (d a q : Nat) : Cst := if wDoes o (s.reg q) = true then s.put d (wDo o (s.reg a) (s.reg q)) else s
set_option maxRecDepth 100000 in
set_option maxHeartbeats 8000000 in
theorem corReckon_is (o : Int) (d a q : Nat) (n x0 x2 : Int) (ob : Nat) (h : CorW w base b rb F ca cn cc rv mv cyc code s) (hob : BlkAt ob 135 (outCells x0 (-1) x2 0) w) (hF : ¬ F ob) (hbo : base ≤ ob) (hd : d < 32) (ha : a < 32) (hq : q < 32) (hw : w32 (s.reg a)) (hw2 : w32 (s.reg q)) :
    Calls Tryz.prog 77 #[.pointer (some ⟨b, 0, none⟩), .agg #[.int .i64 o, .int .i64 (d : Int), .int .i64 (a : Int), .int .i64 (q : Int), .int .i64 n], .pointer (some ⟨ob, 0, none⟩)] w fun e w' => e = .returned (.tuple #[]) ∧ CorW w' base b rb F ca cn cc rv mv cyc code (rckS s o d a q) ∧
      BlkAt ob 135 (outCells x0 (-1) x2 (if wDoes o (s.reg q) = true then 0 else 5)) w' ∧ Keeps (fun j => F j ∨ j = ob) w w' := by
  have HB := Lib.hid ((Below.refl w.heap.size w).alloc (Nat.le_refl _) (.cells #[.int .i64 o, .int .i64 (d : Int), .int .i64 (a : Int), .int .i64 (q : Int), .int .i64 n] 29))
  have HR := Lib.hid (h.keep HB.out)
  have HO := Lib.hid (hob.keep HB.out)
  obtain ⟨i0, i1, i2, i3, -⟩ := ins_new' w o d a q n
  have ca' := HR.out.creg ha
  have cq' := HR.out.creg hq
  have hd' : (d : Int) < 32 := by omega
  have ha' : (a : Int) < 32 := by omega
  have hq' : (q : Int) < 32 := by omega
  obtain ⟨y, hy⟩ : ∃ y, s.reg a = y := ⟨_, rfl⟩
  obtain ⟨z, hz⟩ : ∃ z, s.reg q = z := ⟨_, rfl⟩
  rw [hy] at ca' hw
  rw [hz] at cq' hw2
  obtain ⟨r, hr⟩ : ∃ r, wDo o y z = r := ⟨_, rfl⟩
  obtain ⟨k, hk⟩ : ∃ k, wDoes o z = k := ⟨_, rfl⟩
  have HDo := Lib.hid (fun w => do_v o y z r k w hw.1 hw.2 hw2.1 hw2.2 hr hk)
  have HS := Lib.hid (show rckS s o d a q = if k = true then s.put d r else s by unfold rckS; rw [hy, hz, hk, hr])
  have HFB := Lib.hid (And.intro hF hbo)
  have HD := Lib.hid hd
  rw [hz, hk]
  clear h hob hy hz hr hk hw hw2 hF hbo hd ha hq
  go_enter Tryz.func77, Tryz.ntmps77
  go_wp2
  generalize hW : w.alloc _ = W at *
  go_upto_region 1 with (fail)
  go_cut [6, 7] (fun s6 s7 wx => s6 = .int .i32 r ∧ s7 = .bool k ∧ Below W.heap.size W wx)
  case first =>
    go_region_law (go_simp; go_at_call 82; ((with_reducible refine (HDo.out _).mono ?_); rintro e w6 ⟨rfl, hk⟩); have HK6 := Lib.hid (show Below W.heap.size W w6 from (Below.refl W.heap.size W).drew.trans hk); clear hk)
    all_goals (go_wp2_with fail; go_meet)
    all_goals exact ⟨rfl, rfl, HK6.out⟩
  case rest =>
    obtain ⟨rfl, rfl, hk⟩ := hcut
    have HK := Lib.hid hk
    have HR3 := Lib.hid (HR.out.keep hk)
    have HO3 := Lib.hid (HO.out.keep hk)
    have j1 := (hk.cell (p := ⟨w.heap.size, 1, none⟩) (cell_lt i1)).trans i1
    have o3 := HO3.out.cell 3
    have f3 := BlkAt.free HO3.out 3
    clear i0 i1 i2 i3 ca' cq' hk
    cases k with
    | false =>
      have HS2 := Lib.hid (HS.out.trans (if_neg (by decide)))
      clear HS
      go_wp2
      refine bodyPost_ret (results_none rfl _ _ _) rfl ?_
      obtain ⟨hO5, hK5⟩ := out_set HO3.out 3 5 (c := outCells x0 (-1) x2 5) rfl rfl
      refine ⟨rfl, ?_, hO5, ?_⟩
      · rw [HS2.out]
        exact HR3.out.kept hK5 (fun j e => e ▸ HFB.out.2) fun j f e => HFB.out.1 (e ▸ f)
      · exact (Keeps.of_below _ HB.out).next ((Keeps.of_below _ HK.out).trans hK5) fun j _ e => .inr e
    | true =>
      have HS2 := Lib.hid (HS.out.trans (if_pos rfl))
      clear HS
      go_wp2_with (go_at_call 74; ((with_reducible refine (corPut_is d r HR3.out HD.out).mono ?_); rintro e w5 ⟨rfl, hr, hk⟩); have HR5 := Lib.hid hr; have HK5 := Lib.hid hk; clear hr hk)
      go_end0
      have k5 : Keeps F wc w5 := HK5.out.mono fun j _ e => e ▸ HR3.out.fb
      refine ⟨rfl, ?_, HO3.out.kept k5 HFB.out.1, ?_⟩
      · rw [HS2.out]
        exact HR5.out
      · exact ((Keeps.of_below _ HB.out).trans (Keeps.of_below _ HK.out)).next k5 fun j _ f => .inl f
end

end Go.Proofs.YtgmphfagflhglaaGreatDoor
