/- The program's core in memory: what it holds, what keeps it; put, branches. Conditions: registers' numbers are registers. -/
import Derived.Test.YtcoicgkpikoibaaGreatDoorCorD
import Derived.Test.YtcoicgkpikoibaaGreatDoorRamA
import Derived.Test.YtcoicgkpikoibaaGreatDoorCodK
import Derived.Test.YtcoicgkpikoibaaGreatDoorAluK
import Derived.Test.YtcoicgkpikoibaaGreatDoorAluV
import Derived.Deep.RegionLaw
import Derived.Deep.DeepCutAuto
import Derived.StillTailTactics
namespace Go.Proofs.YtcoicgkpikoibaaGreatDoor
open Go.RowKit Go.IntWalk

/-- An instruction's number k. -/
def insF (v : Int) (k : Nat) : Int := if k = 0 then cO v else cG v (k - 1)
/-- The instructions of words, at a slice. -/
structure InsAt (w : World) (a : Option Addr) (n c : Nat) (l : List Int) : Prop where
  len : l.length = n
  cap : n ≤ c
  big : c ≤ maxLen
  lie : 0 < n → ∃ g, a = some ⟨g, 0, none⟩ ∧ ∀ i, i < n → ∀ k, k < 5 → w.cell? ⟨g, i * 5 + k, none⟩ = some (.int .i64 (insF (byAt l i) k))
theorem InsAt.kept {F : Nat → Prop} {w w' : World} {a : Option Addr} {n c : Nat} {l : List Int} (h : InsAt w a n c l) (k : Keeps F w w') (hn : ∀ g off, a = some ⟨g, off, none⟩ → ¬ F g) : InsAt w' a n c l := by
  refine ⟨h.len, h.cap, h.big, fun h0 => ?_⟩
  obtain ⟨g, e, hc⟩ := h.lie h0
  exact ⟨g, e, fun i hi j hj => k.cell (hn g 0 e) (hc i hi j hj)⟩
theorem InsAt.keep {w w' : World} {a : Option Addr} {n c : Nat} {l : List Int} (h : InsAt w a n c l) (k : Below w.heap.size w w') : InsAt w' a n c l := h.kept (Keeps.of_below (fun _ => False) k) fun _ _ _ f => f
/-- The tables that it asks lie below base. -/
structure TabsAt (base : Nat) (w : World) : Prop where
  shapes : ShapesLaid w
  costs : CostsLaid w
  gs : 0 < base
  gc : 1 < base
theorem TabsAt.kept {base : Nat} {F : Nat → Prop} {w w' : World} (h : TabsAt base w) (k : Keeps F w w') (hF : ∀ j, F j → base ≤ j) : TabsAt base w' := by
  obtain ⟨t1, h1⟩ := h.shapes
  obtain ⟨t2, h2⟩ := h.costs
  refine ⟨⟨t1, ?_⟩, ⟨t2, ?_⟩, h.gs, h.gc⟩
  · rw [k.block _ (Array.getElem?_eq_some_iff.1 h1).1 (fun f => by have := hF _ f; have := h.gs; omega)]; exact h1
  · rw [k.block _ (Array.getElem?_eq_some_iff.1 h2).1 (fun f => by have := hF _ f; have := h.gc; omega)]; exact h2
theorem TabsAt.keep {base : Nat} {w w' : World} (h : TabsAt base w) (k : Below w.heap.size w w') : TabsAt base w' := h.kept (Keeps.of_below (fun _ => False) k) fun _ f => f.elim
/-- What marks cost. -/
def costS : List Mk → Int
  | [] => 0
  | m :: l => m.2.2 + costS l
theorem costS_app (l k : List Mk) : costS (l ++ k) = costS l + costS k := by
  induction l with
  | nil => simp [costS]
  | cons m l ih => simp only [List.cons_append, costS, ih]; omega
theorem costS_one (m : Mk) : costS [m] = m.2.2 := by simp [costS]
theorem costS_bd {l : List Mk} (h : ∀ k, k < l.length → 1 ≤ (mkAt l k).2.2 ∧ (mkAt l k).2.2 ≤ 34) : 0 ≤ costS l ∧ costS l ≤ 34 * l.length := by
  induction l with
  | nil => decide
  | cons m l ih =>
    have h0 := h 0 (by simp)
    have e0 : mkAt (m :: l) 0 = m := rfl
    rw [e0] at h0
    have := ih fun k hk => by
      have h1 := h (k + 1) (by simpa using hk)
      have e1 : mkAt (m :: l) (k + 1) = mkAt l k := by simp [mkAt, List.getD]
      rw [e1] at h1
      exact h1
    simp only [costS, List.length_cons]
    omega

/-- What the program's core holds, place by place. -/
def corC (b rb : Nat) (ca : Option Addr) (cn cc : Nat) (mv : Value) (cyc : Int) (s : Cst) (i : Nat) : Value :=
  if i = 0 then .pointer (some ⟨rb, 0, none⟩) else if i = 1 then .slice ca cn cc else if i = 34 then .int .i64 s.pc else if i = 35 then .int .i64 s.st else if i = 36 then .int .i64 cyc
  else if i = 37 then mv else if i = 38 then .pointer (some ⟨b, 0, none⟩) else .int .i32 (s.reg (i - 2))
/-- The program's core at block b; F: the blocks that it owns, from base on. -/
structure CorW (w : World) (base b rb : Nat) (F : Nat → Prop) (ca : Option Addr) (cn cc : Nat) (rv mv : Value) (cyc : Int) (code : List Int) (s : Cst) : Prop where
  blk : BlkAt b 58 (fnArr 39 (corC b rb ca cn cc mv cyc s)) w
  code : InsAt w ca cn cc code
  ram : RamAt 81 21 w base rb rv s.ram
  marks : OwnMk w base 47 mv s.mks
  tabs : TabsAt base w
  fb : F b
  fr : F rb ∧ rb ≠ b
  fv : ∀ j, rv.ownBlock = some j → F j ∧ j ≠ b
  fm : ∀ j, mv.ownBlock = some j → F j ∧ j ≠ b ∧ j ≠ rb ∧ rv.ownBlock ≠ some j
  fc : ∀ g off, ca = some ⟨g, off, none⟩ → F g ∧ g ≠ b ∧ g ≠ rb ∧ rv.ownBlock ≠ some g ∧ mv.ownBlock ≠ some g
  fF : ∀ j, F j → base ≤ j ∧ j < w.heap.size
section
variable {w w' : World} {base b rb : Nat} {F : Nat → Prop} {ca : Option Addr} {cn cc : Nat} {rv mv : Value} {cyc : Int} {code : List Int} {s : Cst}
theorem CorW.keep (h : CorW w base b rb F ca cn cc rv mv cyc code s) (k : Below w.heap.size w w') : CorW w' base b rb F ca cn cc rv mv cyc code s :=
  ⟨h.blk.keep k, h.code.keep k, h.ram.keep k, h.marks.keep k, h.tabs.keep k, h.fb, h.fr, h.fv, h.fm, h.fc, fun j hj => ⟨(h.fF j hj).1, Nat.lt_of_lt_of_le (h.fF j hj).2 k.size⟩⟩
theorem ram_kept {G : Nat → Prop} {T e : TypeId} {v : Value} {L : List Int} (h : RamAt T e w base rb v L) (k : Keeps G w w') (h0 : ¬ G rb) (h1 : ∀ j, v.ownBlock = some j → ¬ G j) : RamAt T e w' base rb v L :=
  ⟨h.blk.kept k h0, own_kept h.own k h1, h.ge, h.ne⟩
theorem CorW.kept {G : Nat → Prop} (h : CorW w base b rb F ca cn cc rv mv cyc code s) (k : Keeps G w w') (hG : ∀ j, G j → base ≤ j) (ha : ∀ j, F j → ¬ G j) : CorW w' base b rb F ca cn cc rv mv cyc code s :=
  ⟨h.blk.kept k (ha _ h.fb), h.code.kept k fun j off e => ha j (h.fc j off e).1, ram_kept h.ram k (ha _ h.fr.1) fun j e => ha j (h.fv j e).1, h.marks.kept k fun j e => ha j (h.fm j e).1, h.tabs.kept k hG,
    h.fb, h.fr, h.fv, h.fm, h.fc, fun j hj => ⟨(h.fF j hj).1, Nat.lt_of_lt_of_le (h.fF j hj).2 k.size⟩⟩
/-- A place of its block turned. -/
theorem CorW.turn {cyc' : Int} {s' : Cst} (h : CorW w base b rb F ca cn cc rv mv cyc code s) (k : Nat) (v : Value) (e : ∀ i, i < 39 → corC b rb ca cn cc mv cyc' s' i = if i = k then v else corC b rb ca cn cc mv cyc s i) (hr : s'.ram = s.ram) (hm : s'.mks = s.mks) :
    CorW (w.setCell ⟨b, k, none⟩ v) base b rb F ca cn cc rv mv cyc' code s' := by
  have kk : Keeps (fun j => j = b) w (w.setCell ⟨b, k, none⟩ v) := Keeps.set (F := fun j => j = b) rfl w k v
  refine ⟨h.blk.fset k v e, h.code.kept kk fun j off e => (h.fc j off e).2.1, ?_, ?_, h.tabs.kept kk fun j e => e ▸ (h.fF b h.fb).1, h.fb, h.fr, h.fv, h.fm, h.fc, fun j hj => ⟨(h.fF j hj).1, Nat.lt_of_lt_of_le (h.fF j hj).2 kk.size⟩⟩
  · rw [hr]; exact ram_kept h.ram kk h.fr.2 fun j e => (h.fv j e).2
  · rw [hm]; exact h.marks.kept kk fun j e => (h.fm j e).2.1
theorem CorW.to_pc (h : CorW w base b rb F ca cn cc rv mv cyc code s) (x : Int) : CorW (w.setCell ⟨b, 34, none⟩ (.int .i64 x)) base b rb F ca cn cc rv mv cyc code { s with pc := x } := by
  refine h.turn 34 _ (fun i hi => ?_) rfl rfl
  unfold corC
  by_cases e : i = 34
  · subst e; rfl
  · simp only [if_neg e]
theorem CorW.to_st (h : CorW w base b rb F ca cn cc rv mv cyc code s) (x : Int) : CorW (w.setCell ⟨b, 35, none⟩ (.int .i64 x)) base b rb F ca cn cc rv mv cyc code (s.stop x) := by
  refine h.turn 35 _ (fun i hi => ?_) rfl rfl
  unfold corC
  by_cases e : i = 35
  · subst e; rfl
  · simp only [if_neg e]; rfl
theorem CorW.to_cyc (h : CorW w base b rb F ca cn cc rv mv cyc code s) (x : Int) : CorW (w.setCell ⟨b, 36, none⟩ (.int .i64 x)) base b rb F ca cn cc rv mv x code s := by
  refine h.turn 36 _ (fun i hi => ?_) rfl rfl
  unfold corC
  by_cases e : i = 36
  · subst e; rfl
  · simp only [if_neg e]
theorem CorW.to_reg (h : CorW w base b rb F ca cn cc rv mv cyc code s) {d : Nat} (hd : d ≠ 0) (hd2 : d < 32) (x : Int) : CorW (w.setCell ⟨b, 2 + d, none⟩ (.int .i32 x)) base b rb F ca cn cc rv mv cyc code (s.put d x) := by
  refine h.turn (2 + d) _ (fun i hi => ?_) rfl rfl
  unfold corC Cst.put
  simp only [if_neg hd]
  unfold upd
  by_cases e : i = 2 + d
  · subst e
    rw [if_neg (by omega), if_neg (by omega), if_neg (by omega), if_neg (by omega), if_neg (by omega), if_neg (by omega), if_neg (by omega), if_pos (by omega), if_pos rfl]
  · rw [if_neg e]
    by_cases h0 : i = 0
    · simp only [if_pos h0]
    by_cases h1 : i = 1
    · simp only [if_neg h0, if_pos h1]
    rw [if_neg (show ¬ i - 2 = d by omega)]
theorem CorW.cpc (h : CorW w base b rb F ca cn cc rv mv cyc code s) :
    w.cell? ⟨b, 0, none⟩ = some (.pointer (some ⟨rb, 0, none⟩)) ∧ w.cell? ⟨b, 1, none⟩ = some (.slice ca cn cc) ∧ w.cell? ⟨b, 34, none⟩ = some (.int .i64 s.pc) ∧ w.cell? ⟨b, 35, none⟩ = some (.int .i64 s.st) ∧ w.cell? ⟨b, 36, none⟩ = some (.int .i64 cyc) ∧ w.cell? ⟨b, 37, none⟩ = some mv ∧ w.cell? ⟨b, 38, none⟩ = some (.pointer (some ⟨b, 0, none⟩)) :=
  ⟨h.blk.fcell (by omega), h.blk.fcell (by omega), h.blk.fcell (by omega), h.blk.fcell (by omega), h.blk.fcell (by omega), h.blk.fcell (by omega), h.blk.fcell (by omega)⟩
theorem CorW.creg (h : CorW w base b rb F ca cn cc rv mv cyc code s) {d : Nat} (hd : d < 32) : w.cell? ⟨b, 2 + d, none⟩ = some (.int .i32 (s.reg d)) := by
  refine (h.blk.fcell (k := 2 + d) (by omega)).trans ?_
  unfold corC
  rw [if_neg (by omega), if_neg (by omega), if_neg (by omega), if_neg (by omega), if_neg (by omega), if_neg (by omega), if_neg (by omega), show 2 + d - 2 = d by omega]
theorem CorW.free (h : CorW w base b rb F ca cn cc rv mv cyc code s) (k : Nat) : w.frozen? ⟨b, k, none⟩ = false := BlkAt.free h.blk k
theorem corPut_is (d : Nat) (x : Int) (h : CorW w base b rb F ca cn cc rv mv cyc code s) (hd : d < 32) :
    Calls Tryz.prog 66 #[.pointer (some ⟨b, 0, none⟩), .int .i64 (d : Int), .int .i32 x] w fun e w' => e = .returned (.tuple #[]) ∧ CorW w' base b rb F ca cn cc rv mv cyc code (s.put d x) ∧ Keeps (fun j => j = b) w w' := by
  by_cases h0 : d = 0
  · subst h0
    have e0 : ((0 : Int) != 0) = false := by decide
    have HR := Lib.hid h
    clear h
    go_enter Tryz.func66, Tryz.ntmps66
    go_wp2
    go_end0
    exact ⟨rfl, HR.out, Keeps.refl _ _⟩
  · have e0 : ((d : Int) != 0) = true := by simpa using h0
    have cd := h.creg hd
    have fd := h.free (2 + d)
    have hd' : (d : Int) < 32 := by omega
    have HR := Lib.hid (h.to_reg h0 hd x)
    clear h
    go_enter Tryz.func66, Tryz.ntmps66
    go_wp2
    go_end0
    exact ⟨rfl, HR.out, Keeps.set1 _ _ _ _⟩
end
/-- An instruction's block. -/
theorem ins_new' (w : World) (o d a b n : Int) : (w.alloc (.cells #[.int .i64 o, .int .i64 d, .int .i64 a, .int .i64 b, .int .i64 n] 66)).cell? ⟨w.heap.size, 0, none⟩ = some (.int .i64 o) ∧
    (w.alloc (.cells #[.int .i64 o, .int .i64 d, .int .i64 a, .int .i64 b, .int .i64 n] 66)).cell? ⟨w.heap.size, 1, none⟩ = some (.int .i64 d) ∧ (w.alloc (.cells #[.int .i64 o, .int .i64 d, .int .i64 a, .int .i64 b, .int .i64 n] 66)).cell? ⟨w.heap.size, 2, none⟩ = some (.int .i64 a) ∧
    (w.alloc (.cells #[.int .i64 o, .int .i64 d, .int .i64 a, .int .i64 b, .int .i64 n] 66)).cell? ⟨w.heap.size, 3, none⟩ = some (.int .i64 b) ∧ (w.alloc (.cells #[.int .i64 o, .int .i64 d, .int .i64 a, .int .i64 b, .int .i64 n] 66)).cell? ⟨w.heap.size, 4, none⟩ = some (.int .i64 n) := by
  have h := BlkAt.new w 66 #[.int .i64 o, .int .i64 d, .int .i64 a, .int .i64 b, .int .i64 n]
  exact ⟨h.cell 0, h.cell 1, h.cell 2, h.cell 3, h.cell 4⟩
theorem corBranches_is {o x y : Int} {k : Bool} {w : World} (ho : 36 ≤ o ∧ o ≤ 38) (hk : ((decide (o = 36) && decide (x = y)) || (decide (o = 37) && decide (x ≠ y)) || (decide (o = 38) && decide (x < y))) = k) :
    Calls Tryz.prog 68 #[.int .i64 o, .int .i32 x, .int .i32 y] w fun e w' => e = .returned (.bool k) ∧ w = w' := by
  rcases (show o = 36 ∨ o = 37 ∨ o = 38 by omega) with rfl | rfl | rfl
  · have e0 : (x == y) = k := by rw [← hk]; simp; rfl
    clear hk ho
    go_enter Tryz.func68, Tryz.ntmps68
    go_wp2
    go_ret
    exact ⟨rfl, rfl⟩
  · have e0 : (x != y) = k := by rw [← hk]; simp; rfl
    clear hk ho
    go_enter Tryz.func68, Tryz.ntmps68
    go_wp2
    go_ret
    exact ⟨rfl, rfl⟩
  · have e0 : decide (x < y) = k := by rw [← hk]; simp
    clear hk ho
    go_enter Tryz.func68, Tryz.ntmps68
    go_wp2
    go_ret
    exact ⟨rfl, rfl⟩
end Go.Proofs.YtcoicgkpikoibaaGreatDoor
