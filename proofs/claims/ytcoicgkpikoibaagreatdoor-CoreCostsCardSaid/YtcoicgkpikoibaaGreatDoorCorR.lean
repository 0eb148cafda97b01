/- What the document says of layer 16, as its plainest functions answer it (package astrolaberef16): set, mark. Conditions: fewer marks than a million. -/
import Derived.Test.YtcoicgkpikoibaaGreatDoorCorD
import Derived.Test.YtcoicgkpikoibaaGreatDoorRamR
import Derived.Deep.RegionLaw
import Derived.Deep.AppendLies
namespace Go.Proofs.YtcoicgkpikoibaaGreatDoor
open Go.RowKit Go.IntWalk

/-- What the document's core holds, place by place. -/
def refC (ca : Option Addr) (cn cc : Nat) (ra : Option Addr) (rn rc : Nat) (mv : Value) (s : Cst) (i : Nat) : Value :=
  if i = 0 then .slice ca cn cc else if i = 1 then .slice ra rn rc else if i = 34 then .int .i64 s.pc else if i = 35 then .int .i64 s.st else if i = 36 then mv else .int .i32 (s.reg (i - 2))
/-- What words stand at a slice that has some is kept. -/
theorem Ws.keptP {K : IntKind} {F : Nat → Prop} {w w' : World} {a : Option Addr} {n c : Nat} {l : List Int} (h : Ws K w a n c l) (k : Keeps F w w') (hn : ∀ b off, 0 < n → a = some ⟨b, off, none⟩ → ¬ F b) : Ws K w' a n c l :=
  h.on fun h0 b off e hl => k.block b hl (hn b off h0 e)
/-- The document's core at block b; F: the blocks that it owns, from base on. -/
structure RefW (w : World) (base b : Nat) (F : Nat → Prop) (ca : Option Addr) (cn cc : Nat) (ra : Option Addr) (rn rc : Nat) (mv : Value) (code : List Int) (s : Cst) : Prop where
  blk : BlkAt b 34 (fnArr 37 (refC ca cn cc ra rn rc mv s)) w
  code : Ws .u32 w ca cn cc code
  ram : Ws .i32 w ra rn rc s.ram
  marks : OwnMk w base 47 mv s.mks
  fb : F b
  fm : ∀ j, mv.ownBlock = some j → F j ∧ j ≠ b
  fr : ∀ j off, 0 < rn → ra = some ⟨j, off, none⟩ → j < base ∨ F j ∧ j ≠ b ∧ mv.ownBlock ≠ some j
  fc : ∀ j off, 0 < cn → ca = some ⟨j, off, none⟩ → j < base
  fF : ∀ j, F j → base ≤ j ∧ j < w.heap.size
theorem RefW.keep {w w' : World} {base b : Nat} {F : Nat → Prop} {ca : Option Addr} {cn cc : Nat} {ra : Option Addr} {rn rc : Nat} {mv : Value} {code : List Int} {s : Cst} (h : RefW w base b F ca cn cc ra rn rc mv code s) (k : Below w.heap.size w w') : RefW w' base b F ca cn cc ra rn rc mv code s :=
  ⟨h.blk.keep k, h.code.keep k, h.ram.keep k, h.marks.keep k, h.fb, h.fm, h.fr, h.fc, fun j hj => ⟨(h.fF j hj).1, Nat.lt_of_lt_of_le (h.fF j hj).2 k.size⟩⟩
theorem RefW.kept {w w' : World} {base b : Nat} {F G : Nat → Prop} {ca : Option Addr} {cn cc : Nat} {ra : Option Addr} {rn rc : Nat} {mv : Value} {code : List Int} {s : Cst} (h : RefW w base b F ca cn cc ra rn rc mv code s) (k : Keeps G w w') (hG : ∀ j, G j → base ≤ j) (ha : ∀ j, F j → ¬ G j) : RefW w' base b F ca cn cc ra rn rc mv code s :=
  ⟨h.blk.kept k (ha _ h.fb), h.code.keptP k fun j off p e g => absurd (h.fc j off p e) (by have := hG j g; omega), h.ram.keptP k fun j off p e g => (h.fr j off p e).elim (fun q => absurd q (by have := hG j g; omega)) fun q => ha j q.1 g,
    h.marks.kept k fun j e => ha j (h.fm j e).1, h.fb, h.fm, h.fr, h.fc, fun j hj => ⟨(h.fF j hj).1, Nat.lt_of_lt_of_le (h.fF j hj).2 k.size⟩⟩
/-- A place of its block turned. -/
theorem RefW.turn {w : World} {base b : Nat} {F : Nat → Prop} {ca : Option Addr} {cn cc : Nat} {ra : Option Addr} {rn rc : Nat} {mv : Value} {code : List Int} {s s' : Cst} (h : RefW w base b F ca cn cc ra rn rc mv code s) (k : Nat) (v : Value)
    (e : ∀ i, i < 37 → refC ca cn cc ra rn rc mv s' i = if i = k then v else refC ca cn cc ra rn rc mv s i) (hr : s'.ram = s.ram) (hm : s'.mks = s.mks) : RefW (w.setCell ⟨b, k, none⟩ v) base b F ca cn cc ra rn rc mv code s' := by
  have kk : Keeps (fun j => j = b) w (w.setCell ⟨b, k, none⟩ v) := Keeps.set (F := fun j => j = b) rfl w k v
  have hbase := (h.fF b h.fb).1
  refine ⟨h.blk.fset k v e, h.code.keptP kk fun j off p e q => ?_, ?_, ?_, h.fb, h.fm, h.fr, h.fc, fun j hj => ⟨(h.fF j hj).1, Nat.lt_of_lt_of_le (h.fF j hj).2 kk.size⟩⟩
  · have := h.fc j off p e; omega
  · rw [hr]
    exact h.ram.keptP kk fun j off p e q => (h.fr j off p e).elim (fun z => by omega) fun z => z.2.1 q
  · rw [hm]
    exact h.marks.kept kk fun j e => (h.fm j e).2
theorem RefW.to_pc {w : World} {base b : Nat} {F : Nat → Prop} {ca : Option Addr} {cn cc : Nat} {ra : Option Addr} {rn rc : Nat} {mv : Value} {code : List Int} {s : Cst} (h : RefW w base b F ca cn cc ra rn rc mv code s) (x : Int) :
    RefW (w.setCell ⟨b, 34, none⟩ (.int .i64 x)) base b F ca cn cc ra rn rc mv code { s with pc := x } := by
  refine h.turn 34 _ (fun i hi => ?_) rfl rfl
  unfold refC
  by_cases e : i = 34
  · subst e; rfl
  · simp only [if_neg e]
theorem RefW.to_st {w : World} {base b : Nat} {F : Nat → Prop} {ca : Option Addr} {cn cc : Nat} {ra : Option Addr} {rn rc : Nat} {mv : Value} {code : List Int} {s : Cst} (h : RefW w base b F ca cn cc ra rn rc mv code s) (x : Int) :
    RefW (w.setCell ⟨b, 35, none⟩ (.int .i64 x)) base b F ca cn cc ra rn rc mv code (s.stop x) := by
  refine h.turn 35 _ (fun i hi => ?_) rfl rfl
  unfold refC
  by_cases e : i = 35
  · subst e; rfl
  · simp only [if_neg e]; rfl
theorem RefW.to_reg {w : World} {base b : Nat} {F : Nat → Prop} {ca : Option Addr} {cn cc : Nat} {ra : Option Addr} {rn rc : Nat} {mv : Value} {code : List Int} {s : Cst} (h : RefW w base b F ca cn cc ra rn rc mv code s) {d : Nat} (hd : d ≠ 0) (hd2 : d < 32) (x : Int) :
    RefW (w.setCell ⟨b, 2 + d, none⟩ (.int .i32 x)) base b F ca cn cc ra rn rc mv code (s.put d x) := by
  refine h.turn (2 + d) _ (fun i hi => ?_) rfl rfl
  unfold refC Cst.put
  simp only [if_neg hd]
  unfold upd
  by_cases e : i = 2 + d
  · subst e
    rw [if_neg (by omega), if_neg (by omega), if_neg (by omega), if_neg (by omega), if_neg (by omega), if_pos (by omega), if_pos rfl]
  · rw [if_neg e]
    by_cases h0 : i = 0
    · simp only [if_pos h0]
    by_cases h1 : i = 1
    · simp only [if_neg h0, if_pos h1]
    rw [if_neg (show ¬ i - 2 = d by omega)]
theorem RefW.cpc {w : World} {base b : Nat} {F : Nat → Prop} {ca : Option Addr} {cn cc : Nat} {ra : Option Addr} {rn rc : Nat} {mv : Value} {code : List Int} {s : Cst} (h : RefW w base b F ca cn cc ra rn rc mv code s) :
    w.cell? ⟨b, 0, none⟩ = some (.slice ca cn cc) ∧ w.cell? ⟨b, 1, none⟩ = some (.slice ra rn rc) ∧ w.cell? ⟨b, 34, none⟩ = some (.int .i64 s.pc) ∧ w.cell? ⟨b, 35, none⟩ = some (.int .i64 s.st) ∧ w.cell? ⟨b, 36, none⟩ = some mv :=
  ⟨h.blk.fcell (by omega), h.blk.fcell (by omega), h.blk.fcell (by omega), h.blk.fcell (by omega), h.blk.fcell (by omega)⟩
theorem RefW.creg {w : World} {base b : Nat} {F : Nat → Prop} {ca : Option Addr} {cn cc : Nat} {ra : Option Addr} {rn rc : Nat} {mv : Value} {code : List Int} {s : Cst} (h : RefW w base b F ca cn cc ra rn rc mv code s) {d : Nat} (hd : d < 32) :
    w.cell? ⟨b, 2 + d, none⟩ = some (.int .i32 (s.reg d)) := by
  refine (h.blk.fcell (k := 2 + d) (by omega)).trans ?_
  unfold refC
  rw [if_neg (by omega), if_neg (by omega), if_neg (by omega), if_neg (by omega), if_neg (by omega), show 2 + d - 2 = d by omega]
theorem RefW.free {w : World} {base b : Nat} {F : Nat → Prop} {ca : Option Addr} {cn cc : Nat} {ra : Option Addr} {rn rc : Nat} {mv : Value} {code : List Int} {s : Cst} (h : RefW w base b F ca cn cc ra rn rc mv code s) (k : Nat) : w.frozen? ⟨b, k, none⟩ = false := BlkAt.free h.blk k

theorem infoMk : (Tryz.prog.info? 47).map (fun i => (i.zero, i.size, i.bytes)) = some (some (.agg #[.int .i64 0, .int .i64 0, .int .i64 0]), 3, 24) := by kernel_rfl
theorem refSet_is {w : World} {base b : Nat} {F : Nat → Prop} {ca : Option Addr} {cn cc : Nat} {ra : Option Addr} {rn rc : Nat} {mv : Value} {code : List Int} {s : Cst} (d : Nat) (x : Int) (h : RefW w base b F ca cn cc ra rn rc mv code s) (hd : d < 32) :
    Calls Tryz.prog 31 #[.pointer (some ⟨b, 0, none⟩), .int .i64 (d : Int), .int .i32 x] w fun e w' => e = .returned (.tuple #[]) ∧ RefW w' base b F ca cn cc ra rn rc mv code (s.put d x) ∧ Keeps (fun j => j = b) w w' := by
  by_cases h0 : d = 0
  · subst h0
    have e0 : ((0 : Int) != 0) = false := by decide
    have HR := Lib.hid h
    clear h
    go_enter Tryz.func31, Tryz.ntmps31
    go_wp2
    go_end0
    exact ⟨rfl, HR.out, Keeps.refl _ _⟩
  · have e0 : ((d : Int) != 0) = true := by simpa using h0
    have cd := h.creg hd
    have fd := h.free (2 + d)
    have hd' : (d : Int) < 32 := by omega
    have HR := Lib.hid (h.to_reg h0 hd x)
    clear h
    go_enter Tryz.func31, Tryz.ntmps31
    go_wp2
    go_end0
    exact ⟨rfl, HR.out, Keeps.set1 _ _ _ _⟩
/-- A mark more: what the append and the store leave. -/
theorem RefW.grow {w w1 w2 : World} {base b g cap : Nat} {F : Nat → Prop} {ca : Option Addr} {cn cc : Nat} {ra : Option Addr} {rn rc : Nat} {mv : Value} {code : List Int} {s : Cst} (h : RefW w base b F ca cn cc ra rn rc mv code s) (m : Mk)
    (hb : Below w.heap.size w w1) (ho : OwnMk w2 base 47 (.slice (some ⟨g, 0, none⟩) (s.mks.length + 1) cap) (s.mks ++ [m])) (hg : w1.grownBy w2 mv.ownBlock) (hx : mv.ownBlock = some g ∨ g = w1.heap.size) :
    BlkAt b 34 (fnArr 37 (refC ca cn cc ra rn rc mv s)) w2 ∧
    RefW (w2.setCell ⟨b, 36, none⟩ (.slice (some ⟨g, 0, none⟩) (s.mks.length + 1) cap)) base b (fun j => F j ∨ j = g) ca cn cc ra rn rc (.slice (some ⟨g, 0, none⟩) (s.mks.length + 1) cap) code { s with mks := s.mks ++ [m] } ∧
    Grows F w (fun j => F j ∨ j = g) (w2.setCell ⟨b, 36, none⟩ (.slice (some ⟨g, 0, none⟩) (s.mks.length + 1) cap)) := by
  have hbb := (h.fF b h.fb)
  have hs1 := hb.size
  have k2 : Keeps (fun j => mv.ownBlock = some j) w w2 := (Keeps.of_below _ hb).next (Keeps.of_grown (F := fun j => mv.ownBlock = some j) hg fun j e => e) fun _ _ e => e
  have hgb : g ≠ b := by
    rcases hx with e | e
    · exact (h.fm g e).2
    · omega
  have hB : BlkAt b 34 (fnArr 37 (refC ca cn cc ra rn rc mv s)) w2 := h.blk.kept k2 fun e => (h.fm b e).2 rfl
  have k3 := Keeps.set1 w2 b 36 (.slice (some ⟨g, 0, none⟩) (s.mks.length + 1) cap)
  have hgl := (ho.lt g rfl)
  refine ⟨hB, ⟨hB.fset 36 _ fun i hi => ?_, ?_, ?_, ho.kept k3 fun j e => ?_, .inl h.fb, fun j e => ?_, fun j off p e => ?_, h.fc, fun j hj => ?_⟩, ?_, ?_⟩
  · unfold refC
    by_cases e : i = 36
    · subst e; rfl
    · simp only [if_neg e]
  · exact (h.code.keptP k2 fun j off p e q => absurd (h.fm j q).1 (fun f => by have := h.fc j off p e; have := (h.fF j f).1; omega)).keptP k3 fun j off p e q => by have := h.fc j off p e; omega
  · refine (h.ram.keptP k2 fun j off p e q => ?_).keptP k3 fun j off p e q => ?_
    · rcases h.fr j off p e with z | z
      · have := (h.fF j (h.fm j q).1).1; omega
      · exact z.2.2 q
    · rcases h.fr j off p e with z | z
      · omega
      · exact z.2.1 q
  · have e' : g = j := by simpa [Value.ownBlock] using e
    omega
  · have e' : g = j := by simpa [Value.ownBlock] using e
    subst e'
    exact ⟨.inr rfl, hgb⟩
  · rcases h.fr j off p e with z | z
    · exact .inl z
    · refine .inr ⟨.inl z.1, z.2.1, fun q => ?_⟩
      have e' : g = j := by simpa [Value.ownBlock] using q
      subst e'
      rcases hx with y | y
      · exact z.2.2 y
      · have := (h.fF g z.1).2; omega
  · have hsz : (w2.setCell ⟨b, 36, none⟩ (.slice (some ⟨g, 0, none⟩) (s.mks.length + 1) cap)).heap.size = w2.heap.size := by simp [World.setCell]
    rw [hsz]
    rcases hj with f | rfl
    · exact ⟨(h.fF j f).1, Nat.lt_of_lt_of_le (h.fF j f).2 k2.size⟩
    · exact hgl
  · refine (k2.mono (G := F) fun j _ q => (h.fm j q).1).next k3 fun j _ e => ?_
    subst e; exact h.fb
  · rintro j (f | rfl)
    · exact .inl f
    · rcases hx with y | y
      · exact .inl (h.fm j y).1
      · exact .inr (by omega)
/-- Another list of words in it. -/
theorem RefW.to_ram {w w1 : World} {base b : Nat} {F : Nat → Prop} {ca : Option Addr} {cn cc : Nat} {ra ra' : Option Addr} {rn rc rn' rc' : Nat} {mv : Value} {code l : List Int} {s : Cst} (h : RefW w base b F ca cn cc ra rn rc mv code s)
    (hb : Below w.heap.size w w1) (hl : Ws .i32 w1 ra' rn' rc' l) (hn : 0 < rn') (hn0 : 0 < rn) (hx : ∀ j off, ra' = some ⟨j, off, none⟩ → ra' = ra ∨ w.heap.size ≤ j) :
    RefW (w1.setCell ⟨b, 1, none⟩ (.slice ra' rn' rc')) base b (fun j => F j ∨ w.heap.size ≤ j ∧ j < w1.heap.size) ca cn cc ra' rn' rc' mv code (s.hold l) ∧
    Grows F w (fun j => F j ∨ w.heap.size ≤ j ∧ j < w1.heap.size) (w1.setCell ⟨b, 1, none⟩ (.slice ra' rn' rc')) := by
  have hbb := (h.fF b h.fb)
  have h1 := h.keep hb
  have k3 := Keeps.set1 w1 b 1 (.slice ra' rn' rc')
  have hsz : (w1.setCell ⟨b, 1, none⟩ (.slice ra' rn' rc')).heap.size = w1.heap.size := by simp [World.setCell]
  have hr : ∀ j off, 0 < rn' → ra' = some ⟨j, off, none⟩ → j < base ∨ (F j ∨ w.heap.size ≤ j ∧ j < w1.heap.size) ∧ j ≠ b ∧ mv.ownBlock ≠ some j := by
    intro j off _ e
    rcases hx j off e with q | q
    · rcases h.fr j off hn0 (q ▸ e) with z | z
      · exact .inl z
      · exact .inr ⟨.inl z.1, z.2⟩
    · refine .inr ⟨.inr ⟨q, ?_⟩, by omega, fun y => by have := (h.fF j (h.fm j y).1).2; omega⟩
      obtain ⟨b', off', e', hc⟩ := hl.lie hn
      have := cell_lt (hc 0 hn)
      rw [e] at e'
      simp only [Option.some.injEq, Addr.mk.injEq] at e'
      rw [e'.1]
      exact this
  refine ⟨⟨h1.blk.fset 1 _ fun i hi => ?_, h1.code.keptP k3 fun j off p e q => ?_, ?_, h1.marks.kept k3 fun j e => (h.fm j e).2, .inl h.fb, fun j e => ⟨.inl (h.fm j e).1, (h.fm j e).2⟩, hr, h.fc, fun j hj => ?_⟩, ?_, ?_⟩
  · unfold refC Cst.hold
    by_cases e : i = 1
    · subst e; rfl
    · simp only [if_neg e]
  · have := h.fc j off p e; omega
  · exact hl.keptP k3 fun j off p e q => by
      rcases hr j off p e with z | z
      · omega
      · exact z.2.1 q
  · rw [hsz]
    rcases hj with f | f
    · exact ⟨(h.fF j f).1, Nat.lt_of_lt_of_le (h.fF j f).2 hb.size⟩
    · exact ⟨by omega, f.2⟩
  · refine (Keeps.of_below F hb).next k3 fun j _ e => ?_
    subst e; exact h.fb
  · rintro j (f | f)
    · exact .inl f
    · exact .inr f.1
/-- The document's core, whatever slices it holds. -/
def RefAt (w : World) (base b : Nat) (F : Nat → Prop) (code : List Int) (s : Cst) : Prop := ∃ ca cn cc ra rn rc mv, RefW w base b F ca cn cc ra rn rc mv code s
theorem RefAt.keep {w w' : World} {base b : Nat} {F : Nat → Prop} {code : List Int} {s : Cst} (h : RefAt w base b F code s) (k : Below w.heap.size w w') : RefAt w' base b F code s :=
  match h with | ⟨ca, cn, cc, ra, rn, rc, mv, h⟩ => ⟨ca, cn, cc, ra, rn, rc, mv, h.keep k⟩
theorem RefAt.kept {w w' : World} {base b : Nat} {F G : Nat → Prop} {code : List Int} {s : Cst} (h : RefAt w base b F code s) (k : Keeps G w w') (hG : ∀ j, G j → base ≤ j) (ha : ∀ j, F j → ¬ G j) : RefAt w' base b F code s :=
  match h with | ⟨ca, cn, cc, ra, rn, rc, mv, h⟩ => ⟨ca, cn, cc, ra, rn, rc, mv, h.kept k hG ha⟩
theorem RefAt.fF {w : World} {base b : Nat} {F : Nat → Prop} {code : List Int} {s : Cst} (h : RefAt w base b F code s) : ∀ j, F j → base ≤ j ∧ j < w.heap.size :=
  match h with | ⟨_, _, _, _, _, _, _, h⟩ => h.fF
/-- It has turned to s. -/
def RefTo (w : World) (base b : Nat) (F : Nat → Prop) (code : List Int) (s : Cst) (w' : World) : Prop := ∃ F', RefAt w' base b F' code s ∧ Grows F w F' w'
theorem RefTo.after {w w1 w2 : World} {base b : Nat} {F G : Nat → Prop} {code : List Int} {s : Cst} (g : Grows F w G w1) (h : RefTo w1 base b G code s w2) : RefTo w base b F code s w2 :=
  match h with | ⟨F', h, k⟩ => ⟨F', h, g.trans k⟩
set_option maxRecDepth 100000 in
set_option maxHeartbeats 1000000 in
theorem refMark_is {w : World} {base b : Nat} {F : Nat → Prop} {code : List Int} {s : Cst} (next addr cost : Int) (h : RefAt w base b F code s) (hm : s.mks.length < 1048576) :
    Calls Tryz.prog 33 #[.pointer (some ⟨b, 0, none⟩), .int .i64 next, .int .i64 addr, .int .i64 cost] w fun e w' => e = .returned (.tuple #[]) ∧ RefTo w base b F code (s.mark next addr cost) w' := by
  obtain ⟨ca, cn, cc, ra, rn, rc, mv, h⟩ := h
  obtain ⟨-, -, c34, -, c36⟩ := h.cpc
  have f36 := h.free 36
  have hbase : base ≤ w.heap.size := Nat.le_trans (h.fF b h.fb).1 (Nat.le_of_lt (h.fF b h.fb).2)
  obtain ⟨i0, hi, hz0, hz1, hz2⟩ := info_parts infoMk
  have HA := Lib.hid (fun o => (Below.refl w.heap.size w).drew.alloc (Nat.le_refl _) o)
  have q36 : ∀ o, (w.alloc o).cell? ⟨b, 36, none⟩ = some mv := fun o => ((HA.out o).cell (p := ⟨b, 36, none⟩) (h.fF b h.fb).2).trans c36
  have HR := Lib.hid h
  clear h
  go_enter Tryz.func33, Tryz.ntmps33
  go_wp2
  go_region_law (refine step_append_mk _ rfl (.tmp 12) (.tmp 20) 32 rfl base 47 i0 (.agg #[.int .i64 0, .int .i64 0, .int .i64 0]) Tryz.underlying32 hi hz0 hz1 hz2 rfl mv s.mks (s.pc, addr, cost) w.heap.size rfl rfl (HR.out.marks.keep (HA.out _)) ⟨_, heap_atn _ _ _ rfl⟩ hm (Nat.le_trans hbase (HA.out _).size) ?_
                 intro g cap w2 ho hg hx; have HT := Lib.hid (HR.out.grow (s.pc, addr, cost) (HA.out _) ho hg hx); clear ho hg hx; have c6 := HT.out.1.fcell (k := 36) (by omega); have f6 := HT.out.1.free 36; have c7 := HT.out.1.fcell (k := 34) (by omega); have f7 := HT.out.1.free 34)
  all_goals go_wp2
  all_goals go_end0
  all_goals exact ⟨rfl, _, ⟨_, _, _, _, _, _, _, HT.out.2.1.to_pc next⟩, HT.out.2.2.trans (Grows.set (.inl HR.out.fb) _ _ _)⟩
end Go.Proofs.YtcoicgkpikoibaaGreatDoor
