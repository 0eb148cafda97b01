/- Package source: the writer, Text. Conditions: as long as a text may be. -/
import Derived.Test.YtekhgidbnpfmnaaGreatDoorShelf
import Derived.Test.YtekhgidbnpfmnaaGreatDoorLinA
import Derived.Test.YtekhgidbnpfmnaaGreatDoorSouP
import Derived.Lib.Builder
import Derived.Lib.UnsafeStr
import Derived.Test.YtekhgidbnpfmnaaGreatDoorMak
import Derived.Lib.AppendStr
import Derived.Test.YtekhgidbnpfmnaaGreatDoorLinT
import Derived.Test.YtekhgidbnpfmnaaGreatDoorImgO
import Derived.Test.YtekhgidbnpfmnaaGreatDoorCodE
import Derived.Test.YtekhgidbnpfmnaaGreatDoorSouB
import Derived.Test.YtekhgidbnpfmnaaGreatDoorImgI
namespace Go.Proofs.YtekhgidbnpfmnaaGreatDoor
open Go.RowKit

section
open Go.RowKit Go.Lib

/-- A writer in memory: what it holds. -/
def WrAt (B b : Nat) (l : Tx) (w : World) : Prop := Lib.IsBuilder 75 5 B b (Lib.byteCells l) w
def WrOn (B b : Nat) (l : Tx) (w : World) : Prop := Lib.BuilderAt 75 5 B b (.pointer (some ⟨b, 0, none⟩)) (Lib.byteCells l) w
theorem builderSize : (Tryz.prog.info? 73).map (·.size) = some 2 := by kernel_rfl
theorem builderLies : liesAt Tryz.prog Tryz.prog.depth 75 (2 / Tryz.prog.cellsOf 75) 0 73 1 = true := by kernel_rfl
theorem infoByte : (Tryz.prog.info? 5).map (fun i => (i.zero, i.size, i.bytes)) = some (some (.int .u8 0), 1, 1) := by kernel_rfl
set_option maxHeartbeats 1000000 in
set_option maxRecDepth 100000 in
theorem wrCheck_used (b : Nat) (w : World) (h0 : w.cell? ⟨b, 0, none⟩ = some (.pointer (some ⟨b, 0, none⟩))) :
    Calls Tryz.prog 119 #[.pointer (some ⟨b, 0, none⟩)] w fun e w' => e = .returned (.tuple #[]) ∧ w' = w := by
  obtain ⟨j, hj, _⟩ := Option.map_eq_some_iff.1 builderSize
  go_enter Tryz.func119, Tryz.ntmps119
  go_wp2
  rw [Lib.run_neq_ptr_same w _ Tryz.underlying71 hj]
  go_wp2
  go_end0
  exact ⟨rfl, rfl⟩
set_option maxHeartbeats 1000000 in
set_option maxRecDepth 100000 in
theorem wrCheck_fresh (b : Nat) (w : World) (h0 : w.cell? ⟨b, 0, none⟩ = some (.pointer none)) (hsh : w.shape? b = some (75, 2)) (hfz : w.frozen? ⟨b, 0, none⟩ = false) :
    Calls Tryz.prog 119 #[.pointer (some ⟨b, 0, none⟩)] w fun e w' => e = .returned (.tuple #[]) ∧ w' = w.setCell ⟨b, 0, none⟩ (.pointer (some ⟨b, 0, none⟩)) := by
  obtain ⟨j, hj, hjs⟩ := Option.map_eq_some_iff.1 builderSize
  go_enter Tryz.func119, Tryz.ntmps119
  go_wp2
  rw [Lib.run_to_unsafe w ⟨b, 0, none⟩ Tryz.underlying71 Tryz.underlying189 hj (by rw [hjs]; decide) hsh (Nat.zero_lt_succ 1)]
  simp only [Result.andThen]
  rw [Oper.upon_value]
  go_wp2
  rw [run_callFunc_extern Tryz.func144 (by kernel_rfl) (by kernel_rfl) (by kernel_rfl) (e := Extern.AbiNoEscape.same) (by kernel_rfl)]
  rw [Lib.run_noEscape]
  simp only [Result.andThen]
  rw [Oper.upon_value]
  go_wp2
  rw [Lib.run_from_unsafe w ⟨b, 0, none⟩ Tryz.underlying189 Tryz.underlying71 hj hsh builderLies]
  simp only [Result.andThen]
  rw [Oper.upon_value]
  go_wp2
  go_end0
  exact ⟨rfl, rfl⟩
theorem wrCheck_is (B b : Nat) (bs : List Value) (w : World) (h : Lib.IsBuilder 75 5 B b bs w) :
    Calls Tryz.prog 119 #[.pointer (some ⟨b, 0, none⟩)] w fun e w' => e = .returned (.tuple #[]) ∧ (Lib.BuilderAt 75 5 B b (.pointer (some ⟨b, 0, none⟩)) bs w' ∧ Below B w w' ∧ ∀ j T cs, BlkAt j T cs w → j ≠ b → T ≠ 5 → BlkAt j T cs w') := by
  rcases h with h | h
  · refine (wrCheck_fresh b w h.cell0 h.shape h.frozen0).mono ?_
    rintro e w' ⟨rfl, rfl⟩
    exact ⟨rfl, h.used _, (Below.refl _ _).setCell (p := ⟨b, 0, none⟩) h.1 _, fun j T cs q h1 _ => q.kept (Keeps.set1 w b 0 _) h1⟩
  · refine (wrCheck_used b w h.cell0).mono ?_
    rintro e w' ⟨rfl, rfl⟩
    exact ⟨rfl, h, Below.refl _ _, fun _ _ _ q _ _ => q⟩
/-- A writer, nothing written to it yet, or something. -/
def WrS (B b : Nat) (l : Tx) (w : World) : Prop :=
  (l = [] ∧ B ≤ b ∧ BlkAt b 75 #[.pointer none, .slice none 0 0] w) ∨ (l ≠ [] ∧ WrOn B b l w)
/-- All other blocks, but such of bytes, are as they were. -/
def KeptX (b : Nat) (w w' : World) : Prop := ∀ j T cs, BlkAt j T cs w → j ≠ b → T ≠ 5 → BlkAt j T cs w'
theorem KeptX.of_below {b : Nat} {w w' : World} (h : Below w.heap.size w w') : KeptX b w w' := fun _ _ _ k _ _ => k.keep h
theorem KeptX.trans {b : Nat} {w w1 w2 : World} (h : KeptX b w w1) (k : KeptX b w1 w2) : KeptX b w w2 := fun j T cs q h1 h2 => k j T cs (h j T cs q h1 h2) h1 h2
theorem WrS.low {B b : Nat} {l : Tx} {w : World} (h : WrS B b l w) : B ≤ b ∧ b < w.heap.size := by
  rcases h with ⟨-, hb, h⟩ | ⟨-, h⟩
  · exact ⟨hb, h.lt⟩
  · exact ⟨h.1, Lib.BuilderAt.lt h⟩
theorem WrS.at {B b : Nat} {l : Tx} {w : World} (h : WrS B b l w) : WrAt B b l w := by
  rcases h with ⟨rfl, hb, h⟩ | ⟨-, h⟩
  · refine .inl ⟨hb, _, h, ?_, fun q => by cases q⟩
    exact World.ownsRow_nil w B _ 1
  · exact .inr h
theorem WrS.keep {B b : Nat} {l : Tx} {w w' : World} (h : WrS B b l w) (k : Below w.heap.size w w') : WrS B b l w' := by
  rcases h with ⟨rfl, hb, h⟩ | ⟨hl, h1, v, h2, h3, h4⟩
  · exact .inl ⟨rfl, hb, h.keep k⟩
  · exact .inr ⟨hl, h1, v, BlkAt.keep h2 k, own_keep h3 k, h4⟩
theorem WrS.new {B : Nat} (w : World) (hB : B ≤ w.heap.size) : WrS B w.heap.size [] (w.alloc (.cells #[.pointer none, .slice none 0 0] 75)) := .inl ⟨rfl, hB, BlkAt.new w _ _⟩
set_option maxHeartbeats 2000000 in
set_option maxRecDepth 100000 in
theorem wrString_is (B b : Nat) (l m : Tx) (w : World) (h : WrS B b l w) (hm : m ≠ []) (hlen : l.length + m.length ≤ 140737488355328) (hBw : B ≤ w.heap.size) :
    Calls Tryz.prog 88 #[.pointer (some ⟨b, 0, none⟩), .string (txt m)] w fun e w' => (∃ k : Int, e = .returned (.tuple #[.int .i64 k, .nilIface])) ∧ WrS B b (l ++ m) w' ∧ Below B w w' ∧ KeptX b w w' := by
  obtain ⟨i0, hi, hz0, hz1, hz2⟩ := info_parts infoByte
  have hC := Lib.hid fun w h => wrCheck_is B b (Lib.byteCells l) w h
  have hs : (txt m).size = m.length := txt_size m
  have h := h.at
  unfold WrAt at h
  go_enter Tryz.func88, Tryz.ntmps88
  go_wp2_with (go_at_call 119; refine (hC.out _ h).mono ?_)
  rintro e w1 ⟨rfl, h1, hb1, hk1⟩
  obtain ⟨hB, v, hbk, hown, hne⟩ := h1
  have c0 : w1.cell? ⟨b, 0, none⟩ = some (.pointer (some ⟨b, 0, none⟩)) := by rw [Lib.cell_of_heap hbk]; rfl
  have c1 : w1.cell? ⟨b, 1, none⟩ = some v := by rw [Lib.cell_of_heap hbk]; rfl
  have hcl := Lib.byteCells_length l
  rw [hcl] at hown
  go_wp2_with (at_builtin; refine Lib.wpList_append_own_string _ rfl _ _ 37 9 rfl B 5 i0 Tryz.underlying37 Tryz.underlying9 hi hz0 hz1 hz2 _ _ _ rfl hown (txt m) rfl ?c3 ?c4 ?c5 ?_)
  case c3 => unfold maxLen; omega
  case c4 => omega
  case c5 => have := hb1.size; omega
  intro v' w2 hown' hgrow _
  have hlt : b < w1.heap.size := by
    rcases Nat.lt_or_ge b w1.heap.size with h' | h'
    · exact h'
    · simp [Array.getElem?_eq_none h'] at hbk
  have hb2 : w2.heap[b]? = some (.cells #[.pointer (some ⟨b, 0, none⟩), v] 75 (0, 0)) := by
    rw [hgrow.block b hlt (fun e => hne e.symm)]
    exact hbk
  have d0 : w2.cell? ⟨b, 0, none⟩ = some (.pointer (some ⟨b, 0, none⟩)) := by rw [Lib.cell_of_heap hb2]; rfl
  have d1 : w2.cell? ⟨b, 1, none⟩ = some v := by rw [Lib.cell_of_heap hb2]; rfl
  have f1 : w2.frozen? ⟨b, 1, none⟩ = false := Lib.frozen_of_heap hb2 1
  obtain ⟨ao, n', cap, rfl⟩ : ∃ ao n' cap, v' = .slice ao n' cap := by
    rcases hown'.2 with ⟨hv, _⟩ | ⟨g, cap, cur, hv, _⟩
    · exact ⟨_, _, _, hv⟩
    · exact ⟨_, _, _, hv⟩
  go_wp2
  go_ret2
  have hx : Lib.byteCells l ++ Lib.strCells (txt m) = Lib.byteCells (l ++ m) := by
    simp [Lib.byteCells, Lib.strCells, txt]
  first | rw [hx, hs] at hown' | rw [hx] at hown' | skip
  refine ⟨⟨_, rfl⟩, .inr ⟨?_, ?_⟩, ?_, ?_⟩
  · intro e
    exact hm (List.append_eq_nil_iff.1 e).2
  · exact Lib.BuilderAt.put (T := 75) (e := 5) hB hb2 (bs' := Lib.byteCells (l ++ m)) (by rw [Lib.byteCells_length, List.length_append]; exact hown') (by decide)
  · exact (hb1.grown hgrow (by have := hb1.size; omega) (fun k hk => (hown.lt k hk).1)).setCell (p := ⟨b, 1, none⟩) hB _
  · intro j T cs q h1 h2
    have q1 := hk1 j T cs q h1 h2
    have q2 : BlkAt j T cs w2 := q1.kept (Keeps.of_grown (F := fun j => v.ownBlock = some j) hgrow fun _ e => e) (own_off_type hown q1 h2)
    exact q2.kept (Keeps.set1 w2 b 1 (.slice ao n' cap)) h1
theorem unsafeNone (W : World) (q : Option Addr) : (Builtin.unsafeString_ #[112, 3] 9 #[.pointer q, .int .i64 0]).run Tryz.prog W = .ok (.string .empty) W :=
  Lib.run_unsafeString_none W _ _ _ q
set_option maxHeartbeats 2000000 in
set_option maxRecDepth 100000 in
theorem wrOut_is (B b : Nat) (l : Tx) (w : World) (h : WrS B b l w) :
    Calls Tryz.prog 30 #[.pointer (some ⟨b, 0, none⟩)] w fun e w' => e = .returned (.string (txt l)) ∧ Below B w w' := by
  have mixed : Tryz.prog.follows .mixedOrders = true := by kernel_rfl
  rcases h with ⟨rfl, hB, hbk⟩ | ⟨h0, hB, v, hbk, hown, hne⟩
  · have hUS := unsafeNone
    have c1 : w.drew.cell? ⟨b, 1, none⟩ = some (.slice none 0 0) := BlkAt.cell (w := w.drew) hbk 1
    have hSD : (Builtin.unsafeSliceData_ #[37] 112 #[.slice none 0 0]).run Tryz.prog w.drew = .ok (.pointer none) w.drew := rfl
    clear hbk
    go_enter Tryz.func30, Tryz.ntmps30
    go_wp2
    go_region_o
    all_goals (go_wp2; go_ret; exact ⟨rfl, Below.drew (Below.refl B w)⟩)
  · have hl0 : l.length ≠ 0 := by simpa using h0
    rw [Lib.byteCells_length] at hown
    obtain ⟨g, cap, cur, rfl, hbg, hg, hnc, hcm, hcs, htake⟩ : ∃ g cap cur, v = .slice (some ⟨g, 0, none⟩) l.length cap ∧ B ≤ g ∧ w.heap[g]? = some (.cells cur 5 (0, 0)) ∧ l.length ≤ cap ∧ cap ≤ maxLen ∧ cur.size = cap * 1 ∧ cur.toList.take (l.length * 1) = Lib.byteCells l := by
      rcases hown.2 with ⟨_, hz⟩ | ⟨g, cap, cur, hv, r⟩
      · exact absurd hz hl0
      · exact ⟨g, cap, cur, hv, r⟩
    have c1 : w.drew.cell? ⟨b, 1, none⟩ = some (.slice (some ⟨g, 0, none⟩) l.length cap) := BlkAt.cell (w := w.drew) hbk 1
    have hSD : (Builtin.unsafeSliceData_ #[37] 112 #[.slice (some ⟨g, 0, none⟩) l.length cap]).run Tryz.prog w.drew = .ok (.pointer (some ⟨g, 0, none⟩)) w.drew :=
      Lib.run_unsafeSliceData_row _ _ _ _ _ _ (by omega)
    have hUS : (Builtin.unsafeString_ #[112, 3] 9 #[.pointer (some ⟨g, 0, none⟩), .int .i64 l.length]).run Tryz.prog w.drew = .ok (.string ⟨l.toArray⟩) (w.drew.freeze ⟨g, 0, none⟩ l.length) := by
      refine Lib.run_unsafeString_row w.drew 112 3 9 5 Tryz.underlying112 (by kernel_rfl) g cur.size (by have hg' : w.drew.heap[g]? = some (.cells cur 5 (0, 0)) := hg; simp [World.shape?, hg']) l h0 (by omega) (by unfold maxLen at hcm; omega) ?_
      intro j x hx
      have := hown.cells (g := g) rfl j (.int .u8 x.toNat) (by simp [Lib.byteCells, hx])
      exact this
    clear hown hne hbk hg
    go_enter Tryz.func30, Tryz.ntmps30
    go_wp2
    go_region_o
    all_goals (go_wp2; go_ret; exact ⟨rfl, Lib.below_freeze (Below.drew (Below.refl B w)) (p := ⟨g, 0, none⟩) hbg _⟩)
theorem wlen : ∀ l : List Tx, l.length ≤ (l.map fun w => w.length + 1).sum
  | [] => by simp
  | x :: l => by
    have ih := wlen l
    rw [List.length_cons, List.map_cons, List.sum_cons]; omega
theorem wback (ws : List Tx) : (ws.map txt).map (·.data.toList) = ws := by
  rw [List.map_map]
  conv => rhs; rw [← List.map_id ws]
  apply List.map_congr_left
  intro x _
  exact txt_list x
/-- What a writing leaves. -/
structure WrTo (B b : Nat) (l : Tx) (w w' : World) : Prop where
  wr : WrS B b l w'
  below : Below B w w'
  kept : KeptX b w w'
theorem WrTo.of_below {B b : Nat} {l : Tx} {w w' : World} (h : WrS B b l w) (k : Below w.heap.size w w') (hB : B ≤ w.heap.size) : WrTo B b l w w' := ⟨h.keep k, k.mono hB, KeptX.of_below k⟩
theorem WrTo.trans {B b : Nat} {l l' : Tx} {w w1 w2 : World} (h : WrTo B b l w w1) (k : WrTo B b l' w1 w2) : WrTo B b l' w w2 := ⟨k.wr, h.below.trans k.below, h.kept.trans k.kept⟩
set_option maxHeartbeats 2000000 in
set_option maxRecDepth 100000 in
/-- A line more. -/
theorem wrLine_is (B b A c : Nat) (ws : List Tx) (l : Tx) (w : World) (h : WrS B b l w) (hBw : B ≤ w.heap.size) (hc : ∀ (j : Nat) x, (ws.map txt)[j]? = some x → w.cell? ⟨A, j, none⟩ = some (.string x)) (hA : A < w.heap.size) (hcap : ws.length ≤ c) (hs : (ws.map fun w => w.length + 1).sum ≤ 100000000) (hl : l.length ≤ 100000000) :
    Calls Tryz.prog 59 #[.pointer (some ⟨b, 0, none⟩), .slice (some ⟨A, 0, none⟩) ws.length c] w fun e w' => e = .returned (.tuple #[]) ∧ WrTo B b (l ++ (Lib.join ws [32] ++ [10])) w w' := by
  have hm : (ws.map txt).length = ws.length := by simp
  have hj := lsJoin ws
  have hle := wlen ws
  have hb : (⟨#[32]⟩ : ByteArray).data.toList = [32] := rfl
  have CJ := fun W (k : Below w.heap.size w W) => strings_Join A 0 c (ws.map txt) ⟨#[32]⟩ W (fun j x hx => by rw [Nat.zero_add, k.cell (p := ⟨A, j, none⟩) hA]; exact hc j x hx) (Nat.lt_of_lt_of_le hA k.size) (by omega) (by omega) (by rw [wback, hb]; omega)
  rw [wback, hb, hm] at CJ
  have HJ := Lib.hid CJ
  have H := Lib.hid h
  generalize hjl : Lib.join ws [32] = jl at *
  have hsz : ¬ (9223372036854775807 < (txt jl).size + 1) := by rw [txt_size]; omega
  have hcat : txt jl ++ ({ data := #[10] } : ByteArray) = txt (jl ++ [10]) := by
    apply str_ext
    rw [ByteArray.data_append, Array.toList_append, txt_list, txt_list]
  have HW := Lib.hid (fun W (k : Below w.heap.size w W) => wrString_is B b l (jl ++ [10]) W (h.keep k) (by simp) (by rw [List.length_append, List.length_singleton]; omega) (Nat.le_trans hBw k.size))
  clear hc CJ hj hle hb hm hs hl h hjl hcap
  go_enter Tryz.func59, Tryz.ntmps59
  go_wp2
  go_region_with (first
    | (go_at_call 89; ((refine (HJ.out _ ((Below.refl _ _).drew)).mono ?_); rintro e w1 ⟨rfl, hk⟩); have K1 := Lib.hid ((Below.refl w.heap.size w).drew.trans hk); clear hk)
    | (go_at_call 88; ((refine (HW.out _ K1.out).mono ?_); rintro e w2 ⟨⟨kk, rfl⟩, hw, hk, hx⟩); have K2 := Lib.hid hw; have K3 := Lib.hid hk; have K4 := Lib.hid hx; clear hw hk hx))
  all_goals
    go_end0
    exact ⟨rfl, K2.out, (K1.out.mono hBw).trans K3.out, (KeptX.of_below K1.out).trans K4.out⟩
end

section
open Go.RowKit Go.Lib Go.IntWalk

theorem flatS_snoc {α : Type} [Inhabited α] {f : α → Tx} {l : List α} {j : Nat} (h : j < l.length) : (l.take (j + 1)).flatMap f = (l.take j).flatMap f ++ f (el l j) := by
  rw [take_el h, List.flatMap_append]
  simp
theorem flatS_all {α : Type} {f : α → Tx} {l : List α} {j : Nat} (h : l.length ≤ j) : (l.take j).flatMap f = l.flatMap f := by rw [List.take_of_length_le h]
theorem join2 (a b : Tx) : Lib.join [a, b] [32] = a ++ 32 :: b := by simp [Lib.join]
theorem join1 (a : Tx) : Lib.join [a] [32] = a := by simp [Lib.join]
def nlT (l : Tx) : Tx := l ++ [10]
theorem nl_len {ls : List Tx} {k : Nat} (h : ∀ l ∈ ls, l.length ≤ k) : (ls.flatMap nlT).length ≤ (k + 1) * ls.length := by
  induction ls with
  | nil => simp
  | cons l ls ih =>
    have h1 := h l (by simp)
    have h2 := ih fun x hx => h x (by simp [hx])
    rw [List.flatMap_cons, List.length_append, List.length_cons, Nat.mul_succ]
    unfold nlT at *
    rw [List.length_append]
    simp only [List.length_cons, List.length_nil]
    omega
section
variable {w0 w : World} {B b : Nat} {l : Tx}
/-- Two words, just laid. -/
theorem two_cells (W : World) (a c : Tx) : ∀ (j : Nat) x, ([a, c].map txt)[j]? = some x → (W.alloc (.cells #[.string (txt a), .string (txt c)] 9)).cell? ⟨W.heap.size, j, none⟩ = some (.string x) := by
  have hb := BlkAt.new W 9 #[.string (txt a), .string (txt c)]
  intro j x hx
  rw [hb.cell j]
  match j, hx with
  | 0, hx => cases hx; rfl
  | 1, hx => cases hx; rfl
theorem one_cells (W : World) (a : Tx) : ∀ (j : Nat) x, ([a].map txt)[j]? = some x → (W.alloc (.cells #[.string (txt a)] 9)).cell? ⟨W.heap.size, j, none⟩ = some (.string x) := by
  have hb := BlkAt.new W 9 #[.string (txt a)]
  intro j x hx
  rw [hb.cell j]
  match j, hx with
  | 0, hx => cases hx; rfl
theorem WrTo.start (h : WrS B b l w) : WrTo B b l w w := ⟨h, Below.refl _ _, fun _ _ _ q _ _ => q⟩
def adrT (first : Tx) (x : Int) : Tx := nlT (first ++ 32 :: decL x)
theorem adr_len {first : Tx} {q : List Int} (hf : first.length ≤ 6) (hq : ∀ x ∈ q, -2147483648 ≤ x ∧ x ≤ 2147483647) : (q.flatMap (adrT first)).length ≤ 20 * q.length := by
  induction q with
  | nil => simp
  | cons x q ih =>
    have h1 := hq x (by simp)
    have h2 := ih fun y hy => hq y (by simp [hy])
    have h3 := decL_length (n := x) (by omega) (by omega)
    rw [List.flatMap_cons, List.length_append, List.length_cons, Nat.mul_succ]
    unfold adrT nlT at *
    rw [List.length_append, List.length_append, List.length_cons]
    simp only [List.length_cons, List.length_nil]
    omega
theorem byAt_mem {q : List Int} {j : Nat} (h : j < q.length) : byAt q j ∈ q := by
  unfold byAt
  rw [List.getD_eq_getElem?_getD, List.getElem?_eq_getElem h]
  exact List.getElem_mem h
theorem byAt_el {q : List Int} (j : Nat) : el q j = byAt q j := rfl
set_option maxHeartbeats 2000000 in
set_option maxRecDepth 100000 in
theorem wrAddrs_is {first : Tx} {a : Option Addr} {n c : Nat} {q : List Int} (h : WrS w0.heap.size b l w) (bel : Below w0.heap.size w0 w) (hr : Ws .i64 w0 a n c q) (hf : first.length ≤ 6) (hq : ∀ x ∈ q, -2147483648 ≤ x ∧ x ≤ 2147483647) (hL : LinLaid w0) (hl : l.length ≤ 50000000) (hn : n ≤ 100000) :
    Calls Tryz.prog 28 #[.pointer (some ⟨b, 0, none⟩), .string (txt first), .slice a n c] w fun e w' => e = .returned (.tuple #[]) ∧ WrTo w0.heap.size b (l ++ q.flatMap (adrT first)) w w' := by
  have H := Lib.hid h
  have HR := Lib.hid hr
  have HL := Lib.hid hL
  have HB := Lib.hid bel
  have HF := Lib.hid hf
  have HQ := Lib.hid hq
  have hlen := hr.len
  have HS := Lib.hid (WrTo.start h)
  clear h bel hr hL hf hq
  go_enter Tryz.func28, Tryz.ntmps28
  go_wp2
  go_loopw [10] (fun i wr => ∃ j : Nat, j ≤ n ∧ i = .int .i64 j ∧ WrTo w0.heap.size b (l ++ (q.take j).flatMap (adrT first)) w wr) (fun i _ => n - (intOf i).toNat)
  case atStart => exact ⟨0, Nat.zero_le _, rfl, by simpa using HS.out⟩
  case round =>
    obtain ⟨j, hj, rfl, R⟩ := hrel
    by_cases hlt : j < n
    · have hlt' : (j : Int) < n := by omega
      have hjl : j < q.length := by omega
      obtain ⟨bb, off, rfl, dd⟩ := (HR.out.keep (HB.out.trans R.below)).lie (by omega)
      have d := dd j hlt
      have hx := HQ.out _ (byAt_mem hjl)
      have hsn := flatS_snoc (f := adrT first) hjl
      rw [byAt_el] at hsn
      have htl := adr_len (q := q.take j) HF.out fun x hx => HQ.out x (List.mem_of_mem_take hx)
      rw [List.length_take] at htl
      have hfl := HF.out
      generalize byAt q j = x at *
      have hdl := decL_length (n := x) (by omega) (by omega)
      have HSN := Lib.hid hsn
      have RO := Lib.hid R
      have hz := Nat.le_trans HB.out.size R.below.size
      generalize (q.take j).flatMap (adrT first) = S at *
      have HI := Lib.hid (lineItoa_is x wr (by omega) (by omega) (HL.out.below (HB.out.trans R.below) (Nat.le_refl _)))
      have HW := Lib.hid (fun W (k : Below wr.heap.size wr W) => wrLine_is w0.heap.size b W.heap.size 2 [first, decL x] (l ++ S) (W.alloc (.cells #[.string (txt first), .string (txt (decL x))] 9)) ((R.wr.keep k).keep ((Below.refl _ _).alloc (Nat.le_refl _) _)) (Nat.le_trans hz (Nat.le_trans k.size (by simp))) (two_cells W first (decL x)) (by simp) (Nat.le_refl _) (by simp; omega) (by rw [List.length_append]; omega))
      rw [join2, show ([first, decL x] : List Tx).length = 2 from rfl] at HW
      clear dd hsn R htl hjl
      go_wp2_with (first
        | (go_at_call 60; ((with_reducible refine (HI.out).mono ?_); rintro e w2 ⟨rfl, hk⟩); have K2 := Lib.hid hk; clear hk)
        | (go_at_call 59; ((with_reducible refine (HW.out _ K2.out).mono ?_); rintro e w3 ⟨rfl, hk⟩); have K3 := Lib.hid hk; clear hk))
      go_round
      case rel =>
        refine ⟨j + 1, by omega, by go_num, ?_⟩
        rw [HSN.out, ← List.append_assoc]
        have k4 := K2.out.trans (((Below.refl w2.heap.size w2).alloc (Nat.le_refl _) (.cells #[.string (txt first), .string (txt (decL x))] 9)).mono K2.out.size)
        exact (RO.out.trans (WrTo.of_below RO.out.wr k4 hz)).trans K3.out
      case measure => simp [intOf]; omega
    · obtain rfl : j = n := by omega
      rw [flatS_all (by omega)] at R
      have RO := Lib.hid R
      go_wp2
      go_end0
      exact ⟨rfl, RO.out⟩
def datN (q : Int × Bool) : Tx := nlT (datT q)
theorem datN_len {q : List (Int × Bool)} (hq : ∀ x ∈ q, -2147483648 ≤ x.1 ∧ x.1 ≤ 2147483647) : (q.flatMap datN).length ≤ 20 * q.length := by
  induction q with
  | nil => simp
  | cons x q ih =>
    have h1 := hq x (by simp)
    have h2 := ih fun y hy => hq y (by simp [hy])
    have h3 := decL_length (n := x.1) (by omega) (by omega)
    rw [List.flatMap_cons, List.length_append, List.length_cons, Nat.mul_succ]
    have h4 : (datT x).length ≤ 18 := by
      unfold datT
      rw [List.length_append, List.length_cons]
      have : (if x.2 = true then wSecret else wWord).length ≤ 6 := by split <;> decide
      omega
    unfold datN nlT at *
    rw [List.length_append]
    simp only [List.length_cons, List.length_nil]
    omega
theorem zip_el {a : List Int} {c : List Bool} (j : Nat) (h : j < a.length) (k : j < c.length) : el (a.zip c) j = (byAt a j, el c j) := by
  have hz : j < (a.zip c).length := by rw [List.length_zip]; omega
  rw [← el_eq hz, List.getElem_zip, el_eq k, el_eq h]
  rfl
set_option maxHeartbeats 2000000 in
set_option maxRecDepth 100000 in
theorem wrData_is {a0 a1 a2 a3 a4 : Option Addr} {n0 n1 n3 n4 c0 c1 c2 c3 c4 : Nat} {m : Img} (h : WrS w0.heap.size b l w) (bel : Below w0.heap.size w0 w) (im : ImgAt w0 a0 n0 c0 a1 n1 c1 a2 n1 c2 a3 n3 c3 a4 n4 c4 m) (hq : ∀ x ∈ m.data, -2147483648 ≤ x ∧ x ≤ 2147483647) (hL : LinLaid w0) (hl : l.length ≤ 50000000) (hn : n1 ≤ 100000) :
    Calls Tryz.prog 27 #[.pointer (some ⟨b, 0, none⟩), .agg #[.slice a0 n0 c0, .slice a1 n1 c1, .slice a2 n1 c2, .slice a3 n3 c3, .slice a4 n4 c4]] w fun e w' => e = .returned (.tuple #[]) ∧ WrTo w0.heap.size b (l ++ (m.data.zip m.sec).flatMap datN) w w' := by
  have al := (Below.refl w.heap.size w).alloc (Nat.le_refl _) (.cells #[.slice a0 n0 c0, .slice a1 n1 c1, .slice a2 n1 c2, .slice a3 n3 c3, .slice a4 n4 c4] 27)
  have HS := Lib.hid (WrTo.start (h.keep al))
  have HAL := Lib.hid (WrTo.of_below h al bel.size)
  have HB := Lib.hid (bel.trans (al.mono bel.size))
  have HX := Lib.hid (BlkAt.new w 27 #[.slice a0 n0 c0, .slice a1 n1 c1, .slice a2 n1 c2, .slice a3 n3 c3, .slice a4 n4 c4])
  have hXb : w.heap.size ≠ b := by have := h.low.2; omega
  have HI := Lib.hid im
  have HL := Lib.hid hL
  have HQ := Lib.hid hq
  have hlen := im.data.len
  have hlen2 := im.sec.len
  have k1 := HX.out.cell 1
  clear h bel im hL hq al
  go_enter Tryz.func27, Tryz.ntmps27
  go_wp2
  obtain ⟨X, hX⟩ : ∃ X, w.heap.size = X := ⟨_, rfl⟩
  obtain ⟨W0, hW0⟩ : ∃ W0, w.alloc (.cells #[.slice a0 n0 c0, .slice a1 n1 c1, .slice a2 n1 c2, .slice a3 n3 c3, .slice a4 n4 c4] 27) = W0 := ⟨_, rfl⟩
  rw [hW0] at HS HB HX k1 HAL ⊢
  simp only [hX] at HX k1 hXb ⊢
  clear hW0 hX k1
  go_loopw [10] (fun i wr => ∃ j : Nat, j ≤ n1 ∧ i = .int .i64 j ∧ WrTo w0.heap.size b (l ++ ((m.data.zip m.sec).take j).flatMap datN) W0 wr) (fun i _ => n1 - (intOf i).toNat)
  case atStart => exact ⟨0, Nat.zero_le _, rfl, by simpa using HS.out⟩
  case round =>
    obtain ⟨j, hj, rfl, R⟩ := hrel
    by_cases hlt : j < n1
    · have hlt' : (j : Int) < n1 := by omega
      have hjl : j < m.data.length := by omega
      have x2 := (R.kept X _ _ HX.out hXb (by decide)).cell 2
      obtain ⟨bb, off, rfl, dd⟩ := (HI.out.data.keep (HB.out.trans R.below)).lie (by omega)
      have d := dd j hlt
      obtain ⟨b8, off8, rfl, d8⟩ := (HI.out.sec.keep (HB.out.trans R.below)).boo hlt
      have hx := HQ.out _ (byAt_mem hjl)
      have hsn := flatS_snoc (f := datN) (l := m.data.zip m.sec) (j := j) (by rw [List.length_zip]; omega)
      rw [zip_el j hjl (by omega)] at hsn
      have htl := datN_len (q := (m.data.zip m.sec).take j) fun x hx => HQ.out x.1 (List.of_mem_zip (List.mem_of_mem_take hx)).1
      rw [List.length_take] at htl
      generalize byAt m.data j = x at *
      generalize el m.sec j = z at *
      have hdl := decL_length (n := x) (by omega) (by omega)
      have HSN := Lib.hid hsn
      have RO := Lib.hid R
      have hz := Nat.le_trans HB.out.size R.below.size
      generalize ((m.data.zip m.sec).take j).flatMap datN = S at *
      have HIT := Lib.hid (lineItoa_is x wr (by omega) (by omega) (HL.out.below (HB.out.trans R.below) (Nat.le_refl _)))
      have hwx : IntKind.i64.wrap x = x := i64_in _ (by omega)
      have hwx2 : wrap64 x = x := by unfold wrap64; omega
      cases z
      · skip
        have HW := Lib.hid (fun W (k : Below wr.heap.size wr W) => wrLine_is w0.heap.size b W.heap.size 2 [wWord, decL x] (l ++ S) (W.alloc (.cells #[.string (txt wWord), .string (txt (decL x))] 9)) ((R.wr.keep k).keep ((Below.refl _ _).alloc (Nat.le_refl _) _)) (Nat.le_trans hz (Nat.le_trans k.size (by simp))) (two_cells W wWord (decL x)) (by simp) (Nat.le_refl _) (by simp [wWord]; omega) (by rw [List.length_append]; omega))
        rw [join2, show ([wWord, decL x] : List Tx).length = 2 from rfl, show txt wWord = ⟨#[119, 111, 114, 100]⟩ from rfl] at HW
        clear dd hsn R htl hjl
        go_wp2_with (first
          | (go_at_call 60; ((with_reducible refine (HIT.out).mono ?_); rintro e w2 ⟨rfl, hk⟩); have K2 := Lib.hid hk; clear hk)
          | (go_at_call 59; ((with_reducible refine (HW.out _ K2.out).mono ?_); rintro e w3 ⟨rfl, hk⟩); have K3 := Lib.hid hk; clear hk))
        go_round
        case rel =>
          refine ⟨j + 1, by omega, by go_num, ?_⟩
          rw [HSN.out, ← List.append_assoc]
          have k4 := K2.out.trans (((Below.refl w2.heap.size w2).alloc (Nat.le_refl _) (.cells #[.string ⟨#[119, 111, 114, 100]⟩, .string (txt (decL x))] 9)).mono K2.out.size)
          exact (RO.out.trans (WrTo.of_below RO.out.wr k4 hz)).trans K3.out
        case measure => simp [intOf]; omega
      · skip
        have HW := Lib.hid (fun W (k : Below wr.heap.size wr W) => wrLine_is w0.heap.size b W.heap.size 2 [wSecret, decL x] (l ++ S) (W.alloc (.cells #[.string (txt wSecret), .string (txt (decL x))] 9)) ((R.wr.keep k).keep ((Below.refl _ _).alloc (Nat.le_refl _) _)) (Nat.le_trans hz (Nat.le_trans k.size (by simp))) (two_cells W wSecret (decL x)) (by simp) (Nat.le_refl _) (by simp [wSecret]; omega) (by rw [List.length_append]; omega))
        rw [join2, show ([wSecret, decL x] : List Tx).length = 2 from rfl, show txt wSecret = ⟨#[115, 101, 99, 114, 101, 116]⟩ from rfl] at HW
        clear dd hsn R htl hjl
        go_wp2_with (first
          | (go_at_call 60; ((with_reducible refine (HIT.out).mono ?_); rintro e w2 ⟨rfl, hk⟩); have K2 := Lib.hid hk; clear hk)
          | (go_at_call 59; ((with_reducible refine (HW.out _ K2.out).mono ?_); rintro e w3 ⟨rfl, hk⟩); have K3 := Lib.hid hk; clear hk))
        go_round
        case rel =>
          refine ⟨j + 1, by omega, by go_num, ?_⟩
          rw [HSN.out, ← List.append_assoc]
          have k4 := K2.out.trans (((Below.refl w2.heap.size w2).alloc (Nat.le_refl _) (.cells #[.string ⟨#[115, 101, 99, 114, 101, 116]⟩, .string (txt (decL x))] 9)).mono K2.out.size)
          exact (RO.out.trans (WrTo.of_below RO.out.wr k4 hz)).trans K3.out
        case measure => simp [intOf]; omega
    · obtain rfl : j = n1 := by omega
      rw [flatS_all (by rw [List.length_zip]; omega)] at R
      have RO := Lib.hid R
      go_wp2
      go_end0
      exact ⟨rfl, HAL.out.trans RO.out⟩
end
end

section
open Go.RowKit Go.Lib Go.IntWalk

theorem insT_facts {x : Int} (h : cErr x = 0) : cChk (cO x) (cG x 0) (cG x 1) (cG x 2) (cG x 3) = 0 ∧ lineT (cO x) (cG x 0) (cG x 1) (cG x 2) (cG x 3) = txt (insT x) ∧ (insT x).length ≤ 70 := by
  have k := back_word h
  have hi : insT x = lsIns x := by unfold lsIns; rw [if_pos h]
  refine ⟨?_, ?_, by rw [hi]; exact (lsIns_ok x).2⟩
  · unfold cO cG
    rw [if_pos h, if_pos h, if_pos h, if_pos h, if_pos h]
    exact k.1
  · unfold insT
    rw [txt_of]
def insN (x : Int) : Tx := nlT (insT x)
theorem insN_len {q : List Int} (hq : ∀ x ∈ q, cErr x = 0) : (q.flatMap insN).length ≤ 71 * q.length := by
  induction q with
  | nil => simp
  | cons x q ih =>
    have h1 := (insT_facts (hq x (by simp))).2.2
    have h2 := ih fun y hy => hq y (by simp [hy])
    rw [List.flatMap_cons, List.length_append, List.length_cons, Nat.mul_succ]
    unfold insN nlT at *
    rw [List.length_append]
    simp only [List.length_cons, List.length_nil]
    omega
theorem find_first {q : List Int} {j : Nat} (hj : j < q.length) (h : ∀ x ∈ q.take j, cErr x = 0) (hx : cErr (byAt q j) ≠ 0) : q.find? (fun w => decide (cErr w ≠ 0)) = some (byAt q j) := by
  have e : q = q.take j ++ (q[j] :: q.drop (j + 1)) := by rw [← List.drop_eq_getElem_cons hj, List.take_append_drop]
  have e2 : q[j] = byAt q j := el_eq hj
  rw [e2] at e
  conv => lhs; rw [e]
  rw [List.find?_append]
  have h1 : (q.take j).find? (fun w => decide (cErr w ≠ 0)) = none := List.find?_eq_none.2 fun x hx => by simpa using h x hx
  rw [h1, List.find?_cons, decide_eq_true hx]
  rfl
/-- What code leaves. -/
def CodTo (B b : Nat) (l : Tx) (q : List Int) (w : World) (e : Ending) (w' : World) : Prop :=
  match q.find? (fun w => decide (cErr w ≠ 0)) with
  | some x => e = .returned (.int .i64 (cErr x)) ∧ Below B w w'
  | none => e = .returned (.int .i64 0) ∧ WrTo B b (l ++ q.flatMap insN) w w'
theorem take_next {q : List Int} {j : Nat} (hj : j < q.length) (h : ∀ x ∈ q.take j, cErr x = 0) (hx : cErr (byAt q j) = 0) : ∀ x ∈ q.take (j + 1), cErr x = 0 := by
  rw [take_el hj]
  intro x h'
  rcases List.mem_append.1 h' with h' | h'
  · exact h x h'
  · rw [List.mem_singleton.1 h']; exact hx
section
variable {w0 w : World} {b : Nat} {l : Tx}
set_option maxHeartbeats 2000000 in
set_option maxRecDepth 100000 in
theorem wrCode_is {a : Option Addr} {n c : Nat} {q : List Int} (h : WrS w0.heap.size b l w) (bel : Below w0.heap.size w0 w) (hr : Ws .u32 w0 a n c q) (hq : ∀ x ∈ q, 0 ≤ x ∧ x < 4294967296) (hL : LinLaid w0) (hl : l.length ≤ 50000000) (hn : n ≤ 100000) :
    Calls Tryz.prog 29 #[.pointer (some ⟨b, 0, none⟩), .slice a n c] w (CodTo w0.heap.size b l q w) := by
  have H := Lib.hid h
  have HR := Lib.hid hr
  have HL := Lib.hid hL
  have HB := Lib.hid bel
  have HQ := Lib.hid hq
  have hlen := hr.len
  have HS := Lib.hid (WrTo.start h)
  clear h bel hr hL hq
  go_enter Tryz.func29, Tryz.ntmps29
  go_wp2
  go_loopw [13] (fun i wr => ∃ j : Nat, j ≤ n ∧ i = .int .i64 j ∧ WrTo w0.heap.size b (l ++ (q.take j).flatMap insN) w wr ∧ ∀ x ∈ q.take j, cErr x = 0) (fun i _ => n - (intOf i).toNat)
  case atStart => exact ⟨0, Nat.zero_le _, rfl, by simpa using HS.out, fun x hx => by simp at hx⟩
  case round =>
    obtain ⟨j, hj, rfl, R, hok⟩ := hrel
    by_cases hlt : j < n
    · have hlt' : (j : Int) < n := by omega
      have hjl : j < q.length := by omega
      obtain ⟨bb, off, rfl, dd⟩ := (HR.out.keep (HB.out.trans R.below)).lie (by omega)
      have d := dd j hlt
      have hx := HQ.out _ (byAt_mem hjl)
      have hsn := flatS_snoc (f := insN) hjl
      rw [byAt_el] at hsn
      have htl := insN_len hok
      rw [List.length_take] at htl
      have HOK := Lib.hid hok
      have HFF := Lib.hid (fun k => find_first hjl hok k)
      have HNX := Lib.hid (fun k => take_next hjl hok k)
      generalize byAt q j = x at *
      have HSN := Lib.hid hsn
      have RO := Lib.hid R
      have hz := Nat.le_trans HB.out.size R.below.size
      obtain ⟨o, ho⟩ : ∃ z, cO x = z := ⟨_, rfl⟩
      obtain ⟨p0, h0⟩ : ∃ z, cG x 0 = z := ⟨_, rfl⟩
      obtain ⟨p1, h1⟩ : ∃ z, cG x 1 = z := ⟨_, rfl⟩
      obtain ⟨p2, h2⟩ : ∃ z, cG x 2 = z := ⟨_, rfl⟩
      obtain ⟨p3, h3⟩ : ∃ z, cG x 3 = z := ⟨_, rfl⟩
      obtain ⟨z, h4⟩ : ∃ z, cErr x = z := ⟨_, rfl⟩
      have hLr := HL.out.below (HB.out.trans R.below) (Nat.le_refl _)
      have HD := Lib.hid (codeDecode_to (w := wr) ho h0 h1 h2 h3 h4 hLr.shapes hx.1 hx.2)
      have HIN := Lib.hid (fun k => insT_facts (x := x) k)
      rw [ho, h0, h1, h2, h3, h4] at HIN
      rw [h4] at HFF HNX
      by_cases hzz : z = 0
      · subst hzz
        obtain ⟨g1, g2, g3⟩ := HIN.out rfl
        have HNY := Lib.hid (HNX.out rfl)
        clear HNX HIN HFF
        have HLR := Lib.hid hLr
        have HT := Lib.hid (fun W (k : Below wr.heap.size wr W) => lineText_is o p0 p1 p2 p3 0 (txt (insT x)) W g1 g2 (HLR.out.below k (Nat.le_refl _)))
        have HW := Lib.hid (fun W (k : Below wr.heap.size wr W) => wrLine_is w0.heap.size b W.heap.size 1 [insT x] (l ++ (q.take j).flatMap insN) (W.alloc (.cells #[.string (txt (insT x))] 9)) ((R.wr.keep k).keep ((Below.refl _ _).alloc (Nat.le_refl _) _)) (Nat.le_trans hz (Nat.le_trans k.size (by simp))) (one_cells W (insT x)) (by simp) (Nat.le_refl _) (by simp; omega) (by rw [List.length_append]; omega))
        rw [join1, show ([insT x] : List Tx).length = 1 from rfl] at HW
        clear dd hsn R htl hjl hok ho h0 h1 h2 h3 hLr g1 g2 h4
        generalize (q.take j).flatMap insN = S at *
        go_wp2_with (first
          | (go_at_call 61; ((with_reducible refine (HD.out).mono ?_); rintro e w2 ⟨rfl, hk⟩); have HI := Lib.hid (InsW.new wr w2 o p0 p1 p2 p3 68 hk hk.size); have y0 := HI.out.c0; have y1 := HI.out.c1; have y2 := HI.out.c2; have y3 := HI.out.c3; have y4 := HI.out.c4; clear hk)
          | (go_at_call 62; ((with_reducible refine (HT.out _ HI.out.below).mono ?_); rintro e w3 ⟨rfl, hk⟩); have K3 := Lib.hid (HI.out.below.trans (hk.mono HI.out.le)); clear hk)
          | (go_at_call 59; ((with_reducible refine (HW.out _ K3.out).mono ?_); rintro e w5 ⟨rfl, hk⟩); have K5 := Lib.hid hk; clear hk))
        go_round
        case rel =>
          refine ⟨j + 1, by omega, by go_num, ?_, HNY.out⟩
          rw [HSN.out, ← List.append_assoc]
          have k4 := K3.out.trans (((Below.refl w3.heap.size w3).alloc (Nat.le_refl _) (.cells #[.string (txt (insT x))] 9)).mono K3.out.size)
          exact (RO.out.trans (WrTo.of_below RO.out.wr k4 hz)).trans K5.out
        case measure => simp [intOf]; omega
      · have hzb : (z == 0) = false := by simpa using hzz
        have hzb2 : (z != 0) = true := by simpa using hzz
        have hf := HFF.out hzz
        have HF := Lib.hid hf
        have HZ := Lib.hid h4
        clear dd hsn R htl hjl hok ho h0 h1 h2 h3 hLr h4 hf
        go_wp2_with (go_at_call 61; ((with_reducible refine (HD.out).mono ?_); rintro e w2 ⟨rfl, hk⟩); have HI := Lib.hid (InsW.new wr w2 o p0 p1 p2 p3 68 hk hk.size); clear hk)
        go_ret
        unfold CodTo
        rw [HF.out]
        simp only
        rw [HZ.out]
        exact ⟨rfl, RO.out.below.trans (HI.out.below.mono hz)⟩
    · obtain rfl : j = n := by omega
      rw [flatS_all (by omega)] at R
      rw [List.take_of_length_le (by omega)] at hok
      have RO := Lib.hid R
      have hf : q.find? (fun w => decide (cErr w ≠ 0)) = none := List.find?_eq_none.2 fun x hx => by simpa using hok x hx
      have HF := Lib.hid hf
      clear hf hok
      go_wp2
      go_ret
      unfold CodTo
      rw [HF.out]
      exact ⟨rfl, RO.out⟩
end
end

section
open Go.RowKit Go.Lib Go.IntWalk

section
variable {w : World} {a0 a1 a2 a3 a4 : Option Addr} {n0 n1 n2 n3 n4 c0 c1 c2 c3 c4 : Nat} {m : Img}
set_option maxHeartbeats 2000000 in
set_option maxRecDepth 100000 in
theorem souText_no (im : ImgAt w a0 n0 c0 a1 n1 c1 a2 n2 c2 a3 n3 c3 a4 n4 c4 m) (he : chkI m ≠ 0) :
    Calls Tryz.prog 10 #[.agg #[.slice a0 n0 c0, .slice a1 n1 c1, .slice a2 n2 c2, .slice a3 n3 c3, .slice a4 n4 c4]] w (TexTo w m) := by
  have al := (Below.refl w.heap.size w).alloc (Nat.le_refl _) (.cells #[.slice a0 n0 c0, .slice a1 n1 c1, .slice a2 n2 c2, .slice a3 n3 c3, .slice a4 n4 c4] 27)
  have HA := Lib.hid al
  have HC := Lib.hid (imgCheck_is (im.keep al))
  have bx := BlkAt.new w 27 #[.slice a0 n0 c0, .slice a1 n1 c1, .slice a2 n2 c2, .slice a3 n3 c3, .slice a4 n4 c4]
  have x0 := bx.cell 0; have x1 := bx.cell 1; have x2 := bx.cell 2; have x3 := bx.cell 3; have x4 := bx.cell 4
  have ht : texS m = (chkI m, []) := by unfold texS; rw [if_pos he]
  unfold TexTo
  rw [ht]
  obtain ⟨z, hz⟩ : ∃ z, chkI m = z := ⟨_, rfl⟩
  rw [hz] at HC he ⊢
  have hzb : (z != 0) = true := by simpa using he
  clear im he ht hz al bx
  go_enter Tryz.func10, Tryz.ntmps10
  go_wp2_with (go_at_call 21; ((with_reducible refine (HC.out).mono ?_); rintro e w1 ⟨rfl, hk⟩); have K := Lib.hid hk; clear hk)
  go_ret2
  exact ⟨rfl, HA.out.trans (K.out.mono HA.out.size)⟩
theorem text_parts (m : Img) : (linesT m).flatMap (fun l => l ++ [10]) = ((([] ++ (m.data.zip m.sec).flatMap datN) ++ m.inn.flatMap (adrT wIn)) ++ m.out.flatMap (adrT wOut)) ++ m.code.flatMap insN := by
  unfold linesT
  rw [List.flatMap_append, List.flatMap_append, List.flatMap_append, List.flatMap_map, List.flatMap_map, List.flatMap_map, List.flatMap_map, List.nil_append, List.append_assoc, List.append_assoc]
  rfl
set_option maxHeartbeats 4000000 in
set_option maxRecDepth 100000 in
theorem souText_ok (im : ImgAt w a0 n0 c0 a1 n1 c1 a2 n2 c2 a3 n3 c3 a4 n4 c4 m) (hw : WordsI m) (hL : LinLaid w) (he : chkI m = 0) :
    Calls Tryz.prog 10 #[.agg #[.slice a0 n0 c0, .slice a1 n1 c1, .slice a2 n2 c2, .slice a3 n3 c3, .slice a4 n4 c4]] w (TexTo w m) := by
  have hf := fits_ok he hw
  obtain ⟨t1, t2, t3, t4, -⟩ := chk_ok he
  have l0 := im.code.len; have l1 := im.data.len; have l2 := im.sec.len; have l3 := im.inn.len; have l4 := im.out.len
  have e2 : n2 = n1 := by rw [← l2, ← l1]; exact hf.sec
  subst e2
  have al := (Below.refl w.heap.size w).alloc (Nat.le_refl _) (.cells #[.slice a0 n0 c0, .slice a1 n2 c1, .slice a2 n2 c2, .slice a3 n3 c3, .slice a4 n4 c4] 27)
  have HA := Lib.hid al
  have HC := Lib.hid (imgCheck_is (im.keep al))
  have BX := Lib.hid (BlkAt.new w 27 #[.slice a0 n0 c0, .slice a1 n2 c1, .slice a2 n2 c2, .slice a3 n3 c3, .slice a4 n4 c4])
  have x0 := BX.out.cell 0; have x1 := BX.out.cell 1; have x2 := BX.out.cell 2; have x3 := BX.out.cell 3; have x4 := BX.out.cell 4
  rw [he] at HC
  have hd1 := datN_len (q := m.data.zip m.sec) fun x hx => by
    have := hf.data x.1 (List.of_mem_zip hx).1
    omega
  rw [List.length_zip] at hd1
  have hd2 := adr_len (first := wIn) (q := m.inn) (by decide) fun x hx => by have := hf.inn x hx; omega
  have hd3 := adr_len (first := wOut) (q := m.out) (by decide) fun x hx => by have := hf.out x hx; omega
  have F1 := Lib.hid (fun (b : Nat) (W : World) (h : WrS w.heap.size b [] W) (bel : Below w.heap.size w W) => wrData_is h bel im (fun x hx => by have := hf.data x hx; omega) hL (by simp) (by omega))
  have F2 := Lib.hid (fun (b : Nat) (l : Tx) (W : World) (h : WrS w.heap.size b l W) (bel : Below w.heap.size w W) (hl : l.length ≤ 50000000) => wrAddrs_is (first := wIn) h bel im.inn (by decide) (fun x hx => by have := hf.inn x hx; omega) hL hl (by omega))
  have F3 := Lib.hid (fun (b : Nat) (l : Tx) (W : World) (h : WrS w.heap.size b l W) (bel : Below w.heap.size w W) (hl : l.length ≤ 50000000) => wrAddrs_is (first := wOut) h bel im.out (by decide) (fun x hx => by have := hf.out x hx; omega) hL hl (by omega))
  have F4 := Lib.hid (fun (b : Nat) (l : Tx) (W : World) (h : WrS w.heap.size b l W) (bel : Below w.heap.size w W) (hl : l.length ≤ 50000000) => wrCode_is h bel im.code hf.code hL hl (by omega))
  rw [show txt wIn = ⟨#[105, 110]⟩ from rfl] at F2
  rw [show txt wOut = ⟨#[111, 117, 116]⟩ from rfl] at F3
  unfold TexTo
  have ht : texS m = match m.code.find? (fun w => decide (cErr w ≠ 0)) with
    | some w => (cErr w, [])
    | none => (0, (linesT m).flatMap fun l => l ++ [10]) := by unfold texS; rw [if_neg (fun q => q he)]; rfl
  rw [ht, text_parts]
  unfold CodTo at F4
  generalize (m.data.zip m.sec).flatMap datN = T1 at *
  generalize m.inn.flatMap (adrT wIn) = T2 at *
  generalize m.out.flatMap (adrT wOut) = T3 at *
  generalize m.code.flatMap insN = T4 at *
  cases hq : m.code.find? (fun w => decide (cErr w ≠ 0)) with
  | some y =>
    rw [hq] at F4
    simp only at F4 ⊢
    obtain ⟨z, hz⟩ : ∃ z, cErr y = z := ⟨_, rfl⟩
    have hzn : (z != 0) = true := by
      have h9 := List.find?_some hq
      simp only [hz] at h9
      simpa using h9
    rw [hz] at F4 ⊢
    clear hf im hw hL he al ht hq hz
    go_enter Tryz.func10, Tryz.ntmps10
    go_wp2_with (first
      | (go_at_call 21; ((with_reducible refine (HC.out).mono ?_); rintro e w1 ⟨rfl, hk⟩); have hal := (Below.refl w1.heap.size w1).alloc (Nat.le_refl _) (.cells #[.pointer none, .slice none 0 0] 75); have hsz := Nat.le_trans HA.out.size hk.size; have B1 := Lib.hid (HA.out.trans ((hk.trans (hal.mono hk.size)).mono HA.out.size)); have S1 := Lib.hid (WrS.new (B := w.heap.size) w1 hsz); have X1 := Lib.hid ((BX.out.keep hk).keep hal); have z1 := X1.out.cell 0; have z2 := X1.out.cell 1; have z3 := X1.out.cell 2; have z4 := X1.out.cell 3; have z5 := X1.out.cell 4; have hne : w.heap.size ≠ w1.heap.size := (by have := hk.size; simp at this; omega); clear hk hal hsz)
      | (go_at_call 27; ((with_reducible refine (F1.out _ _ S1.out B1.out).mono ?_); rintro e w2 ⟨rfl, hk⟩); have B2 := Lib.hid (B1.out.trans hk.below); have S2 := Lib.hid hk.wr; have X2 := Lib.hid (hk.kept _ _ _ X1.out hne (by decide)); have z6 := X2.out.cell 3; clear hk)
      | (go_at_call 28; ((with_reducible refine (F2.out _ _ _ S2.out B2.out (by rw [List.nil_append]; omega)).mono ?_); rintro e w3 ⟨rfl, hk⟩); have B3 := Lib.hid (B2.out.trans hk.below); have S3 := Lib.hid hk.wr; have X3 := Lib.hid (hk.kept _ _ _ X2.out hne (by decide)); have z7 := X3.out.cell 4; clear hk)
      | (go_at_call 28; ((with_reducible refine (F3.out _ _ _ S3.out B3.out (by rw [List.nil_append, List.length_append]; omega)).mono ?_); rintro e w4 ⟨rfl, hk⟩); have B4 := Lib.hid (B3.out.trans hk.below); have S4 := Lib.hid hk.wr; have X4 := Lib.hid (hk.kept _ _ _ X3.out hne (by decide)); have z8 := X4.out.cell 0; clear hk)
      | (go_at_call 29; ((with_reducible refine (F4.out _ _ _ S4.out B4.out (by rw [List.nil_append, List.length_append, List.length_append]; omega)).mono ?_); rintro e w5 ⟨rfl, hk⟩); have B5 := Lib.hid (B4.out.trans hk); clear hk))
    go_ret2
    exact ⟨rfl, B5.out⟩
  | none =>
    rw [hq] at F4
    simp only at F4 ⊢
    clear hf im hw hL he al ht hq
    go_enter Tryz.func10, Tryz.ntmps10
    go_wp2_with (first
      | (go_at_call 21; ((with_reducible refine (HC.out).mono ?_); rintro e w1 ⟨rfl, hk⟩); have hal := (Below.refl w1.heap.size w1).alloc (Nat.le_refl _) (.cells #[.pointer none, .slice none 0 0] 75); have hsz := Nat.le_trans HA.out.size hk.size; have B1 := Lib.hid (HA.out.trans ((hk.trans (hal.mono hk.size)).mono HA.out.size)); have S1 := Lib.hid (WrS.new (B := w.heap.size) w1 hsz); have X1 := Lib.hid ((BX.out.keep hk).keep hal); have z1 := X1.out.cell 0; have z2 := X1.out.cell 1; have z3 := X1.out.cell 2; have z4 := X1.out.cell 3; have z5 := X1.out.cell 4; have hne : w.heap.size ≠ w1.heap.size := (by have := hk.size; simp at this; omega); clear hk hal hsz)
      | (go_at_call 27; ((with_reducible refine (F1.out _ _ S1.out B1.out).mono ?_); rintro e w2 ⟨rfl, hk⟩); have B2 := Lib.hid (B1.out.trans hk.below); have S2 := Lib.hid hk.wr; have X2 := Lib.hid (hk.kept _ _ _ X1.out hne (by decide)); have z6 := X2.out.cell 3; clear hk)
      | (go_at_call 28; ((with_reducible refine (F2.out _ _ _ S2.out B2.out (by rw [List.nil_append]; omega)).mono ?_); rintro e w3 ⟨rfl, hk⟩); have B3 := Lib.hid (B2.out.trans hk.below); have S3 := Lib.hid hk.wr; have X3 := Lib.hid (hk.kept _ _ _ X2.out hne (by decide)); have z7 := X3.out.cell 4; clear hk)
      | (go_at_call 28; ((with_reducible refine (F3.out _ _ _ S3.out B3.out (by rw [List.nil_append, List.length_append]; omega)).mono ?_); rintro e w4 ⟨rfl, hk⟩); have B4 := Lib.hid (B3.out.trans hk.below); have S4 := Lib.hid hk.wr; have X4 := Lib.hid (hk.kept _ _ _ X3.out hne (by decide)); have z8 := X4.out.cell 0; clear hk)
      | (go_at_call 29; ((with_reducible refine (F4.out _ _ _ S4.out B4.out (by rw [List.nil_append, List.length_append, List.length_append]; omega)).mono ?_); rintro e w5 ⟨rfl, hk⟩); have B5 := Lib.hid (B4.out.trans hk.below); have S5 := Lib.hid hk.wr; clear hk)
      | (go_at_call 30; ((with_reducible refine (wrOut_is _ _ _ _ S5.out).mono ?_); rintro e w6 ⟨rfl, hk⟩); have B6 := Lib.hid (B5.out.trans hk); clear hk))
    go_ret2
    exact ⟨by first | rfl | (simp [List.append_assoc]), B6.out⟩
theorem souText_is (im : ImgAt w a0 n0 c0 a1 n1 c1 a2 n2 c2 a3 n3 c3 a4 n4 c4 m) (hw : WordsI m) (hL : LinLaid w) :
    Calls Tryz.prog 10 #[.agg #[.slice a0 n0 c0, .slice a1 n1 c1, .slice a2 n2 c2, .slice a3 n3 c3, .slice a4 n4 c4]] w (TexTo w m) := by
  by_cases he : chkI m = 0
  · exact souText_ok im hw hL he
  · exact souText_no im he
end
end

end Go.Proofs.YtekhgidbnpfmnaaGreatDoor
