/- What package line's Words, Number and join answer. Conditions: the tables and errors that the program lists lie as its text has them. -/
import Derived.Test.YtheflkhbmbfajaaDoorShelf
import Derived.Test.YtheflkhbmbfajaaDoorLinD
import Derived.Test.YtheflkhbmbfajaaDoorCodC
import Derived.Lib.AppendIntMem
namespace Go.Proofs.YtheflkhbmbfajaaDoor
open Go.RowKit Go.Shelf Go.Sort

/-- A package-level variable of the program holds what it held. -/
theorem var_below {P : Program} {w w' : World} {nm : String} {g B : Nat} {cs : Array Value} (hg : P.globalNamed nm = some g) (h : w.var? P nm = some cs) (hb : Below B w w') (hB : g < B) : w'.var? P nm = some cs := by
  unfold World.var? at *
  rw [hg] at h ⊢
  simp only [Option.bind_some] at h ⊢
  rw [hb.block _ hB]
  exact h
theorem var_lt {P : Program} {w : World} {nm : String} {g : Nat} {cs : Array Value} (hg : P.globalNamed nm = some g) (h : w.var? P nm = some cs) : g < w.heap.size := by
  unfold World.var? at h
  rw [hg] at h
  simp only [Option.bind_some] at h
  by_cases k : g < w.heap.size
  · exact k
  · rw [Array.getElem?_eq_none (by omega)] at h
    cases h
/-- What line's functions read lies in w as the program's text has it. -/
structure LinLaid (w : World) : Prop where
  shapes : ShapesLaid w
  tab : Lib.TabIs Tryd.prog w "internal/strconv.uint64pow10" .u64 Lib.pow10Tab
  syn : ∃ tp p, w.var? Tryd.prog "strconv.ErrSyntax" = some #[.iface tp p]
  rng : ∃ tp p, w.var? Tryd.prog "strconv.ErrRange" = some #[.iface tp p]
theorem LinLaid.below {w0 w : World} {B : Nat} (h : LinLaid w0) (hb : Below B w0 w) (hB : w0.heap.size ≤ B) : LinLaid w := by
  have hb' := hb.mono hB
  obtain ⟨t1, p1, h1⟩ := h.syn
  obtain ⟨t2, p2, h2⟩ := h.rng
  have g0 : Tryd.prog.globalNamed "internal/strconv.uint64pow10" = some 3 := by kernel_rfl
  have g1 : Tryd.prog.globalNamed "strconv.ErrSyntax" = some 1 := by kernel_rfl
  have g2 : Tryd.prog.globalNamed "strconv.ErrRange" = some 2 := by kernel_rfl
  exact ⟨h.shapes.below hb' h.shapes.lt, var_below g0 h.tab hb' (var_lt g0 h.tab), ⟨t1, p1, var_below g1 h1 hb' (var_lt g1 h1)⟩, t2, p2, var_below g2 h2 hb' (var_lt g2 h2)⟩

/-- What a call answers: new texts of its own. -/
def RetStrs (w : World) (l : List ByteArray) (e : Ending) (w' : World) : Prop :=
  ∃ A, e = .returned (.slice (some ⟨A, 0, none⟩) l.length l.length) ∧ w.heap.size ≤ A ∧ w'.ownsRow w.heap.size 9 1 (.slice (some ⟨A, 0, none⟩) l.length l.length) l.length (l.map Value.string) ∧ Below w.heap.size w w'

theorem lineItoa_is (n : Int) (w : World) (h0 : -9223372036854775808 ≤ n) (h1 : n ≤ 9223372036854775807) (hL : LinLaid w) :
    Calls Tryd.prog 31 #[.int .i64 n] w fun e w' => e = .returned (.string (txt (decL n))) ∧ Below w.heap.size w w' := by
  refine (strconv_Itoa n h0 h1 w hL.tab).mono ?_
  rintro e w' ⟨rfl, k, os, rfl⟩
  rw [decL_itoa h0 h1]
  exact ⟨rfl, Lib.below_grow _ _ (Nat.le_refl _) k os⟩
theorem lineClone_is (s : ByteArray) (w : World) (hs : s.size ≤ 281474976710656) :
    Calls Tryd.prog 32 #[.string s] w fun e w' => e = .returned (.string s) ∧ Below w.heap.size w w' := by
  go_enter Tryd.func32, Tryd.ntmps32
  go_wp2_with (go_at_call 48; ((with_reducible refine (stringslite_Clone s _ hs).mono ?_); rintro e w1 ⟨rfl, hb⟩))
  go_ret
  exact ⟨rfl, hb⟩
theorem lineBlank_is (w : World) : PredAtRunes Tryd.prog 34 #[] isBlank w := fun W r hr _ => by
  unfold FnGives
  have hq : ((r : Int) == 32) = isBlank r := by
    unfold isBlank
    by_cases k : r = 32
    · subst k; rfl
    · rw [beq_eq_false_iff_ne.2 k, beq_eq_false_iff_ne]
      omega
  cases k : isBlank r <;> rw [k] at hq
  all_goals
    go_enter Tryd.func34, Tryd.ntmps34
    go_wp2
    go_ret
    exact ⟨rfl, 0, rfl⟩
set_option maxHeartbeats 1000000 in
theorem lineWords_is (s : ByteArray) (w : World) (hs : s.size ≤ 4294967296) :
    Calls Tryd.prog 14 #[.string s] w (RetStrs w (wtx s)) := by
  have hC := fun W => strings_FieldsFunc_runes 34 #[] (enters_of Tryd.func34 (by kernel_rfl) rfl) isBlank s W hs (lineBlank_is W)
  rw [fields_wds] at hC
  have HC := Lib.hid hC
  clear hC
  go_enter Tryd.func14, Tryd.ntmps14
  go_wp2_with (first
    | (go_at_call 32; ((with_reducible refine (lineClone_is s _ (by omega)).mono ?_); rintro e w1 ⟨rfl, hb⟩); have HB := Lib.hid hb; clear hb)
    | (go_at_call 33; (refine (HC.out _).mono ?_); rintro e w2 ⟨A, rfl, hA, hown, hb2⟩; have H2 := Lib.hid (And.intro hA (And.intro hown hb2)); clear hA hown hb2))
  go_ret
  obtain ⟨hA, hown, hb2⟩ := H2.out
  refine ⟨A, rfl, Nat.le_trans HB.out.size hA, ?_, HB.out.trans (hb2.mono HB.out.size)⟩
  refine ⟨hown.1, hown.2.imp id ?_⟩
  rintro ⟨g, cap, cur, e1, e2, e3⟩
  exact ⟨g, cap, cur, e1, Nat.le_trans HB.out.size e2, e3⟩
theorem lineJoin_is (bk c : Nat) (xs : List ByteArray) (w : World) (l : List UInt8) (hl : Lib.join (xs.map (·.data.toList)) [32] = l) (hcells : ∀ (j : Nat) x, xs[j]? = some x → w.cell? ⟨bk, j, none⟩ = some (.string x)) (hbk : bk < w.heap.size) (hN : xs.length ≤ 1000) (hcap : xs.length ≤ c) (hlen : l.length ≤ 140737488355328) :
    Calls Tryd.prog 22 #[.slice (some ⟨bk, 0, none⟩) xs.length c] w fun e w' => e = .returned (.string (txt l)) ∧ Below w.heap.size w w' := by
  subst hl
  have hC := Lib.hid (strings_Join bk 0 c xs ⟨#[32]⟩ w (by simpa using hcells) hbk (by omega) hcap hlen)
  go_enter Tryd.func22, Tryd.ntmps22
  go_wp2_with (go_at_call 40; (refine hC.out.mono ?_); rintro e w1 ⟨rfl, hb⟩)
  go_ret
  exact ⟨rfl, hb⟩
/-- What Number answers. -/
def RetNum (w : World) (l : List UInt8) (e : Ending) (w' : World) : Prop := e = .returned (.tuple #[.int .i64 (numV l), .bool (numOk l)]) ∧ Below w.heap.size w w'
theorem lineAtoi_ok (l : List UInt8) (v : Int) (w : World) (hl : l.length ≤ 281474976710656) (h : Lib.atoiAll l = .ok v) :
    Calls Tryd.prog 30 #[.string (txt l)] w fun e w' => e = .returned (.tuple #[.int .i64 v, .nilIface]) ∧ Below w.heap.size w w' := by
  refine (strconv_Atoi_ok (txt l) (by rw [txt_size]; omega) v (by rw [txt_list]; exact h) w).mono ?_
  rintro e w' ⟨rfl, rfl | ⟨t, rfl⟩⟩
  · exact ⟨rfl, Below.refl _ _⟩
  · exact ⟨rfl, Lib.bytesWorld_below _ _ _⟩
set_option maxHeartbeats 1000000 in
theorem lineNumber_is (l : List UInt8) (s : ByteArray) (w : World) (hs : s = txt l) (hl : l.length ≤ 281474976710656) (hL : LinLaid w) :
    Calls Tryd.prog 11 #[.string s] w (RetNum w l) := by
  subst hs
  have hsz : (txt l).size ≤ 281474976710656 := by rw [txt_size]; exact hl
  have HL := Lib.hid hL
  clear hL
  unfold RetNum
  cases h : Lib.atoiAll l
  · rename_i v
    have hA := Lib.hid (fun W => lineAtoi_ok l v W hl h)
    have hk := num_atoi h
    have hbd := Lib.atoiAll_bounds h
    by_cases k1 : v < -999999999
    · have hn : numOk l = false := by rw [hk]; simp; omega
      rw [num_no hn, hn]
      have k1' : decide (v < -999999999) = true := by simpa using k1
      clear hk h hn
      go_enter Tryd.func11, Tryd.ntmps11
      go_wp2_with (go_at_call 30; (refine (hA.out _).mono ?_); rintro e w1 ⟨rfl, hb⟩; have HB := Lib.hid hb; clear hb)
      go_ret2
      exact ⟨rfl, HB.out⟩
    · by_cases k2 : 999999999 < v
      · have hn : numOk l = false := by rw [hk]; simp; omega
        rw [num_no hn, hn]
        clear hk h hn
        go_enter Tryd.func11, Tryd.ntmps11
        go_wp2_with (go_at_call 30; (refine (hA.out _).mono ?_); rintro e w1 ⟨rfl, hb⟩; have HB := Lib.hid hb; clear hb)
        go_ret2
        exact ⟨rfl, HB.out⟩
      · have k1' : -999999999 ≤ v := by omega
        have k2' : v ≤ 999999999 := by omega
        by_cases k3 : decL v = l
        · have hn := num_is k1' k2' k3
          rw [hn.2, hn.1]
          have k4 := str_same (congrArg txt k3)
          clear hk h hn k1 k2
          have K3 := Lib.hid k3
          clear k3
          go_enter Tryd.func11, Tryd.ntmps11
          go_wp2_with (first
            | (go_at_call 30; (refine (hA.out _).mono ?_); rintro e w1 ⟨rfl, hb⟩; have HB := Lib.hid hb; clear hb)
            | (go_at_call 31; ((with_reducible refine (lineItoa_is v _ (by omega) (by omega) (HL.out.below HB.out (Nat.le_refl _))).mono ?_); rintro e w2 ⟨rfl, hb2⟩); have HB2 := Lib.hid hb2; clear hb2))
          go_ret2
          exact ⟨rfl, HB.out.trans (HB2.out.mono HB.out.size)⟩
        · have hn : numOk l = false := by rw [hk]; simp [k3]
          rw [num_no hn, hn]
          have k4 := str_apart (fun e => k3 (txt_inj e))
          clear hk h hn k1 k2
          have K3 := Lib.hid k3
          clear k3
          go_enter Tryd.func11, Tryd.ntmps11
          go_wp2_with (first
            | (go_at_call 30; (refine (hA.out _).mono ?_); rintro e w1 ⟨rfl, hb⟩; have HB := Lib.hid hb; clear hb)
            | (go_at_call 31; ((with_reducible refine (lineItoa_is v _ (by omega) (by omega) (HL.out.below HB.out (Nat.le_refl _))).mono ?_); rintro e w2 ⟨rfl, hb2⟩); have HB2 := Lib.hid hb2; clear hb2))
          go_ret2
          exact ⟨rfl, HB.out.trans (HB2.out.mono HB.out.size)⟩
  · obtain ⟨tp, p, hv⟩ := HL.out.syn
    have hA := Lib.hid (Any.strconv_Atoi_syntax_var laysC172 (txt l) hsz (by rw [txt_list]; exact h) tp p w hv)
    have hn := num_fail (l := l) (by rw [h]; rintro n h; cases h)
    rw [num_no hn, hn]
    clear h hn hv
    go_enter Tryd.func11, Tryd.ntmps11
    go_wp2_with (go_at_call 30; (refine hA.out.mono ?_); rintro e w1 ⟨N, rfl, hN, hx, hb⟩; have HB := Lib.hid hb; clear hb hx hN)
    go_ret2
    exact ⟨rfl, HB.out⟩
  · obtain ⟨tp, p, hv⟩ := HL.out.rng
    have hA := Lib.hid (Any.strconv_Atoi_range_var laysC172 (txt l) hsz (by rw [txt_list]; exact h) tp p w hv)
    have hn := num_fail (l := l) (by rw [h]; rintro n h; cases h)
    rw [num_no hn, hn]
    clear h hn hv
    go_enter Tryd.func11, Tryd.ntmps11
    go_wp2_with (go_at_call 30; (refine hA.out.mono ?_); rintro e w1 ⟨N, rfl, hN, hx, hb⟩; have HB := Lib.hid hb; clear hb hx hN)
    go_ret2
    exact ⟨rfl, HB.out⟩
end Go.Proofs.YtheflkhbmbfajaaDoor
