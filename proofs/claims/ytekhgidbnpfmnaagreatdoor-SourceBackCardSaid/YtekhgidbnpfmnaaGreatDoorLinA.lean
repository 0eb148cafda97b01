/- Package line: Words, Number, join; the reader of a line; Parse. Conditions: the tables and errors that the program lists lie as its text has them. -/
import Derived.Test.YtekhgidbnpfmnaaGreatDoorShelf
import Derived.Test.YtekhgidbnpfmnaaGreatDoorLinN
import Derived.Test.YtekhgidbnpfmnaaGreatDoorCodC
import Derived.Lib.AppendIntMem
import Derived.Test.YtekhgidbnpfmnaaGreatDoorMem
import Derived.Lib.OthersKept
import Derived.Lib.Hide
import Derived.Test.YtekhgidbnpfmnaaGreatDoorOpsN
import Derived.Test.YtekhgidbnpfmnaaGreatDoorCodE
namespace Go.Proofs.YtekhgidbnpfmnaaGreatDoor
open Go.RowKit

section
open Go.RowKit Go.Shelf Go.Sort

/-- A package-level variable of the program holds what it held. -/
theorem var_below {P : Program} {w w' : World} {nm : String} {g B : Nat} {cs : Array Value} (hg : P.globalNamed nm = some g) (h : w.var? P nm = some cs) (hb : Below B w w') (hB : g < B) : w'.var? P nm = some cs := by
  unfold World.var? at *
  rw [hg] at h ⊢
  simp only [Option.bind_some] at h ⊢
  rw [hb.block _ hB]
  exact h
theorem var_lt {P : Program} {w : World} {nm : String} {g : Nat} {cs : Array Value} (hg : P.globalNamed nm = some g) (h : w.var? P nm = some cs) : g < w.heap.size := by
  unfold World.var? at h
  rw [hg] at h
  simp only [Option.bind_some] at h
  by_cases k : g < w.heap.size
  · exact k
  · rw [Array.getElem?_eq_none (by omega)] at h
    cases h
/-- What line's functions read lies in w as the program's text has it. -/
structure LinLaid (w : World) : Prop where
  shapes : ShapesLaid w
  tab : Lib.TabIs Tryz.prog w "internal/strconv.uint64pow10" .u64 Lib.pow10Tab
  syn : ∃ tp p, w.var? Tryz.prog "strconv.ErrSyntax" = some #[.iface tp p]
  rng : ∃ tp p, w.var? Tryz.prog "strconv.ErrRange" = some #[.iface tp p]
theorem LinLaid.below {w0 w : World} {B : Nat} (h : LinLaid w0) (hb : Below B w0 w) (hB : w0.heap.size ≤ B) : LinLaid w := by
  have hb' := hb.mono hB
  obtain ⟨t1, p1, h1⟩ := h.syn
  obtain ⟨t2, p2, h2⟩ := h.rng
  have g0 : Tryz.prog.globalNamed "internal/strconv.uint64pow10" = some 2 := by kernel_rfl
  have g1 : Tryz.prog.globalNamed "strconv.ErrSyntax" = some 5 := by kernel_rfl
  have g2 : Tryz.prog.globalNamed "strconv.ErrRange" = some 6 := by kernel_rfl
  exact ⟨h.shapes.below hb' h.shapes.lt, var_below g0 h.tab hb' (var_lt g0 h.tab), ⟨t1, p1, var_below g1 h1 hb' (var_lt g1 h1)⟩, t2, p2, var_below g2 h2 hb' (var_lt g2 h2)⟩

/-- What a call answers: new texts of its own. -/
def RetStrs (w : World) (l : List ByteArray) (e : Ending) (w' : World) : Prop :=
  ∃ A, e = .returned (.slice (some ⟨A, 0, none⟩) l.length l.length) ∧ w.heap.size ≤ A ∧ w'.ownsRow w.heap.size 9 1 (.slice (some ⟨A, 0, none⟩) l.length l.length) l.length (l.map Value.string) ∧ Below w.heap.size w w'

theorem lineItoa_is (n : Int) (w : World) (h0 : -9223372036854775808 ≤ n) (h1 : n ≤ 9223372036854775807) (hL : LinLaid w) :
    Calls Tryz.prog 60 #[.int .i64 n] w fun e w' => e = .returned (.string (txt (decL n))) ∧ Below w.heap.size w w' := by
  refine (strconv_Itoa n h0 h1 w hL.tab).mono ?_
  rintro e w' ⟨rfl, k, os, rfl⟩
  rw [decL_itoa h0 h1]
  exact ⟨rfl, Lib.below_grow _ _ (Nat.le_refl _) k os⟩
theorem lineClone_is (s : ByteArray) (w : World) (hs : s.size ≤ 281474976710656) :
    Calls Tryz.prog 45 #[.string s] w fun e w' => e = .returned (.string s) ∧ Below w.heap.size w w' := by
  go_enter Tryz.func45, Tryz.ntmps45
  go_wp2_with (go_at_call 79; ((with_reducible refine (stringslite_Clone s _ hs).mono ?_); rintro e w1 ⟨rfl, hb⟩))
  go_ret
  exact ⟨rfl, hb⟩
theorem lineBlank_is (w : World) : PredAtRunes Tryz.prog 47 #[] isBlank w := fun W r hr _ => by
  unfold FnGives
  have hq : ((r : Int) == 32) = isBlank r := by
    unfold isBlank
    by_cases k : r = 32
    · subst k; rfl
    · rw [beq_eq_false_iff_ne.2 k, beq_eq_false_iff_ne]
      omega
  cases k : isBlank r <;> rw [k] at hq
  all_goals
    go_enter Tryz.func47, Tryz.ntmps47
    go_wp2
    go_ret
    exact ⟨rfl, 0, rfl⟩
set_option maxHeartbeats 1000000 in
theorem lineWords_is (s : ByteArray) (w : World) (hs : s.size ≤ 4294967296) :
    Calls Tryz.prog 19 #[.string s] w (RetStrs w (wtx s)) := by
  have hC := fun W => strings_FieldsFunc_runes 47 #[] (enters_of Tryz.func47 (by kernel_rfl) rfl) isBlank s W hs (lineBlank_is W)
  rw [fields_wds] at hC
  have HC := Lib.hid hC
  clear hC
  go_enter Tryz.func19, Tryz.ntmps19
  go_wp2_with (first
    | (go_at_call 45; ((with_reducible refine (lineClone_is s _ (by omega)).mono ?_); rintro e w1 ⟨rfl, hb⟩); have HB := Lib.hid hb; clear hb)
    | (go_at_call 46; (refine (HC.out _).mono ?_); rintro e w2 ⟨A, rfl, hA, hown, hb2⟩; have H2 := Lib.hid (And.intro hA (And.intro hown hb2)); clear hA hown hb2))
  go_ret
  obtain ⟨hA, hown, hb2⟩ := H2.out
  refine ⟨A, rfl, Nat.le_trans HB.out.size hA, ?_, HB.out.trans (hb2.mono HB.out.size)⟩
  refine ⟨hown.1, hown.2.imp id ?_⟩
  rintro ⟨g, cap, cur, e1, e2, e3⟩
  exact ⟨g, cap, cur, e1, Nat.le_trans HB.out.size e2, e3⟩
theorem lineJoin_is (bk c : Nat) (xs : List ByteArray) (w : World) (l : List UInt8) (hl : Lib.join (xs.map (·.data.toList)) [32] = l) (hcells : ∀ (j : Nat) x, xs[j]? = some x → w.cell? ⟨bk, j, none⟩ = some (.string x)) (hbk : bk < w.heap.size) (hN : xs.length ≤ 1000) (hcap : xs.length ≤ c) (hlen : l.length ≤ 140737488355328) :
    Calls Tryz.prog 100 #[.slice (some ⟨bk, 0, none⟩) xs.length c] w fun e w' => e = .returned (.string (txt l)) ∧ Below w.heap.size w w' := by
  subst hl
  have hC := Lib.hid (strings_Join bk 0 c xs ⟨#[32]⟩ w (by simpa using hcells) hbk (by omega) hcap hlen)
  go_enter Tryz.func100, Tryz.ntmps100
  go_wp2_with (go_at_call 89; (refine hC.out.mono ?_); rintro e w1 ⟨rfl, hb⟩)
  go_ret
  exact ⟨rfl, hb⟩
/-- What Number answers. -/
def RetNum (w : World) (l : List UInt8) (e : Ending) (w' : World) : Prop := e = .returned (.tuple #[.int .i64 (numV l), .bool (numOk l)]) ∧ Below w.heap.size w w'
theorem lineAtoi_ok (l : List UInt8) (v : Int) (w : World) (hl : l.length ≤ 281474976710656) (h : Lib.atoiAll l = .ok v) :
    Calls Tryz.prog 154 #[.string (txt l)] w fun e w' => e = .returned (.tuple #[.int .i64 v, .nilIface]) ∧ Below w.heap.size w w' := by
  refine (strconv_Atoi_ok (txt l) (by rw [txt_size]; omega) v (by rw [txt_list]; exact h) w).mono ?_
  rintro e w' ⟨rfl, rfl | ⟨t, rfl⟩⟩
  · exact ⟨rfl, Below.refl _ _⟩
  · exact ⟨rfl, Lib.bytesWorld_below _ _ _⟩
set_option maxHeartbeats 1000000 in
theorem lineNumber_is (l : List UInt8) (s : ByteArray) (w : World) (hs : s = txt l) (hl : l.length ≤ 281474976710656) (hL : LinLaid w) :
    Calls Tryz.prog 136 #[.string s] w (RetNum w l) := by
  subst hs
  have hsz : (txt l).size ≤ 281474976710656 := by rw [txt_size]; exact hl
  have HL := Lib.hid hL
  clear hL
  unfold RetNum
  cases h : Lib.atoiAll l
  · rename_i v
    have hA := Lib.hid (fun W => lineAtoi_ok l v W hl h)
    have hk := num_atoi h
    have hbd := Lib.atoiAll_bounds h
    by_cases k1 : v < -999999999
    · have hn : numOk l = false := by rw [hk]; simp; omega
      rw [num_no hn, hn]
      have k1' : decide (v < -999999999) = true := by simpa using k1
      clear hk h hn
      go_enter Tryz.func136, Tryz.ntmps136
      go_wp2_with (go_at_call 154; (refine (hA.out _).mono ?_); rintro e w1 ⟨rfl, hb⟩; have HB := Lib.hid hb; clear hb)
      go_ret2
      exact ⟨rfl, HB.out⟩
    · by_cases k2 : 999999999 < v
      · have hn : numOk l = false := by rw [hk]; simp; omega
        rw [num_no hn, hn]
        clear hk h hn
        go_enter Tryz.func136, Tryz.ntmps136
        go_wp2_with (go_at_call 154; (refine (hA.out _).mono ?_); rintro e w1 ⟨rfl, hb⟩; have HB := Lib.hid hb; clear hb)
        go_ret2
        exact ⟨rfl, HB.out⟩
      · have k1' : -999999999 ≤ v := by omega
        have k2' : v ≤ 999999999 := by omega
        by_cases k3 : decL v = l
        · have hn := num_is k1' k2' k3
          rw [hn.2, hn.1]
          have k4 := str_same (congrArg txt k3)
          clear hk h hn k1 k2
          have K3 := Lib.hid k3
          clear k3
          go_enter Tryz.func136, Tryz.ntmps136
          go_wp2_with (first
            | (go_at_call 154; (refine (hA.out _).mono ?_); rintro e w1 ⟨rfl, hb⟩; have HB := Lib.hid hb; clear hb)
            | (go_at_call 60; ((with_reducible refine (lineItoa_is v _ (by omega) (by omega) (HL.out.below HB.out (Nat.le_refl _))).mono ?_); rintro e w2 ⟨rfl, hb2⟩); have HB2 := Lib.hid hb2; clear hb2))
          go_ret2
          exact ⟨rfl, HB.out.trans (HB2.out.mono HB.out.size)⟩
        · have hn : numOk l = false := by rw [hk]; simp [k3]
          rw [num_no hn, hn]
          have k4 := str_apart (fun e => k3 (txt_inj e))
          clear hk h hn k1 k2
          have K3 := Lib.hid k3
          clear k3
          go_enter Tryz.func136, Tryz.ntmps136
          go_wp2_with (first
            | (go_at_call 154; (refine (hA.out _).mono ?_); rintro e w1 ⟨rfl, hb⟩; have HB := Lib.hid hb; clear hb)
            | (go_at_call 60; ((with_reducible refine (lineItoa_is v _ (by omega) (by omega) (HL.out.below HB.out (Nat.le_refl _))).mono ?_); rintro e w2 ⟨rfl, hb2⟩); have HB2 := Lib.hid hb2; clear hb2))
          go_ret2
          exact ⟨rfl, HB.out.trans (HB2.out.mono HB.out.size)⟩
  · obtain ⟨tp, p, hv⟩ := HL.out.syn
    have hA := Lib.hid (Any.strconv_Atoi_syntax_var laysC172 (txt l) hsz (by rw [txt_list]; exact h) tp p w hv)
    have hn := num_fail (l := l) (by rw [h]; rintro n h; cases h)
    rw [num_no hn, hn]
    clear h hn hv
    go_enter Tryz.func136, Tryz.ntmps136
    go_wp2_with (go_at_call 154; (refine hA.out.mono ?_); rintro e w1 ⟨N, rfl, hN, hx, hb⟩; have HB := Lib.hid hb; clear hb hx hN)
    go_ret2
    exact ⟨rfl, HB.out⟩
  · obtain ⟨tp, p, hv⟩ := HL.out.rng
    have hA := Lib.hid (Any.strconv_Atoi_range_var laysC172 (txt l) hsz (by rw [txt_list]; exact h) tp p w hv)
    have hn := num_fail (l := l) (by rw [h]; rintro n h; cases h)
    rw [num_no hn, hn]
    clear h hn hv
    go_enter Tryz.func136, Tryz.ntmps136
    go_wp2_with (go_at_call 154; (refine hA.out.mono ?_); rintro e w1 ⟨N, rfl, hN, hx, hb⟩; have HB := Lib.hid hb; clear hb hx hN)
    go_ret2
    exact ⟨rfl, HB.out⟩
end

section
open Go.RowKit Go.Shelf

/-- The words that are left: of n in block A, the last m. -/
def remV (A n m : Nat) : Value := .slice (some ⟨A, if m = 0 then n - 1 else n - m, none⟩) m m
/-- A reader's cells. -/
def rdC (o d a b n : Int) (v : Value) : Array Value := #[.int .i64 o, .int .i64 d, .int .i64 a, .int .i64 b, .int .i64 n, v]
theorem lineNext_none (B A n : Nat) (cs : Array Value) (w : World) (h : BlkAt B 149 cs w) (h5 : cs[5]? = some (remV A n 0)) :
    Calls Tryz.prog 155 #[.pointer (some ⟨B, 0, none⟩)] w fun e w' => e = .returned (.string ⟨#[]⟩) ∧ w = w' := by
  have c5 := (h.cell 5).trans h5
  unfold remV at c5
  go_enter Tryz.func155, Tryz.ntmps155
  go_wp2
  go_ret
  exact ⟨rfl, rfl⟩
set_option maxHeartbeats 1000000 in
theorem lineNext_some (B A off k : Nat) (x : ByteArray) (cs : Array Value) (w : World) (h : BlkAt B 149 cs w) (h5 : cs[5]? = some (.slice (some ⟨A, off, none⟩) (k + 1) (k + 1))) (hx : w.cell? ⟨A, off, none⟩ = some (.string x)) (hk : k < 1000000) :
    Calls Tryz.prog 155 #[.pointer (some ⟨B, 0, none⟩)] w fun e w' => e = .returned (.string x) ∧ w' = w.setCell ⟨B, 5, none⟩ (.slice (some ⟨A, if k = 0 then off else off + 1, none⟩) k k) := by
  have c5 := (h.cell 5).trans h5
  have f5 := h.free 5
  by_cases k0 : k = 0
  · subst k0
    go_enter Tryz.func155, Tryz.ntmps155
    go_wp2
    go_ret
    exact ⟨rfl, rfl⟩
  · rw [if_neg k0]
    go_enter Tryz.func155, Tryz.ntmps155
    go_wp2
    go_ret
    exact ⟨rfl, rfl⟩

/-- The operands' words that are left behind the first u. -/
def opsV (A : Nat) (ops : List (List UInt8)) (u : Nat) : Value := remV A (ops.length + 1) (ops.length - u)
theorem set_same {cs : Array Value} {k : Nat} {v : Value} (h : cs[k]? = some v) : cs.setIfInBounds k v = cs := by
  obtain ⟨hk, rfl⟩ := Array.getElem?_eq_some_iff.1 h
  apply Array.ext
  · simp
  · intro i h1 h2
    rw [Array.getElem_setIfInBounds]
    split
    · rename_i e
      subst e; rfl
    · rfl
theorem set_off {cs : Array Value} {off : Nat} {y : Value} (v : Value) (ho : off < 5) (hy : cs[off]? = some y) : (cs.setIfInBounds 5 v)[off]? = some y := by
  rw [Array.getElem?_setIfInBounds_ne (by omega)]
  exact hy
/-- What has been done in a reader's block. -/
def Did (B : Nat) (w : World) (v : Value) (cs' : Array Value) (e : Ending) (w' : World) : Prop := e = .returned v ∧ OnlyB B w w' ∧ BlkAt B 149 cs' w'
theorem lineNext_is (B A u : Nat) (ops : List (List UInt8)) (cs : Array Value) (w : World) (h : BlkAt B 149 cs w) (h5 : cs[5]? = some (opsV A ops u)) (hA : ∀ j x, ops[j]? = some x → w.cell? ⟨A, j + 1, none⟩ = some (.string (txt x))) (hl : ops.length < 1000000) :
    Calls Tryz.prog 155 #[.pointer (some ⟨B, 0, none⟩)] w (Did B w (.string (txt (wAt ops u))) (cs.setIfInBounds 5 (opsV A ops (u + 1)))) := by
  by_cases k : ops.length ≤ u
  · have e0 : ops.length - u = 0 := by omega
    have e1 : ops.length - (u + 1) = 0 := by omega
    have ew : wAt ops u = [] := by unfold wAt; rw [List.getD_eq_getElem?_getD, List.getElem?_eq_none k]; rfl
    unfold opsV at *
    rw [e0] at h5
    refine (lineNext_none B A (ops.length + 1) cs w h h5).mono ?_
    rintro e w' ⟨rfl, rfl⟩
    rw [ew, e1, set_same h5]
    exact ⟨rfl, .refl _ _, h⟩
  · have hu : u < ops.length := by omega
    obtain ⟨j, hj⟩ : ∃ j, ops.length - u = j + 1 := ⟨ops.length - u - 1, by omega⟩
    have e1 : ops.length - (u + 1) = j := by omega
    have hx : ops[u]? = some ops[u] := List.getElem?_eq_getElem hu
    have ew : wAt ops u = ops[u] := by unfold wAt; rw [List.getD_eq_getElem?_getD, hx]; rfl
    unfold opsV remV at *
    rw [hj, if_neg (Nat.succ_ne_zero j), show ops.length + 1 - (j + 1) = u + 1 by omega] at h5
    refine (lineNext_some B A (u + 1) j (txt ops[u]) cs w h h5 (hA u _ hx) (by omega)).mono ?_
    rintro e w' ⟨rfl, rfl⟩
    rw [ew, e1]
    have ev : (if j = 0 then ops.length + 1 - 1 else ops.length + 1 - j) = (if j = 0 then u + 1 else u + 1 + 1) := by split <;> omega
    rw [ev]
    exact ⟨rfl, .set _ _ _ _, h.set _ _⟩
theorem lineCut_is (l : List UInt8) (w : World) :
    Calls Tryz.prog 107 #[.string (txt l), .string ⟨#[114]⟩] w fun e w' => e = .returned (.tuple #[.string (txt (Lib.trimPrefix l [114])), .bool (Lib.hasPrefix l [114])]) ∧ w = w' := by
  refine (strings_CutPrefix (txt l) ⟨#[114]⟩ w).mono ?_
  rintro e w' ⟨rfl, rfl⟩
  rw [txt_list]
  exact ⟨rfl, rfl⟩
theorem trim_le (l : List UInt8) : (Lib.trimPrefix l [114]).length ≤ l.length := by unfold Lib.trimPrefix; split <;> simp
theorem wAt_le {ops : List (List UInt8)} {m : Nat} (h : ∀ x ∈ ops, x.length ≤ m) (u : Nat) : (wAt ops u).length ≤ m := by
  unfold wAt
  rw [List.getD_eq_getElem?_getD]
  by_cases k : u < ops.length
  · rw [List.getElem?_eq_getElem k]
    exact h _ (List.getElem_mem k)
  · rw [List.getElem?_eq_none (by omega)]
    simp
set_option maxHeartbeats 1000000 in
theorem lineTakeNum_is (B A u off : Nat) (y : Int) (ops : List (List UInt8)) (cs : Array Value) (w w0 : World) (h : BlkAt B 149 cs w) (h5 : cs[5]? = some (opsV A ops u)) (hA : ∀ j x, ops[j]? = some x → w.cell? ⟨A, j + 1, none⟩ = some (.string (txt x)))
    (hl : ops.length < 1000000) (hw : ∀ x ∈ ops, x.length ≤ 4294967296) (hL : LinLaid w0) (hb : Below w0.heap.size w0 w) (hB : w0.heap.size ≤ B) (ho : off < 5) (hy : cs[off]? = some (.int .i64 y)) :
    Calls Tryz.prog 143 #[.pointer (some ⟨B, 0, none⟩), .pointer (some ⟨B, off, none⟩)] w (Did B w (.bool (numOk (wAt ops u))) ((cs.setIfInBounds 5 (opsV A ops (u + 1))).setIfInBounds off (.int .i64 (numV (wAt ops u))))) := by
  have HA := Lib.hid hA
  have HW := Lib.hid (wAt_le hw u)
  have HY := Lib.hid (fun v => set_off v ho hy)
  have H5 := Lib.hid h5
  have HH := Lib.hid h
  clear hA h5 hw hy
  generalize hlw : wAt ops u = l
  rw [hlw] at HW
  have HLW := Lib.hid hlw
  clear hlw
  go_enter Tryz.func143, Tryz.ntmps143
  go_wp2_with (first
    | (go_at_call 155; ((with_reducible refine (lineNext_is B A u ops cs _ HH.out H5.out HA.out hl).mono ?_); rintro e w1 ⟨rfl, hq, hk⟩); rw [HLW.out]; have HO := Lib.hid hq; have HK := Lib.hid hk; have HB1 := Lib.hid (hq.below hb hB hb.size); clear hq hk)
    | (go_at_call 136; ((with_reducible refine (lineNumber_is l _ _ rfl (by have := HW.out; omega) (hL.below HB1.out (Nat.le_refl _))).mono ?_); rintro e w2 ⟨rfl, hb2⟩); have HO2 := Lib.hid (HO.out.on hb2); have HK2 := Lib.hid (HK.out.keep hb2); have hf := HK2.out.free off; have hx := (HK2.out.cell off).trans (HY.out _); clear hb2))
  all_goals (go_ret; exact ⟨rfl, HO2.out.next off _, HK2.out.set off _⟩)
set_option maxHeartbeats 2000000 in
theorem lineTakeReg_is (B A u off : Nat) (y : Int) (ops : List (List UInt8)) (cs : Array Value) (w w0 : World) (h : BlkAt B 149 cs w) (h5 : cs[5]? = some (opsV A ops u)) (hA : ∀ j x, ops[j]? = some x → w.cell? ⟨A, j + 1, none⟩ = some (.string (txt x)))
    (hl : ops.length < 1000000) (hw : ∀ x ∈ ops, x.length ≤ 4294967296) (hL : LinLaid w0) (hb : Below w0.heap.size w0 w) (hB : w0.heap.size ≤ B) (ho : off < 5) (hy : cs[off]? = some (.int .i64 y)) :
    Calls Tryz.prog 142 #[.pointer (some ⟨B, 0, none⟩), .pointer (some ⟨B, off, none⟩)] w (Did B w (.bool (regOk (wAt ops u))) ((cs.setIfInBounds 5 (opsV A ops (u + 1))).setIfInBounds off (.int .i64 (regV (wAt ops u))))) := by
  have HA := Lib.hid hA
  have HW := Lib.hid (Nat.le_trans (trim_le _) (wAt_le hw u))
  have HY := Lib.hid (fun v => set_off v ho hy)
  have H5 := Lib.hid h5
  have HH := Lib.hid h
  clear hA h5 hw hy
  unfold regV
  generalize hlw : wAt ops u = l
  rw [hlw] at HW
  have HLW := Lib.hid hlw
  clear hlw
  obtain ⟨mk, hmk⟩ : ∃ x, Lib.hasPrefix l [114] = x := ⟨_, rfl⟩
  obtain ⟨ok, hok⟩ : ∃ x, numOk (Lib.trimPrefix l [114]) = x := ⟨_, rfl⟩
  obtain ⟨nv, hnv⟩ : ∃ x, numV (Lib.trimPrefix l [114]) = x := ⟨_, rfl⟩
  obtain ⟨z, hz⟩ : ∃ x, regOk l = x := ⟨_, rfl⟩
  rw [hnv, hz]
  unfold regOk at hz
  rw [hmk, hok] at hz
  have HMK := Lib.hid hmk
  have HN := Lib.hid (fun w (e : Ending) w' => show RetNum w (Lib.trimPrefix l [114]) e w' → e = .returned (.tuple #[.int .i64 nv, .bool ok]) ∧ Below w.heap.size w w' by rw [← hok, ← hnv]; exact id)
  clear hmk hok hnv
  cases mk <;> cases ok
  all_goals
    simp at hz
    subst hz
  all_goals
    go_enter Tryz.func142, Tryz.ntmps142
    go_wp2_with (first
      | (go_at_call 155; ((with_reducible refine (lineNext_is B A u ops cs _ HH.out H5.out HA.out hl).mono ?_); rintro e w1 ⟨rfl, hq, hk⟩); rw [HLW.out]; have HO := Lib.hid hq; have HK := Lib.hid hk; have HB1 := Lib.hid (hq.below hb hB hb.size); clear hq hk)
      | (go_at_call 107; ((with_reducible refine (lineCut_is l _).mono ?_); rintro e w2 ⟨rfl, rfl⟩); rw [HMK.out])
      | (go_at_call 136; ((with_reducible refine (lineNumber_is (Lib.trimPrefix l [114]) _ _ rfl (by have := HW.out; omega) (hL.below HB1.out (Nat.le_refl _))).mono ?_); intro e w2 hr2); replace hr2 := HN.out _ _ _ hr2; obtain ⟨rfl, hb2⟩ := hr2; have HO2 := Lib.hid (HO.out.on hb2); have HK2 := Lib.hid (HK.out.keep hb2); have hf := HK2.out.free off; have hx := (HK2.out.cell off).trans (HY.out _); clear hb2))
    go_ret
    exact ⟨rfl, HO2.out.next off _, HK2.out.set off _⟩
/-- The reader's own methods as values. -/
def takeR (B : Nat) : Value := .func (.func 142) #[.pointer (some ⟨B, 0, none⟩)] #[]
def takeN (B : Nat) : Value := .func (.func 143) #[.pointer (some ⟨B, 0, none⟩)] #[]
set_option maxHeartbeats 4000000 in
theorem lineTakeOne_is (B A u off : Nat) (c y : Int) (ops : List (List UInt8)) (cs : Array Value) (w w0 : World) (h : BlkAt B 149 cs w) (h5 : cs[5]? = some (opsV A ops u)) (hA : ∀ j x, ops[j]? = some x → w.cell? ⟨A, j + 1, none⟩ = some (.string (txt x)))
    (hl : ops.length < 1000000) (hw : ∀ x ∈ ops, x.length ≤ 4294967296) (hL : LinLaid w0) (hb : Below w0.heap.size w0 w) (hB : w0.heap.size ≤ B) (hc : c = 100 ∧ off = 1 ∨ c = 97 ∧ off = 2 ∨ c = 98 ∧ off = 3 ∨ (c = 115 ∨ c = 117) ∧ off = 4) (hy : cs[off]? = some (.int .i64 y)) :
    Calls Tryz.prog 130 #[.pointer (some ⟨B, 0, none⟩), .int .i32 c, takeR B, takeN B] w (Did B w (.bool (opdOk c (wAt ops u))) ((cs.setIfInBounds 5 (opsV A ops (u + 1))).setIfInBounds off (.int .i64 (opdV c (wAt ops u))))) := by
  unfold takeR takeN
  have HR := Lib.hid (fun off ho hy => lineTakeReg_is B A u off y ops cs w w0 h h5 hA hl hw hL hb hB ho hy)
  have HN := Lib.hid (fun off ho hy => lineTakeNum_is B A u off y ops cs w w0 h h5 hA hl hw hL hb hB ho hy)
  have HY := Lib.hid hy
  clear h h5 hA hy
  rcases hc with ⟨rfl, rfl⟩ | ⟨rfl, rfl⟩ | ⟨rfl, rfl⟩ | ⟨rfl | rfl, rfl⟩
  any_goals
    rw [show opdOk _ (wAt ops u) = regOk (wAt ops u) from if_pos (by decide), show opdV _ (wAt ops u) = regV (wAt ops u) from if_pos (by decide)]
    go_enter Tryz.func130, Tryz.ntmps130
    go_wp2_with (go_at_call 142; ((with_reducible refine (HR.out _ (by decide) HY.out).mono ?_); rintro e w1 ⟨rfl, hq, hk⟩); have HO := Lib.hid hq; have HK := Lib.hid hk; clear hq hk)
    go_ret
    exact ⟨rfl, HO.out, HK.out⟩
  all_goals
    rw [show opdOk _ (wAt ops u) = numOk (wAt ops u) from (if_neg (by decide)).trans (if_pos (by decide)), show opdV _ (wAt ops u) = numV (wAt ops u) from (if_neg (by decide)).trans (if_pos (by decide))]
    go_enter Tryz.func130, Tryz.ntmps130
    go_wp2_with (go_at_call 143; ((with_reducible refine (HN.out _ (by decide) HY.out).mono ?_); rintro e w1 ⟨rfl, hq, hk⟩); have HO := Lib.hid hq; have HK := Lib.hid hk; clear hq hk)
    go_ret
    exact ⟨rfl, HO.out, HK.out⟩
theorem lineNoOne_is (B : Nat) (f g : Value) (w : World) :
    Calls Tryz.prog 130 #[.pointer (some ⟨B, 0, none⟩), .int .i32 45, f, g] w fun e w' => e = .returned (.bool true) ∧ w = w' := by
  go_enter Tryz.func130, Tryz.ntmps130
  go_wp2
  go_ret
  exact ⟨rfl, rfl⟩
end

section
/-- What one round comes to: on, or to an end. -/
def StepTo (P Q : World → Prop) (w : World) (e : Ending) (w' : World) : Prop :=
  (∀ (k : Nat) (s : ByteArray) (p : Nat), w.heap[k]? = some (Obj.stringIter s p) → w'.heap[k]? = some (Obj.stringIter s p)) ∧ ((e = .returned (.bool true) ∧ P w') ∨ (e = .returned (.bool false) ∧ Q w'))
/-- What all rounds come to. -/
def EndTo (P Q : World → Prop) (e : Ending) (w' : World) : Prop := (e = .returned (.bool true) ∧ P w') ∨ (e = .returned (.bool false) ∧ Q w')
/-- How far the loop over letters is. -/
def LoopAt (J : Nat → World → Prop) (I : Nat) (s : ByteArray) (wr : World) : Prop := ∃ k, k ≤ 4 ∧ wr.heap[I]? = some (.stringIter s k) ∧ J k wr
set_option maxHeartbeats 4000000 in
theorem lineOperands_is (B : Nat) (f g : Value) (o : Int) (x0 x1 x2 x3 : UInt8) (s : ByteArray) (J : Nat → World → Prop) (Q : World → Prop) (w : World) (hs : s = ⟨#[x0, x1, x2, x3]⟩) (hw : wShape o = s) (hx : x0.toNat < 128 ∧ x1.toNat < 128 ∧ x2.toNat < 128 ∧ x3.toNat < 128)
    (ho : w.cell? ⟨B, 0, none⟩ = some (.int .i64 o)) (hL : ShapesLaid w) (hkeep : ∀ w', Below w.heap.size w w' → J 0 w')
    (hiter : ∀ k w' I s p q, w.heap.size ≤ I → J k w' → w'.heap[I]? = some (.stringIter s p) → J k (w'.iterAt I s q))
    (hstep : ∀ k w', k < 4 → J k w' → Calls Tryz.prog 130 #[.pointer (some ⟨B, 0, none⟩), .int .i32 ((#[x0, x1, x2, x3] : Array UInt8).getD k 0).toNat, f, g] w' (StepTo (J (k + 1)) Q w')) :
    Calls Tryz.prog 97 #[.pointer (some ⟨B, 0, none⟩), f, g] w (EndTo (J 4) Q) := by
  have HK := Lib.hid hkeep
  have HI := Lib.hid hiter
  have HS := Lib.hid hstep
  have HL := Lib.hid hL
  have HW := Lib.hid hw
  clear hkeep hiter hstep hw
  go_enter Tryz.func97, Tryz.ntmps97
  go_wp2_with (go_at_call 91; ((with_reducible refine (shape_S o s _ HL.out HW.out).mono ?_); rintro e w1 ⟨rfl, hq⟩); have HQ := Lib.hid hq; clear hq)
  have ht : w1.iter { data := #[x0, x1, x2, x3] } 0 = w1.alloc (.stringIter { data := #[x0, x1, x2, x3] } 0) := rfl
  have hnew : (w1.iter { data := #[x0, x1, x2, x3] } 0).heap[w1.heap.size]? = some (Obj.stringIter { data := #[x0, x1, x2, x3] } 0) := World.iter_heap w1 _ 0
  have hj0 : J 0 (w1.iter { data := #[x0, x1, x2, x3] } 0) := HK.out _ (by rw [ht]; exact HQ.out.alloc HQ.out.size _)
  have H0 := Lib.hid (show LoopAt J w1.heap.size { data := #[x0, x1, x2, x3] } (w1.iter { data := #[x0, x1, x2, x3] } 0) from ⟨0, by omega, hnew, hj0⟩)
  clear ht hnew hj0 hL ho
  obtain ⟨h0, h1, h2, h3⟩ := hx
  go_loopw [8] (fun _ wr => LoopAt J w1.heap.size { data := #[x0, x1, x2, x3] } wr) (fun _ wr => 4 - wr.iterPos w1.heap.size)
  case atStart => exact H0.out
  case round =>
    obtain ⟨k, hk, hit, hj⟩ := hrel
    by_cases hlt : k < 4
    · obtain rfl | rfl | rfl | rfl : k = 0 ∨ k = 1 ∨ k = 2 ∨ k = 3 := by omega
      · have hS : Calls Tryz.prog 130 #[.pointer (some ⟨B, 0, none⟩), .int .i32 x0.toNat, f, g] _ _ := HS.out 0 _ hlt (HI.out _ _ _ _ _ 1 HQ.out.size hj hit)
        have hit' := Lib.iterAt_heap _ _ _ _ 1 hit
        have hnx : ∀ ty, (Instr.next (.pointer (some ⟨w1.heap.size, 0, none⟩)) true ty).run Tryz.prog wr = .ok (.tuple #[.bool true, .int .i64 (0 : Nat), .int .i32 x0.toNat]) _ := fun ty => Lib.run_next_ascii_at wr w1.heap.size ⟨#[x0, x1, x2, x3]⟩ 0 ty hit (by show 0 < 4; omega) h0
        have hpos : wr.iterPos w1.heap.size = 0 := by simp only [World.iterPos, hit]
        obtain ⟨W, hW⟩ : ∃ W, wr.iterAt w1.heap.size ⟨#[x0, x1, x2, x3]⟩ 1 = W := ⟨_, rfl⟩
        rw [hW] at hS hit' hnx
        have HS2 := Lib.hid hS
        have HT := Lib.hid hit'
        have HP := Lib.hid hpos
        clear hS hit' hpos hit hj hW hlt
        go_wp2_with fail
        refine HS2.out.mono ?_
        rintro e w2 ⟨hkp, ⟨rfl, hj2⟩ | ⟨rfl, hq2⟩⟩
        · have HJ := Lib.hid hj2
          have HI2 := Lib.hid (hkp _ _ _ HT.out)
          clear hkp hj2
          go_wp2
          go_roundw
          case rel => exact ⟨1, by omega, HI2.out, HJ.out⟩
          case measure =>
            have e2 : w2.iterPos w1.heap.size = 1 := by have := HI2.out; simp only [World.iterPos, this]
            have e1 := HP.out
            omega
        · have HQ2 := Lib.hid hq2
          clear hkp hq2
          go_wp2
          go_ret
          exact .inr ⟨rfl, HQ2.out⟩
      · have hS : Calls Tryz.prog 130 #[.pointer (some ⟨B, 0, none⟩), .int .i32 x1.toNat, f, g] _ _ := HS.out 1 _ hlt (HI.out _ _ _ _ _ 2 HQ.out.size hj hit)
        have hit' := Lib.iterAt_heap _ _ _ _ 2 hit
        have hnx : ∀ ty, (Instr.next (.pointer (some ⟨w1.heap.size, 0, none⟩)) true ty).run Tryz.prog wr = .ok (.tuple #[.bool true, .int .i64 (1 : Nat), .int .i32 x1.toNat]) _ := fun ty => Lib.run_next_ascii_at wr w1.heap.size ⟨#[x0, x1, x2, x3]⟩ 1 ty hit (by show 1 < 4; omega) h1
        have hpos : wr.iterPos w1.heap.size = 1 := by simp only [World.iterPos, hit]
        obtain ⟨W, hW⟩ : ∃ W, wr.iterAt w1.heap.size ⟨#[x0, x1, x2, x3]⟩ 2 = W := ⟨_, rfl⟩
        rw [hW] at hS hit' hnx
        have HS2 := Lib.hid hS
        have HT := Lib.hid hit'
        have HP := Lib.hid hpos
        clear hS hit' hpos hit hj hW hlt
        go_wp2_with fail
        refine HS2.out.mono ?_
        rintro e w2 ⟨hkp, ⟨rfl, hj2⟩ | ⟨rfl, hq2⟩⟩
        · have HJ := Lib.hid hj2
          have HI2 := Lib.hid (hkp _ _ _ HT.out)
          clear hkp hj2
          go_wp2
          go_roundw
          case rel => exact ⟨2, by omega, HI2.out, HJ.out⟩
          case measure =>
            have e2 : w2.iterPos w1.heap.size = 2 := by have := HI2.out; simp only [World.iterPos, this]
            have e1 := HP.out
            omega
        · have HQ2 := Lib.hid hq2
          clear hkp hq2
          go_wp2
          go_ret
          exact .inr ⟨rfl, HQ2.out⟩
      · have hS : Calls Tryz.prog 130 #[.pointer (some ⟨B, 0, none⟩), .int .i32 x2.toNat, f, g] _ _ := HS.out 2 _ hlt (HI.out _ _ _ _ _ 3 HQ.out.size hj hit)
        have hit' := Lib.iterAt_heap _ _ _ _ 3 hit
        have hnx : ∀ ty, (Instr.next (.pointer (some ⟨w1.heap.size, 0, none⟩)) true ty).run Tryz.prog wr = .ok (.tuple #[.bool true, .int .i64 (2 : Nat), .int .i32 x2.toNat]) _ := fun ty => Lib.run_next_ascii_at wr w1.heap.size ⟨#[x0, x1, x2, x3]⟩ 2 ty hit (by show 2 < 4; omega) h2
        have hpos : wr.iterPos w1.heap.size = 2 := by simp only [World.iterPos, hit]
        obtain ⟨W, hW⟩ : ∃ W, wr.iterAt w1.heap.size ⟨#[x0, x1, x2, x3]⟩ 3 = W := ⟨_, rfl⟩
        rw [hW] at hS hit' hnx
        have HS2 := Lib.hid hS
        have HT := Lib.hid hit'
        have HP := Lib.hid hpos
        clear hS hit' hpos hit hj hW hlt
        go_wp2_with fail
        refine HS2.out.mono ?_
        rintro e w2 ⟨hkp, ⟨rfl, hj2⟩ | ⟨rfl, hq2⟩⟩
        · have HJ := Lib.hid hj2
          have HI2 := Lib.hid (hkp _ _ _ HT.out)
          clear hkp hj2
          go_wp2
          go_roundw
          case rel => exact ⟨3, by omega, HI2.out, HJ.out⟩
          case measure =>
            have e2 : w2.iterPos w1.heap.size = 3 := by have := HI2.out; simp only [World.iterPos, this]
            have e1 := HP.out
            omega
        · have HQ2 := Lib.hid hq2
          clear hkp hq2
          go_wp2
          go_ret
          exact .inr ⟨rfl, HQ2.out⟩
      · have hS : Calls Tryz.prog 130 #[.pointer (some ⟨B, 0, none⟩), .int .i32 x3.toNat, f, g] _ _ := HS.out 3 _ hlt (HI.out _ _ _ _ _ 4 HQ.out.size hj hit)
        have hit' := Lib.iterAt_heap _ _ _ _ 4 hit
        have hnx : ∀ ty, (Instr.next (.pointer (some ⟨w1.heap.size, 0, none⟩)) true ty).run Tryz.prog wr = .ok (.tuple #[.bool true, .int .i64 (3 : Nat), .int .i32 x3.toNat]) _ := fun ty => Lib.run_next_ascii_at wr w1.heap.size ⟨#[x0, x1, x2, x3]⟩ 3 ty hit (by show 3 < 4; omega) h3
        have hpos : wr.iterPos w1.heap.size = 3 := by simp only [World.iterPos, hit]
        obtain ⟨W, hW⟩ : ∃ W, wr.iterAt w1.heap.size ⟨#[x0, x1, x2, x3]⟩ 4 = W := ⟨_, rfl⟩
        rw [hW] at hS hit' hnx
        have HS2 := Lib.hid hS
        have HT := Lib.hid hit'
        have HP := Lib.hid hpos
        clear hS hit' hpos hit hj hW hlt
        go_wp2_with fail
        refine HS2.out.mono ?_
        rintro e w2 ⟨hkp, ⟨rfl, hj2⟩ | ⟨rfl, hq2⟩⟩
        · have HJ := Lib.hid hj2
          have HI2 := Lib.hid (hkp _ _ _ HT.out)
          clear hkp hj2
          go_wp2
          go_roundw
          case rel => exact ⟨4, by omega, HI2.out, HJ.out⟩
          case measure =>
            have e2 : w2.iterPos w1.heap.size = 4 := by have := HI2.out; simp only [World.iterPos, this]
            have e1 := HP.out
            omega
        · have HQ2 := Lib.hid hq2
          clear hkp hq2
          go_wp2
          go_ret
          exact .inr ⟨rfl, HQ2.out⟩
    · obtain rfl : k = 4 := by omega
      have hnx : ∀ ty, (Instr.next (.pointer (some ⟨w1.heap.size, 0, none⟩)) true ty).run Tryz.prog wr = _ := fun ty => Lib.run_next_end_at wr w1.heap.size ⟨#[x0, x1, x2, x3]⟩ 4 ty hit (by show ¬ 4 < 4; omega)
      have HJ := Lib.hid hj
      clear hj hit
      go_wp2
      go_ret
      exact .inl ⟨rfl, HJ.out⟩
end

section
open Go.RowKit Go.Shelf

/-- A letter and its place. -/
theorem letter_at {o : Int} (h : isOp o) {k : Nat} (hk : k < 4) : (shL o k = 100 ∧ k + 1 = 1 ∨ shL o k = 97 ∧ k + 1 = 2 ∨ shL o k = 98 ∧ k + 1 = 3 ∨ (shL o k = 115 ∨ shL o k = 117) ∧ k + 1 = 4) ∨ shL o k = 45 := by
  obtain ⟨_, _, _, _, _, _, _, _, _, hs⟩ := shaped h
  unfold Shaped at hs
  obtain rfl | rfl | rfl | rfl : k = 0 ∨ k = 1 ∨ k = 2 ∨ k = 3 := by omega
  all_goals omega
theorem letter_small {o : Int} (h : isOp o) : ∃ x0 x1 x2 x3 : UInt8, wShape o = ⟨#[x0, x1, x2, x3]⟩ ∧ (x0.toNat < 128 ∧ x1.toNat < 128 ∧ x2.toNat < 128 ∧ x3.toNat < 128) ∧ ∀ k, k < 4 → (((#[x0, x1, x2, x3] : Array UInt8).getD k 0).toNat : Int) = shL o k := by
  have q := fun k hk => @letter_at o h k hk
  obtain ⟨x0, x1, x2, x3, hs, e0, e1, e2, e3, _⟩ := shaped h
  refine ⟨x0, x1, x2, x3, hs, ?_, ?_⟩
  · have q0 := q 0 (by omega)
    have q1 := q 1 (by omega)
    have q2 := q 2 (by omega)
    have q3 := q 3 (by omega)
    omega
  · intro k hk
    obtain rfl | rfl | rfl | rfl : k = 0 ∨ k = 1 ∨ k = 2 ∨ k = 3 := by omega
    · exact e0.symm
    · exact e1.symm
    · exact e2.symm
    · exact e3.symm
theorem okTo_mono {o : Int} {ws : List (List UInt8)} {j : Nat} : ∀ {k : Nat}, j ≤ k → okTo o ws k = true → okTo o ws j = true
  | 0, h, hk => by obtain rfl : j = 0 := by omega
                   exact hk
  | k + 1, h, hk => by
    by_cases e : j = k + 1
    · subst e; exact hk
    · rw [okTo, Bool.and_eq_true] at hk
      exact okTo_mono (by omega) hk.1
/-- A field that has been read, or not yet. -/
def fvOf (o : Int) (ops : List (List UInt8)) (k j : Nat) : Int := if j < k then fldR o ops j else 0
/-- The reader behind k letters. -/
structure TakeAt (w0 : World) (B A : Nat) (o : Int) (nw : ByteArray) (ops : List (List UInt8)) (k : Nat) (w : World) : Prop where
  ok : okTo o ops k = true
  blk : BlkAt B 149 (rdC o (fvOf o ops k 0) (fvOf o ops k 1) (fvOf o ops k 2) (fvOf o ops k 3) (opsV A ops (used o k))) w
  own : w.ownsRow 0 9 1 (.slice (some ⟨A, 0, none⟩) (ops.length + 1) (ops.length + 1)) (ops.length + 1) ((nw :: ops.map txt).map Value.string)
  below : Below w0.heap.size w0 w
theorem TakeAt.keep {w0 w w' : World} {B A k : Nat} {o : Int} {nw : ByteArray} {ops : List (List UInt8)} (h : TakeAt w0 B A o nw ops k w) (hb : Below w.heap.size w w') : TakeAt w0 B A o nw ops k w' :=
  ⟨h.ok, h.blk.keep hb, own_keep h.own hb, h.below.trans (hb.mono h.below.size)⟩
theorem TakeAt.iter {w0 w : World} {B A k I : Nat} {o : Int} {nw : ByteArray} {ops : List (List UInt8)} {s : ByteArray} {p : Nat} (h : TakeAt w0 B A o nw ops k w) (hI : w0.heap.size ≤ I) (hi : w.heap[I]? = some (.stringIter s p)) (q : Nat) : TakeAt w0 B A o nw ops k (w.iterAt I s q) := by
  refine ⟨h.ok, ?_, ?_, Lib.below_iterAt h.below hI s q⟩
  · have hb := h.blk
    unfold BlkAt at *
    rw [Lib.iterAt_other _ _ _ _ _ (fun e => by subst e; rw [hi] at hb; cases hb)]
    exact hb
  · exact own_iterAt h.own hi q
theorem TakeAt.text {w0 w : World} {B A k : Nat} {o : Int} {nw : ByteArray} {ops : List (List UInt8)} (h : TakeAt w0 B A o nw ops k w) : ∀ j x, ops[j]? = some x → w.cell? ⟨A, j + 1, none⟩ = some (.string (txt x)) := by
  intro j x hx
  have e := own_text (l := nw :: ops.map txt) (by simpa using h.own) (j := j + 1) (x := txt x) (by simp [hx])
  exact e
theorem rd_set {o : Int} {ops : List (List UInt8)} {k : Nat} {v v' : Value} (hk : k < 4) :
    ((rdC o (fvOf o ops k 0) (fvOf o ops k 1) (fvOf o ops k 2) (fvOf o ops k 3) v).setIfInBounds 5 v').setIfInBounds (k + 1) (.int .i64 (fldR o ops k)) = rdC o (fvOf o ops (k + 1) 0) (fvOf o ops (k + 1) 1) (fvOf o ops (k + 1) 2) (fvOf o ops (k + 1) 3) v' := by
  obtain rfl | rfl | rfl | rfl : k = 0 ∨ k = 1 ∨ k = 2 ∨ k = 3 := by omega
  all_goals simp [rdC, fvOf]
theorem rd_same {o : Int} {ops : List (List UInt8)} {k : Nat} {v : Value} (hk : k < 4) (h0 : fldR o ops k = 0) :
    rdC o (fvOf o ops k 0) (fvOf o ops k 1) (fvOf o ops k 2) (fvOf o ops k 3) v = rdC o (fvOf o ops (k + 1) 0) (fvOf o ops (k + 1) 1) (fvOf o ops (k + 1) 2) (fvOf o ops (k + 1) 3) v := by
  obtain rfl | rfl | rfl | rfl : k = 0 ∨ k = 1 ∨ k = 2 ∨ k = 3 := by omega
  all_goals simp [rdC, fvOf, h0]
theorem rd_field {o : Int} {ops : List (List UInt8)} {k : Nat} {v : Value} (hk : k < 4) :
    (rdC o (fvOf o ops k 0) (fvOf o ops k 1) (fvOf o ops k 2) (fvOf o ops k 3) v)[k + 1]? = some (.int .i64 0) := by
  obtain rfl | rfl | rfl | rfl : k = 0 ∨ k = 1 ∨ k = 2 ∨ k = 3 := by omega
  all_goals simp [rdC, fvOf]
/-- What is left where a letter's word is none. -/
def Refused (w0 : World) (o : Int) (ops : List (List UInt8)) (w : World) : Prop := okTo o ops 4 = false ∧ Below w0.heap.size w0 w
theorem lineTake_step (w0 : World) (B A k : Nat) (o c : Int) (nw : ByteArray) (ops : List (List UInt8)) (w : World) (hop : isOp o) (hk : k < 4) (hc : c = shL o k) (h : TakeAt w0 B A o nw ops k w) (hl : ops.length < 1000000) (hw : ∀ x ∈ ops, x.length ≤ 4294967296) (hL : LinLaid w0) (hB : w0.heap.size ≤ B) :
    Calls Tryz.prog 130 #[.pointer (some ⟨B, 0, none⟩), .int .i32 c, takeR B, takeN B] w (StepTo (TakeAt w0 B A o nw ops (k + 1)) (Refused w0 o ops) w) := by
  subst hc
  rcases letter_at hop hk with hq | hq
  · have hu : used o (k + 1) = used o k + 1 := by
      rw [used, if_pos]
      unfold isReg isNum
      omega
    refine (lineTakeOne_is B A (used o k) (k + 1) (shL o k) 0 ops _ w w0 h.blk rfl h.text hl hw hL h.below hB hq (rd_field hk)).mono ?_
    rintro e w' ⟨rfl, ho, hb⟩
    have hb' := hb.eq (rd_set hk)
    have hbl := ho.below h.below hB h.below.size
    refine ⟨fun I s p hI => ho.iter h.blk hI, ?_⟩
    cases hv : opdOk (shL o k) (wAt ops (used o k))
    · refine .inr ⟨rfl, ?_, hbl⟩
      cases q : okTo o ops 4
      · rfl
      · have := okTo_mono (j := k + 1) (by omega) q
        rw [okTo, hv] at this
        simp at this
    · refine .inl ⟨rfl, by rw [okTo, h.ok, hv]; rfl, by rw [hu]; exact hb', own_off h.own h.blk (by decide) ho, hbl⟩
  · have hr : ¬ isReg (shL o k) := by unfold isReg; omega
    have hn : ¬ isNum (shL o k) := by unfold isNum; omega
    have hu : used o (k + 1) = used o k := by
      rw [used, if_neg (fun e => e.elim hr hn)]
      rfl
    have h0 : fldR o ops k = 0 := by unfold fldR opdV; rw [if_neg hr, if_neg hn]
    have hv : opdOk (shL o k) (wAt ops (used o k)) = true := by unfold opdOk; rw [if_neg hr, if_neg hn]
    rw [hq]
    refine (lineNoOne_is B _ _ w).mono ?_
    rintro e w' ⟨rfl, rfl⟩
    exact ⟨fun _ _ _ hI => hI, .inl ⟨rfl, by rw [okTo, h.ok, hv]; rfl, by rw [hu]; exact h.blk.eq (rd_same hk h0), h.own, h.below⟩⟩
theorem lineTake_is (w0 : World) (B A : Nat) (o : Int) (nw : ByteArray) (ops : List (List UInt8)) (w : World) (hop : isOp o) (h : TakeAt w0 B A o nw ops 0 w) (hl : ops.length < 1000000) (hw : ∀ x ∈ ops, x.length ≤ 4294967296) (hL : LinLaid w0) (hB : w0.heap.size ≤ B) :
    Calls Tryz.prog 97 #[.pointer (some ⟨B, 0, none⟩), .func (.func 142) #[.pointer (some ⟨B, 0, none⟩)] #[], .func (.func 143) #[.pointer (some ⟨B, 0, none⟩)] #[]] w (EndTo (TakeAt w0 B A o nw ops 4) (Refused w0 o ops)) := by
  obtain ⟨x0, x1, x2, x3, hs, hx, he⟩ := letter_small hop
  exact lineOperands_is B (takeR B) (takeN B) o x0 x1 x2 x3 _ (TakeAt w0 B A o nw ops) _ w rfl hs hx (h.blk.cell 0) (hL.below h.below (Nat.le_refl _)).shapes (fun w' hb => h.keep hb)
    (fun k w' I s p q hI hj hi => hj.iter (Nat.le_trans h.below.size hI) hi q) (fun k w' hk hj => lineTake_step w0 B A k o _ nw ops w' hop hk (he k hk) hj hl hw hL hB)
theorem opsV_0 (A : Nat) (ops : List (List UInt8)) : opsV A ops 0 = .slice (some ⟨A, if ops.length = 0 then 0 else 1, none⟩) ops.length ops.length := by
  unfold opsV
  rw [Nat.sub_zero]
  unfold remV
  by_cases k : ops.length = 0
  · rw [if_pos k, if_pos k, k]
  · rw [if_neg k, if_neg k, show ops.length + 1 - ops.length = 1 by omega]
theorem TakeAt.start (w : World) (A off : Nat) (o : Int) (nw : ByteArray) (ops : List (List UInt8)) (hoff : off = if ops.length = 0 then 0 else 1) (hown : w.ownsRow 0 9 1 (.slice (some ⟨A, 0, none⟩) (ops.length + 1) (ops.length + 1)) (ops.length + 1) ((nw :: ops.map txt).map Value.string)) :
    TakeAt w w.heap.size A o nw ops 0 (w.alloc (.cells #[.int .i64 o, .int .i64 0, .int .i64 0, .int .i64 0, .int .i64 0, .slice (some ⟨A, off, none⟩) ops.length ops.length] 149)) := by
  have hb := (Below.refl w.heap.size w).alloc (Nat.le_refl _) (.cells #[.int .i64 o, .int .i64 0, .int .i64 0, .int .i64 0, .int .i64 0, .slice (some ⟨A, off, none⟩) ops.length ops.length] 149)
  refine ⟨rfl, (BlkAt.new w _ _).eq ?_, own_keep hown hb, hb⟩
  subst hoff
  rw [show used o 0 = 0 from rfl, opsV_0]
  simp only [rdC, fvOf, Nat.not_lt_zero, if_false]


/-- What Parse answers. -/
def RetIns (w : World) (ws : List (List UInt8)) (e : Ending) (w' : World) : Prop :=
  e = .returned (.tuple #[.agg #[.int .i64 (pO ws), .int .i64 (pF ws 0), .int .i64 (pF ws 1), .int .i64 (pF ws 2), .int .i64 (pF ws 3)], .int .i64 (pErr ws)]) ∧ Below w.heap.size w w'
theorem pErr_no {ws : List (List UInt8)} (h : pGood ws = false) : pErr ws = 3 ∧ pO ws = 0 ∧ ∀ k, pF ws k = 0 := by
  have e : pErr ws = 3 := by unfold pErr; rw [h]; rfl
  refine ⟨e, ?_, fun k => ?_⟩
  · unfold pO; rw [e]; rfl
  · unfold pF; rw [e]; rfl
theorem pErr_bad {ws : List (List UInt8)} (h : pErr ws ≠ 0) : pO ws = 0 ∧ ∀ k, pF ws k = 0 := by
  refine ⟨?_, fun k => ?_⟩
  · unfold pO; rw [if_neg h]
  · unfold pF; rw [if_neg h]
theorem lineWords_none (l : List UInt8) (w : World) (hl : l.length < 1000000) (h : wds l = []) :
    Calls Tryz.prog 19 #[.string (txt l)] w fun e w' => ∃ A, e = .returned (.slice (some ⟨A, 0, none⟩) 0 0) ∧ Below w.heap.size w w' := by
  refine (lineWords_is (txt l) w (by rw [txt_size]; omega)).mono ?_
  unfold wtx
  rw [txt_list, h]
  rintro e w' ⟨A, rfl, _, _, hb⟩
  exact ⟨A, rfl, hb⟩
theorem lineWords_some (l nw : List UInt8) (ops : List (List UInt8)) (w : World) (hl : l.length < 1000000) (h : wds l = nw :: ops) :
    Calls Tryz.prog 19 #[.string (txt l)] w fun e w' => ∃ A, e = .returned (.slice (some ⟨A, 0, none⟩) (ops.length + 1) (ops.length + 1)) ∧ w.heap.size ≤ A ∧
      w'.ownsRow w.heap.size 9 1 (.slice (some ⟨A, 0, none⟩) (ops.length + 1) (ops.length + 1)) (ops.length + 1) ((txt nw :: ops.map txt).map Value.string) ∧ Below w.heap.size w w' := by
  refine (lineWords_is (txt l) w (by rw [txt_size]; omega)).mono ?_
  unfold wtx
  rw [txt_list, h]
  rintro e w' ⟨A, rfl, hA, ho, hb⟩
  simp only [List.map_cons, List.length_cons, List.length_map] at ho ⊢
  exact ⟨A, rfl, hA, ho, hb⟩
set_option maxHeartbeats 4000000 in
theorem lineParse_none (l : List UInt8) (w : World) (hl : l.length < 1000000) (h : wds l = []) :
    Calls Tryz.prog 116 #[.string (txt l)] w fun e w' => e = .returned (.tuple #[.agg #[.int .i64 0, .int .i64 0, .int .i64 0, .int .i64 0, .int .i64 0], .int .i64 3]) ∧ Below w.heap.size w w' := by
  have HW := Lib.hid h
  have HI := Lib.hid (fun T => InsW.new w w 0 0 0 0 0 T (Below.refl _ _) (Nat.le_refl _))
  clear h
  go_enter Tryz.func116, Tryz.ntmps116
  go_wp2_with (go_at_call 19; ((with_reducible refine (lineWords_none l _ hl HW.out).mono ?_); rintro e w1 ⟨A, rfl, hb⟩); have hR := (HI.out _).keep hb; clear hb; have c0 := hR.c0; have c1 := hR.c1; have c2 := hR.c2; have c3 := hR.c3; have c4 := hR.c4; have f0 := hR.f0; have f1 := hR.f1; have f2 := hR.f2; have f3 := hR.f3; have f4 := hR.f4)
  exact bodyPost_ret (v := .tuple #[.agg #[.int .i64 0, .int .i64 0, .int .i64 0, .int .i64 0, .int .i64 0], .int .i64 3]) (by simp [results, Tryz.results116, go_sem, c0, c1, c2, c3, c4]) rfl ⟨rfl, hR.end5 _ _ _ _ _⟩
set_option maxHeartbeats 4000000 in
theorem lineParse_name (l nw : List UInt8) (ops : List (List UInt8)) (w : World) (hl : l.length < 1000000) (h : wds l = nw :: ops) (ho : wFind (txt nw) = 0) :
    Calls Tryz.prog 116 #[.string (txt l)] w fun e w' => e = .returned (.tuple #[.agg #[.int .i64 0, .int .i64 0, .int .i64 0, .int .i64 0, .int .i64 0], .int .i64 3]) ∧ Below w.heap.size w w' := by
  have HW := Lib.hid h
  have HI := Lib.hid (fun T => InsW.new w w 0 0 0 0 0 T (Below.refl _ _) (Nat.le_refl _))
  have HO := Lib.hid ho
  clear h ho
  go_enter Tryz.func116, Tryz.ntmps116
  go_wp2_with (first
    | (go_at_call 19; ((with_reducible refine (lineWords_some l nw ops _ hl HW.out).mono ?_); rintro e w1 ⟨A, rfl, hA, hown, hb⟩); have hR := (HI.out _).keep hb; have hx := own_text (l := txt nw :: ops.map txt) hown (j := 0) (x := txt nw) rfl; clear hb hA hown)
    | (go_at_call 141; ((with_reducible refine (find_is (txt nw) _).mono ?_); rintro e w2 ⟨rfl, hb⟩); rw [HO.out]; have hR := hR.keep hb; clear hb; have c0 := hR.c0; have c1 := hR.c1; have c2 := hR.c2; have c3 := hR.c3; have c4 := hR.c4; have f0 := hR.f0; have f1 := hR.f1; have f2 := hR.f2; have f3 := hR.f3; have f4 := hR.f4))
  exact bodyPost_ret (v := .tuple #[.agg #[.int .i64 0, .int .i64 0, .int .i64 0, .int .i64 0, .int .i64 0], .int .i64 3]) (by simp [results, Tryz.results116, go_sem, c0, c1, c2, c3, c4]) rfl ⟨rfl, hR.end5 _ _ _ _ _⟩
/-- What is left to do behind the operands. -/
theorem pGood_false {o : Int} {nw : List UInt8} {ops : List (List UInt8)} (ho : wFind (txt nw) = o) (h : okTo o ops 4 = false ∨ ops.length ≠ used o 4) : pGood (nw :: ops) = false := by
  have e : pOp (nw :: ops) = o := ho
  unfold pGood
  rw [e, show (nw :: ops).tail = ops from rfl]
  rcases h with h | h
  · rw [h]; simp
  · simp [h]
theorem pGood_true {o : Int} {nw : List UInt8} {ops : List (List UInt8)} (ho : wFind (txt nw) = o) (hz : o ≠ 0) (h : okTo o ops 4 = true) (h2 : ops.length = used o 4) : pErr (nw :: ops) = cChk o (fldR o ops 0) (fldR o ops 1) (fldR o ops 2) (fldR o ops 3) ∧ pOp (nw :: ops) = o := by
  have e : pOp (nw :: ops) = o := ho
  have g : pGood (nw :: ops) = true := by
    unfold pGood
    rw [e, show (nw :: ops).tail = ops from rfl, h, h2]
    simp [hz]
  refine ⟨?_, e⟩
  unfold pErr
  rw [if_pos g, e]
  rfl
set_option maxHeartbeats 4000000 in
theorem lineParse_op (l nw : List UInt8) (ops : List (List UInt8)) (o : Int) (w : World) (hl : l.length < 1000000) (h : wds l = nw :: ops) (ho : wFind (txt nw) = o) (hz : o ≠ 0) (hL : LinLaid w) :
    Calls Tryz.prog 116 #[.string (txt l)] w (RetIns w (nw :: ops)) := by
  have HW := Lib.hid h
  have HI := Lib.hid (fun T => InsW.new w w 0 0 0 0 0 T (Below.refl _ _) (Nat.le_refl _))
  have HO := Lib.hid ho
  have HL := Lib.hid hL
  have hop : isOp o := by rw [← ho] at hz ⊢; exact find_op hz
  have hlen : ops.length < 1000000 := by have := wds_len l; rw [h] at this; simp at this; omega
  have HE := Lib.hid (fun x (hx : x ∈ ops) => show x.length ≤ 4294967296 by have := wds_each (l := l) (w := x) (by rw [h]; exact .tail _ hx); omega)
  have hz' : (o == 0) = false := by simpa using hz
  have HZ := Lib.hid hz
  have HOP := Lib.hid hop
  have HLEN := Lib.hid hlen
  clear h ho hz hL hop hlen
  unfold RetIns
  obtain ⟨zE, hzE⟩ : ∃ z, pErr (nw :: ops) = z := ⟨_, rfl⟩
  obtain ⟨zO, hzO⟩ : ∃ z, pO (nw :: ops) = z := ⟨_, rfl⟩
  obtain ⟨z0, hz0⟩ : ∃ z, pF (nw :: ops) 0 = z := ⟨_, rfl⟩
  obtain ⟨z1, hz1⟩ : ∃ z, pF (nw :: ops) 1 = z := ⟨_, rfl⟩
  obtain ⟨z2, hz2⟩ : ∃ z, pF (nw :: ops) 2 = z := ⟨_, rfl⟩
  obtain ⟨z3, hz3⟩ : ∃ z, pF (nw :: ops) 3 = z := ⟨_, rfl⟩
  rw [hzE, hzO, hz0, hz1, hz2, hz3]
  have HR := Lib.hid (And.intro hzE (And.intro hzO (And.intro hz0 (And.intro hz1 (And.intro hz2 hz3)))))
  clear hzE hzO hz0 hz1 hz2 hz3
  by_cases h0 : ops.length = 0
  · obtain rfl := List.length_eq_zero_iff.1 h0
    clear h0
    go_enter Tryz.func116, Tryz.ntmps116
    go_wp2_with (first
      | (go_at_call 19; ((with_reducible refine (lineWords_some l nw [] _ hl HW.out).mono ?_); rintro e w1 ⟨A, rfl, hA, hown, hb⟩); have hR := (HI.out _).keep hb; have hx := own_text (l := [txt nw]) hown (j := 0) (x := txt nw) rfl; have HA := Lib.hid hown; clear hb hA hown)
      | (go_at_call 141; ((with_reducible refine (find_is (txt nw) _).mono ?_); rintro e w2 ⟨rfl, hb⟩); rw [HO.out]; have hR := hR.keep hb; have HA2 := Lib.hid (own_keep HA.out hb); clear hb hx))
    have hS := TakeAt.start w2 A 0 o (txt nw) [] rfl (own_lower HA2.out (Nat.zero_le _))
    refine (lineTake_is w2 w2.heap.size A o (txt nw) [] _ HOP.out hS HLEN.out HE.out (HL.out.below hR.below (Nat.le_refl _)) (Nat.le_refl _)).mono ?_
    clear hS
    rintro e w3 (⟨rfl, hT⟩ | ⟨rfl, hQ⟩)
    · have hR := hR.keep hT.below
      have c0 := hR.c0; have c1 := hR.c1; have c2 := hR.c2; have c3 := hR.c3; have c4 := hR.c4; have f0 := hR.f0; have f1 := hR.f1; have f2 := hR.f2; have f3 := hR.f3; have f4 := hR.f4
      have hu := okTo_used 4 hT.ok
      have b0 := hT.blk.cell 0; have b1 := hT.blk.cell 1; have b2 := hT.blk.cell 2; have b3 := hT.blk.cell 3; have b4 := hT.blk.cell 4; have b5 := hT.blk.cell 5
      have hv : ∀ j, j < 4 → fvOf o ([] : List (List UInt8)) 4 j = fldR o ([] : List (List UInt8)) j := fun j hj => if_pos hj
      simp only [rdC, hv 0 (by decide), hv 1 (by decide), hv 2 (by decide), hv 3 (by decide)] at b0 b1 b2 b3 b4 b5
      unfold opsV remV at b5
      have HT := Lib.hid hT
      by_cases hm : ([] : List (List UInt8)).length = used o 4
      · obtain ⟨e0, e1⟩ := pGood_true HO.out HZ.out hT.ok hm
        have hm0 : ([] : List (List UInt8)).length - used o 4 = 0 := by omega
        rw [hm0, if_pos rfl] at b5
        obtain ⟨r0, r1, r2, r3, r4, r5⟩ := HR.out
        rw [e0] at r0
        unfold pO at r1
        unfold pF at r2 r3 r4 r5
        rw [e0, r0, e1] at r1 r2 r3 r4 r5
        rw [show (nw :: ([] : List (List UInt8))).tail = ([] : List (List UInt8)) from rfl] at r2 r3 r4 r5
        obtain ⟨x0, hx0⟩ : ∃ x, fldR o ([] : List (List UInt8)) 0 = x := ⟨_, rfl⟩
        obtain ⟨x1, hx1⟩ : ∃ x, fldR o ([] : List (List UInt8)) 1 = x := ⟨_, rfl⟩
        obtain ⟨x2, hx2⟩ : ∃ x, fldR o ([] : List (List UInt8)) 2 = x := ⟨_, rfl⟩
        obtain ⟨x3, hx3⟩ : ∃ x, fldR o ([] : List (List UInt8)) 3 = x := ⟨_, rfl⟩
        rw [hx0, hx1, hx2, hx3] at r0
        rw [hx0] at r2 b1
        rw [hx1] at r3 b2
        rw [hx2] at r4 b3
        rw [hx3] at r5 b4
        have R0 := Lib.hid r0
        clear hT hm hm0 e0 e1 hx0 hx1 hx2 hx3 hu hv r0
        by_cases hzE : zE = 0
        · rw [if_pos hzE] at r1 r2 r3 r4 r5
          subst r1 r2 r3 r4 r5 hzE
          go_wp2_with (go_at_call 95; ((with_reducible refine (codeCheckI_is o x0 x1 x2 x3 0 _ (HL.out.below hR.below (Nat.le_refl _)).shapes R0.out).mono ?_); rintro e w4 ⟨rfl, hq⟩); have hR := hR.keep hq; have hB := (Below.block hq w2.heap.size HT.out.blk.lt); clear c0 c1 c2 c3 c4 f0 f1 f2 f3 f4; have c0 := hR.c0; have c1 := hR.c1; have c2 := hR.c2; have c3 := hR.c3; have c4 := hR.c4; have f0 := hR.f0; have f1 := hR.f1; have f2 := hR.f2; have f3 := hR.f3; have f4 := hR.f4; have hl := HT.out.blk.lt; have b0 := (hq.cell (p := ⟨w2.heap.size, 0, none⟩) hl).trans b0; have b1 := (hq.cell (p := ⟨w2.heap.size, 1, none⟩) hl).trans b1; have b2 := (hq.cell (p := ⟨w2.heap.size, 2, none⟩) hl).trans b2; have b3 := (hq.cell (p := ⟨w2.heap.size, 3, none⟩) hl).trans b3; have b4 := (hq.cell (p := ⟨w2.heap.size, 4, none⟩) hl).trans b4; clear hq hB hl)
          exact bodyPost_ret (v := .tuple #[.agg #[.int .i64 o, .int .i64 x0, .int .i64 x1, .int .i64 x2, .int .i64 x3], .int .i64 0]) (by simp [results, Tryz.results116, go_sem, c0, c1, c2, c3, c4]) rfl ⟨rfl, hR.end5 _ _ _ _ _⟩
        · rw [if_neg hzE] at r1 r2 r3 r4 r5
          subst r1 r2 r3 r4 r5
          have hzE' : (zE != 0) = true := by simpa using hzE
          clear hzE
          go_wp2_with (go_at_call 95; ((with_reducible refine (codeCheckI_is o x0 x1 x2 x3 zE _ (HL.out.below hR.below (Nat.le_refl _)).shapes R0.out).mono ?_); rintro e w4 ⟨rfl, hq⟩); have hR := hR.keep hq; clear c0 c1 c2 c3 c4 f0 f1 f2 f3 f4; have c0 := hR.c0; have c1 := hR.c1; have c2 := hR.c2; have c3 := hR.c3; have c4 := hR.c4; have f0 := hR.f0; have f1 := hR.f1; have f2 := hR.f2; have f3 := hR.f3; have f4 := hR.f4; clear hq)
          exact bodyPost_ret (v := .tuple #[.agg #[.int .i64 0, .int .i64 0, .int .i64 0, .int .i64 0, .int .i64 0], .int .i64 zE]) (by simp [results, Tryz.results116, go_sem, c0, c1, c2, c3, c4]) rfl ⟨rfl, hR.end5 _ _ _ _ _⟩
      · have hp : ([] : List (List UInt8)).length - used o 4 ≠ 0 := by omega
        rw [if_neg hp] at b5
        obtain ⟨e0, e1, e2⟩ := pErr_no (pGood_false HO.out (.inr hm))
        obtain ⟨r0, r1, r2, r3, r4, r5⟩ := HR.out
        rw [e0] at r0
        rw [e1] at r1
        rw [e2] at r2 r3 r4 r5
        subst r0 r1 r2 r3 r4 r5
        have hp' : 0 < ([] : List (List UInt8)).length - used o 4 := by omega
        generalize ([] : List (List UInt8)).length - used o 4 = m at *
        clear e0 e1 e2 hT hm hu hv hp
        go_wp2
        exact bodyPost_ret (v := .tuple #[.agg #[.int .i64 0, .int .i64 0, .int .i64 0, .int .i64 0, .int .i64 0], .int .i64 3]) (by simp [results, Tryz.results116, go_sem, c0, c1, c2, c3, c4]) rfl ⟨rfl, hR.end5 _ _ _ _ _⟩
    · have hR := hR.keep hQ.2
      have c0 := hR.c0; have c1 := hR.c1; have c2 := hR.c2; have c3 := hR.c3; have c4 := hR.c4; have f0 := hR.f0; have f1 := hR.f1; have f2 := hR.f2; have f3 := hR.f3; have f4 := hR.f4
      obtain ⟨e0, e1, e2⟩ := pErr_no (pGood_false HO.out (.inl hQ.1))
      obtain ⟨r0, r1, r2, r3, r4, r5⟩ := HR.out
      rw [e0] at r0
      rw [e1] at r1
      rw [e2] at r2 r3 r4 r5
      subst r0 r1 r2 r3 r4 r5
      clear e0 e1 e2 hQ
      go_wp2
      exact bodyPost_ret (v := .tuple #[.agg #[.int .i64 0, .int .i64 0, .int .i64 0, .int .i64 0, .int .i64 0], .int .i64 3]) (by simp [results, Tryz.results116, go_sem, c0, c1, c2, c3, c4]) rfl ⟨rfl, hR.end5 _ _ _ _ _⟩
  · go_enter Tryz.func116, Tryz.ntmps116
    go_wp2_with (first
      | (go_at_call 19; ((with_reducible refine (lineWords_some l nw ops _ hl HW.out).mono ?_); rintro e w1 ⟨A, rfl, hA, hown, hb⟩); have hR := (HI.out _).keep hb; have hx := own_text (l := txt nw :: ops.map txt) hown (j := 0) (x := txt nw) rfl; have HA := Lib.hid hown; clear hb hA hown)
      | (go_at_call 141; ((with_reducible refine (find_is (txt nw) _).mono ?_); rintro e w2 ⟨rfl, hb⟩); rw [HO.out]; have hR := hR.keep hb; have HA2 := Lib.hid (own_keep HA.out hb); clear hb hx))
    have hS := TakeAt.start w2 A 1 o (txt nw) ops (by rw [if_neg h0]) (own_lower HA2.out (Nat.zero_le _))
    refine (lineTake_is w2 w2.heap.size A o (txt nw) ops _ HOP.out hS HLEN.out HE.out (HL.out.below hR.below (Nat.le_refl _)) (Nat.le_refl _)).mono ?_
    clear hS
    rintro e w3 (⟨rfl, hT⟩ | ⟨rfl, hQ⟩)
    · have hR := hR.keep hT.below
      have c0 := hR.c0; have c1 := hR.c1; have c2 := hR.c2; have c3 := hR.c3; have c4 := hR.c4; have f0 := hR.f0; have f1 := hR.f1; have f2 := hR.f2; have f3 := hR.f3; have f4 := hR.f4
      have hu := okTo_used 4 hT.ok
      have b0 := hT.blk.cell 0; have b1 := hT.blk.cell 1; have b2 := hT.blk.cell 2; have b3 := hT.blk.cell 3; have b4 := hT.blk.cell 4; have b5 := hT.blk.cell 5
      have hv : ∀ j, j < 4 → fvOf o ops 4 j = fldR o ops j := fun j hj => if_pos hj
      simp only [rdC, hv 0 (by decide), hv 1 (by decide), hv 2 (by decide), hv 3 (by decide)] at b0 b1 b2 b3 b4 b5
      unfold opsV remV at b5
      have HT := Lib.hid hT
      by_cases hm : ops.length = used o 4
      · obtain ⟨e0, e1⟩ := pGood_true HO.out HZ.out hT.ok hm
        have hm0 : ops.length - used o 4 = 0 := by omega
        rw [hm0, if_pos rfl] at b5
        obtain ⟨r0, r1, r2, r3, r4, r5⟩ := HR.out
        rw [e0] at r0
        unfold pO at r1
        unfold pF at r2 r3 r4 r5
        rw [e0, r0, e1] at r1 r2 r3 r4 r5
        rw [show (nw :: ops).tail = ops from rfl] at r2 r3 r4 r5
        obtain ⟨x0, hx0⟩ : ∃ x, fldR o ops 0 = x := ⟨_, rfl⟩
        obtain ⟨x1, hx1⟩ : ∃ x, fldR o ops 1 = x := ⟨_, rfl⟩
        obtain ⟨x2, hx2⟩ : ∃ x, fldR o ops 2 = x := ⟨_, rfl⟩
        obtain ⟨x3, hx3⟩ : ∃ x, fldR o ops 3 = x := ⟨_, rfl⟩
        rw [hx0, hx1, hx2, hx3] at r0
        rw [hx0] at r2 b1
        rw [hx1] at r3 b2
        rw [hx2] at r4 b3
        rw [hx3] at r5 b4
        have R0 := Lib.hid r0
        clear hT hm hm0 e0 e1 hx0 hx1 hx2 hx3 hu hv r0
        by_cases hzE : zE = 0
        · rw [if_pos hzE] at r1 r2 r3 r4 r5
          subst r1 r2 r3 r4 r5 hzE
          go_wp2_with (go_at_call 95; ((with_reducible refine (codeCheckI_is o x0 x1 x2 x3 0 _ (HL.out.below hR.below (Nat.le_refl _)).shapes R0.out).mono ?_); rintro e w4 ⟨rfl, hq⟩); have hR := hR.keep hq; have hB := (Below.block hq w2.heap.size HT.out.blk.lt); clear c0 c1 c2 c3 c4 f0 f1 f2 f3 f4; have c0 := hR.c0; have c1 := hR.c1; have c2 := hR.c2; have c3 := hR.c3; have c4 := hR.c4; have f0 := hR.f0; have f1 := hR.f1; have f2 := hR.f2; have f3 := hR.f3; have f4 := hR.f4; have hl := HT.out.blk.lt; have b0 := (hq.cell (p := ⟨w2.heap.size, 0, none⟩) hl).trans b0; have b1 := (hq.cell (p := ⟨w2.heap.size, 1, none⟩) hl).trans b1; have b2 := (hq.cell (p := ⟨w2.heap.size, 2, none⟩) hl).trans b2; have b3 := (hq.cell (p := ⟨w2.heap.size, 3, none⟩) hl).trans b3; have b4 := (hq.cell (p := ⟨w2.heap.size, 4, none⟩) hl).trans b4; clear hq hB hl)
          exact bodyPost_ret (v := .tuple #[.agg #[.int .i64 o, .int .i64 x0, .int .i64 x1, .int .i64 x2, .int .i64 x3], .int .i64 0]) (by simp [results, Tryz.results116, go_sem, c0, c1, c2, c3, c4]) rfl ⟨rfl, hR.end5 _ _ _ _ _⟩
        · rw [if_neg hzE] at r1 r2 r3 r4 r5
          subst r1 r2 r3 r4 r5
          have hzE' : (zE != 0) = true := by simpa using hzE
          clear hzE
          go_wp2_with (go_at_call 95; ((with_reducible refine (codeCheckI_is o x0 x1 x2 x3 zE _ (HL.out.below hR.below (Nat.le_refl _)).shapes R0.out).mono ?_); rintro e w4 ⟨rfl, hq⟩); have hR := hR.keep hq; clear c0 c1 c2 c3 c4 f0 f1 f2 f3 f4; have c0 := hR.c0; have c1 := hR.c1; have c2 := hR.c2; have c3 := hR.c3; have c4 := hR.c4; have f0 := hR.f0; have f1 := hR.f1; have f2 := hR.f2; have f3 := hR.f3; have f4 := hR.f4; clear hq)
          exact bodyPost_ret (v := .tuple #[.agg #[.int .i64 0, .int .i64 0, .int .i64 0, .int .i64 0, .int .i64 0], .int .i64 zE]) (by simp [results, Tryz.results116, go_sem, c0, c1, c2, c3, c4]) rfl ⟨rfl, hR.end5 _ _ _ _ _⟩
      · have hp : ops.length - used o 4 ≠ 0 := by omega
        rw [if_neg hp] at b5
        obtain ⟨e0, e1, e2⟩ := pErr_no (pGood_false HO.out (.inr hm))
        obtain ⟨r0, r1, r2, r3, r4, r5⟩ := HR.out
        rw [e0] at r0
        rw [e1] at r1
        rw [e2] at r2 r3 r4 r5
        subst r0 r1 r2 r3 r4 r5
        have hp' : 0 < ops.length - used o 4 := by omega
        generalize ops.length - used o 4 = m at *
        clear e0 e1 e2 hT hm hu hv hp
        go_wp2
        exact bodyPost_ret (v := .tuple #[.agg #[.int .i64 0, .int .i64 0, .int .i64 0, .int .i64 0, .int .i64 0], .int .i64 3]) (by simp [results, Tryz.results116, go_sem, c0, c1, c2, c3, c4]) rfl ⟨rfl, hR.end5 _ _ _ _ _⟩
    · have hR := hR.keep hQ.2
      have c0 := hR.c0; have c1 := hR.c1; have c2 := hR.c2; have c3 := hR.c3; have c4 := hR.c4; have f0 := hR.f0; have f1 := hR.f1; have f2 := hR.f2; have f3 := hR.f3; have f4 := hR.f4
      obtain ⟨e0, e1, e2⟩ := pErr_no (pGood_false HO.out (.inl hQ.1))
      obtain ⟨r0, r1, r2, r3, r4, r5⟩ := HR.out
      rw [e0] at r0
      rw [e1] at r1
      rw [e2] at r2 r3 r4 r5
      subst r0 r1 r2 r3 r4 r5
      clear e0 e1 e2 hQ
      go_wp2
      exact bodyPost_ret (v := .tuple #[.agg #[.int .i64 0, .int .i64 0, .int .i64 0, .int .i64 0, .int .i64 0], .int .i64 3]) (by simp [results, Tryz.results116, go_sem, c0, c1, c2, c3, c4]) rfl ⟨rfl, hR.end5 _ _ _ _ _⟩
theorem lineParse_is (l : List UInt8) (s : ByteArray) (w : World) (hs : s = txt l) (hl : l.length < 1000000) (hL : LinLaid w) :
    Calls Tryz.prog 116 #[.string s] w (RetIns w (wds l)) := by
  subst hs
  cases h : wds l with
  | nil =>
    have hg : pGood [] = false := by
      unfold pGood pOp
      rw [show txt (wAt [] 0) = ⟨#[]⟩ from rfl, find_nil]
      rfl
    obtain ⟨e0, e1, e2⟩ := pErr_no hg
    unfold RetIns
    rw [e0, e1, e2, e2, e2, e2]
    exact lineParse_none l w hl h
  | cons nw ops =>
    by_cases hz : wFind (txt nw) = 0
    · have hg : pGood (nw :: ops) = false := by
        have e : pOp (nw :: ops) = 0 := hz
        unfold pGood
        rw [e]
        rfl
      obtain ⟨e0, e1, e2⟩ := pErr_no hg
      unfold RetIns
      rw [e0, e1, e2, e2, e2, e2]
      exact lineParse_name l nw ops w hl h hz
    · exact lineParse_op l nw ops _ w hl h rfl hz hL
end

end Go.Proofs.YtekhgidbnpfmnaaGreatDoor
