/- Reading an instruction's operands, word by word: what the reader's methods answer, and what they leave in its block. Conditions: the tables and errors that the program lists lie as its text has them. -/
import Derived.Test.YtheflkhbmbfajaaDoorLinA
import Derived.Test.YtheflkhbmbfajaaDoorLinM
namespace Go.Proofs.YtheflkhbmbfajaaDoor
open Go.RowKit Go.Shelf

/-- The words that are left: of n in block A, the last m. -/
def remV (A n m : Nat) : Value := .slice (some ⟨A, if m = 0 then n - 1 else n - m, none⟩) m m
/-- A reader's cells. -/
def rdC (o d a b n : Int) (v : Value) : Array Value := #[.int .i64 o, .int .i64 d, .int .i64 a, .int .i64 b, .int .i64 n, v]
theorem lineNext_none (B A n : Nat) (cs : Array Value) (w : World) (h : BlkAt B 42 cs w) (h5 : cs[5]? = some (remV A n 0)) :
    Calls Tryd.prog 44 #[.pointer (some ⟨B, 0, none⟩)] w fun e w' => e = .returned (.string ⟨#[]⟩) ∧ w = w' := by
  have c5 := (h.cell 5).trans h5
  unfold remV at c5
  go_enter Tryd.func44, Tryd.ntmps44
  go_wp2
  go_ret
  exact ⟨rfl, rfl⟩
set_option maxHeartbeats 1000000 in
theorem lineNext_some (B A off k : Nat) (x : ByteArray) (cs : Array Value) (w : World) (h : BlkAt B 42 cs w) (h5 : cs[5]? = some (.slice (some ⟨A, off, none⟩) (k + 1) (k + 1))) (hx : w.cell? ⟨A, off, none⟩ = some (.string x)) (hk : k < 1000000) :
    Calls Tryd.prog 44 #[.pointer (some ⟨B, 0, none⟩)] w fun e w' => e = .returned (.string x) ∧ w' = w.setCell ⟨B, 5, none⟩ (.slice (some ⟨A, if k = 0 then off else off + 1, none⟩) k k) := by
  have c5 := (h.cell 5).trans h5
  have f5 := h.free 5
  by_cases k0 : k = 0
  · subst k0
    go_enter Tryd.func44, Tryd.ntmps44
    go_wp2
    go_ret
    exact ⟨rfl, rfl⟩
  · rw [if_neg k0]
    go_enter Tryd.func44, Tryd.ntmps44
    go_wp2
    go_ret
    exact ⟨rfl, rfl⟩

/-- The operands' words that are left behind the first u. -/
def opsV (A : Nat) (ops : List (List UInt8)) (u : Nat) : Value := remV A (ops.length + 1) (ops.length - u)
theorem set_same {cs : Array Value} {k : Nat} {v : Value} (h : cs[k]? = some v) : cs.setIfInBounds k v = cs := by
  obtain ⟨hk, rfl⟩ := Array.getElem?_eq_some_iff.1 h
  apply Array.ext
  · simp
  · intro i h1 h2
    rw [Array.getElem_setIfInBounds]
    split
    · rename_i e
      subst e; rfl
    · rfl
theorem set_off {cs : Array Value} {off : Nat} {y : Value} (v : Value) (ho : off < 5) (hy : cs[off]? = some y) : (cs.setIfInBounds 5 v)[off]? = some y := by
  rw [Array.getElem?_setIfInBounds_ne (by omega)]
  exact hy
/-- What has been done in a reader's block. -/
def Did (B : Nat) (w : World) (v : Value) (cs' : Array Value) (e : Ending) (w' : World) : Prop := e = .returned v ∧ OnlyB B w w' ∧ BlkAt B 42 cs' w'
theorem lineNext_is (B A u : Nat) (ops : List (List UInt8)) (cs : Array Value) (w : World) (h : BlkAt B 42 cs w) (h5 : cs[5]? = some (opsV A ops u)) (hA : ∀ j x, ops[j]? = some x → w.cell? ⟨A, j + 1, none⟩ = some (.string (txt x))) (hl : ops.length < 1000000) :
    Calls Tryd.prog 44 #[.pointer (some ⟨B, 0, none⟩)] w (Did B w (.string (txt (wAt ops u))) (cs.setIfInBounds 5 (opsV A ops (u + 1)))) := by
  by_cases k : ops.length ≤ u
  · have e0 : ops.length - u = 0 := by omega
    have e1 : ops.length - (u + 1) = 0 := by omega
    have ew : wAt ops u = [] := by unfold wAt; rw [List.getD_eq_getElem?_getD, List.getElem?_eq_none k]; rfl
    unfold opsV at *
    rw [e0] at h5
    refine (lineNext_none B A (ops.length + 1) cs w h h5).mono ?_
    rintro e w' ⟨rfl, rfl⟩
    rw [ew, e1, set_same h5]
    exact ⟨rfl, .refl _ _, h⟩
  · have hu : u < ops.length := by omega
    obtain ⟨j, hj⟩ : ∃ j, ops.length - u = j + 1 := ⟨ops.length - u - 1, by omega⟩
    have e1 : ops.length - (u + 1) = j := by omega
    have hx : ops[u]? = some ops[u] := List.getElem?_eq_getElem hu
    have ew : wAt ops u = ops[u] := by unfold wAt; rw [List.getD_eq_getElem?_getD, hx]; rfl
    unfold opsV remV at *
    rw [hj, if_neg (Nat.succ_ne_zero j), show ops.length + 1 - (j + 1) = u + 1 by omega] at h5
    refine (lineNext_some B A (u + 1) j (txt ops[u]) cs w h h5 (hA u _ hx) (by omega)).mono ?_
    rintro e w' ⟨rfl, rfl⟩
    rw [ew, e1]
    have ev : (if j = 0 then ops.length + 1 - 1 else ops.length + 1 - j) = (if j = 0 then u + 1 else u + 1 + 1) := by split <;> omega
    rw [ev]
    exact ⟨rfl, .set _ _ _ _, h.set _ _⟩
theorem lineCut_is (l : List UInt8) (w : World) :
    Calls Tryd.prog 43 #[.string (txt l), .string ⟨#[114]⟩] w fun e w' => e = .returned (.tuple #[.string (txt (Lib.trimPrefix l [114])), .bool (Lib.hasPrefix l [114])]) ∧ w = w' := by
  refine (strings_CutPrefix (txt l) ⟨#[114]⟩ w).mono ?_
  rintro e w' ⟨rfl, rfl⟩
  rw [txt_list]
  exact ⟨rfl, rfl⟩
theorem trim_le (l : List UInt8) : (Lib.trimPrefix l [114]).length ≤ l.length := by unfold Lib.trimPrefix; split <;> simp
theorem wAt_le {ops : List (List UInt8)} {m : Nat} (h : ∀ x ∈ ops, x.length ≤ m) (u : Nat) : (wAt ops u).length ≤ m := by
  unfold wAt
  rw [List.getD_eq_getElem?_getD]
  by_cases k : u < ops.length
  · rw [List.getElem?_eq_getElem k]
    exact h _ (List.getElem_mem k)
  · rw [List.getElem?_eq_none (by omega)]
    simp
set_option maxHeartbeats 1000000 in
theorem lineTakeNum_is (B A u off : Nat) (y : Int) (ops : List (List UInt8)) (cs : Array Value) (w w0 : World) (h : BlkAt B 42 cs w) (h5 : cs[5]? = some (opsV A ops u)) (hA : ∀ j x, ops[j]? = some x → w.cell? ⟨A, j + 1, none⟩ = some (.string (txt x)))
    (hl : ops.length < 1000000) (hw : ∀ x ∈ ops, x.length ≤ 4294967296) (hL : LinLaid w0) (hb : Below w0.heap.size w0 w) (hB : w0.heap.size ≤ B) (ho : off < 5) (hy : cs[off]? = some (.int .i64 y)) :
    Calls Tryd.prog 28 #[.pointer (some ⟨B, 0, none⟩), .pointer (some ⟨B, off, none⟩)] w (Did B w (.bool (numOk (wAt ops u))) ((cs.setIfInBounds 5 (opsV A ops (u + 1))).setIfInBounds off (.int .i64 (numV (wAt ops u))))) := by
  have HA := Lib.hid hA
  have HW := Lib.hid (wAt_le hw u)
  have HY := Lib.hid (fun v => set_off v ho hy)
  have H5 := Lib.hid h5
  have HH := Lib.hid h
  clear hA h5 hw hy
  generalize hlw : wAt ops u = l
  rw [hlw] at HW
  have HLW := Lib.hid hlw
  clear hlw
  go_enter Tryd.func28, Tryd.ntmps28
  go_wp2_with (first
    | (go_at_call 44; ((with_reducible refine (lineNext_is B A u ops cs _ HH.out H5.out HA.out hl).mono ?_); rintro e w1 ⟨rfl, hq, hk⟩); rw [HLW.out]; have HO := Lib.hid hq; have HK := Lib.hid hk; have HB1 := Lib.hid (hq.below hb hB hb.size); clear hq hk)
    | (go_at_call 11; ((with_reducible refine (lineNumber_is l _ _ rfl (by have := HW.out; omega) (hL.below HB1.out (Nat.le_refl _))).mono ?_); rintro e w2 ⟨rfl, hb2⟩); have HO2 := Lib.hid (HO.out.on hb2); have HK2 := Lib.hid (HK.out.keep hb2); have hf := HK2.out.free off; have hx := (HK2.out.cell off).trans (HY.out _); clear hb2))
  all_goals (go_ret; exact ⟨rfl, HO2.out.next off _, HK2.out.set off _⟩)
set_option maxHeartbeats 2000000 in
theorem lineTakeReg_is (B A u off : Nat) (y : Int) (ops : List (List UInt8)) (cs : Array Value) (w w0 : World) (h : BlkAt B 42 cs w) (h5 : cs[5]? = some (opsV A ops u)) (hA : ∀ j x, ops[j]? = some x → w.cell? ⟨A, j + 1, none⟩ = some (.string (txt x)))
    (hl : ops.length < 1000000) (hw : ∀ x ∈ ops, x.length ≤ 4294967296) (hL : LinLaid w0) (hb : Below w0.heap.size w0 w) (hB : w0.heap.size ≤ B) (ho : off < 5) (hy : cs[off]? = some (.int .i64 y)) :
    Calls Tryd.prog 27 #[.pointer (some ⟨B, 0, none⟩), .pointer (some ⟨B, off, none⟩)] w (Did B w (.bool (regOk (wAt ops u))) ((cs.setIfInBounds 5 (opsV A ops (u + 1))).setIfInBounds off (.int .i64 (regV (wAt ops u))))) := by
  have HA := Lib.hid hA
  have HW := Lib.hid (Nat.le_trans (trim_le _) (wAt_le hw u))
  have HY := Lib.hid (fun v => set_off v ho hy)
  have H5 := Lib.hid h5
  have HH := Lib.hid h
  clear hA h5 hw hy
  unfold regV
  generalize hlw : wAt ops u = l
  rw [hlw] at HW
  have HLW := Lib.hid hlw
  clear hlw
  obtain ⟨mk, hmk⟩ : ∃ x, Lib.hasPrefix l [114] = x := ⟨_, rfl⟩
  obtain ⟨ok, hok⟩ : ∃ x, numOk (Lib.trimPrefix l [114]) = x := ⟨_, rfl⟩
  obtain ⟨nv, hnv⟩ : ∃ x, numV (Lib.trimPrefix l [114]) = x := ⟨_, rfl⟩
  obtain ⟨z, hz⟩ : ∃ x, regOk l = x := ⟨_, rfl⟩
  rw [hnv, hz]
  unfold regOk at hz
  rw [hmk, hok] at hz
  have HMK := Lib.hid hmk
  have HN := Lib.hid (fun w (e : Ending) w' => show RetNum w (Lib.trimPrefix l [114]) e w' → e = .returned (.tuple #[.int .i64 nv, .bool ok]) ∧ Below w.heap.size w w' by rw [← hok, ← hnv]; exact id)
  clear hmk hok hnv
  cases mk <;> cases ok
  all_goals
    simp at hz
    subst hz
  all_goals
    go_enter Tryd.func27, Tryd.ntmps27
    go_wp2_with (first
      | (go_at_call 44; ((with_reducible refine (lineNext_is B A u ops cs _ HH.out H5.out HA.out hl).mono ?_); rintro e w1 ⟨rfl, hq, hk⟩); rw [HLW.out]; have HO := Lib.hid hq; have HK := Lib.hid hk; have HB1 := Lib.hid (hq.below hb hB hb.size); clear hq hk)
      | (go_at_call 43; ((with_reducible refine (lineCut_is l _).mono ?_); rintro e w2 ⟨rfl, rfl⟩); rw [HMK.out])
      | (go_at_call 11; ((with_reducible refine (lineNumber_is (Lib.trimPrefix l [114]) _ _ rfl (by have := HW.out; omega) (hL.below HB1.out (Nat.le_refl _))).mono ?_); intro e w2 hr2); replace hr2 := HN.out _ _ _ hr2; obtain ⟨rfl, hb2⟩ := hr2; have HO2 := Lib.hid (HO.out.on hb2); have HK2 := Lib.hid (HK.out.keep hb2); have hf := HK2.out.free off; have hx := (HK2.out.cell off).trans (HY.out _); clear hb2))
    go_ret
    exact ⟨rfl, HO2.out.next off _, HK2.out.set off _⟩
/-- The reader's own methods as values. -/
def takeR (B : Nat) : Value := .func (.func 27) #[.pointer (some ⟨B, 0, none⟩)] #[]
def takeN (B : Nat) : Value := .func (.func 28) #[.pointer (some ⟨B, 0, none⟩)] #[]
set_option maxHeartbeats 4000000 in
theorem lineTakeOne_is (B A u off : Nat) (c y : Int) (ops : List (List UInt8)) (cs : Array Value) (w w0 : World) (h : BlkAt B 42 cs w) (h5 : cs[5]? = some (opsV A ops u)) (hA : ∀ j x, ops[j]? = some x → w.cell? ⟨A, j + 1, none⟩ = some (.string (txt x)))
    (hl : ops.length < 1000000) (hw : ∀ x ∈ ops, x.length ≤ 4294967296) (hL : LinLaid w0) (hb : Below w0.heap.size w0 w) (hB : w0.heap.size ≤ B) (hc : c = 100 ∧ off = 1 ∨ c = 97 ∧ off = 2 ∨ c = 98 ∧ off = 3 ∨ (c = 115 ∨ c = 117) ∧ off = 4) (hy : cs[off]? = some (.int .i64 y)) :
    Calls Tryd.prog 39 #[.pointer (some ⟨B, 0, none⟩), .int .i32 c, takeR B, takeN B] w (Did B w (.bool (opdOk c (wAt ops u))) ((cs.setIfInBounds 5 (opsV A ops (u + 1))).setIfInBounds off (.int .i64 (opdV c (wAt ops u))))) := by
  unfold takeR takeN
  have HR := Lib.hid (fun off ho hy => lineTakeReg_is B A u off y ops cs w w0 h h5 hA hl hw hL hb hB ho hy)
  have HN := Lib.hid (fun off ho hy => lineTakeNum_is B A u off y ops cs w w0 h h5 hA hl hw hL hb hB ho hy)
  have HY := Lib.hid hy
  clear h h5 hA hy
  rcases hc with ⟨rfl, rfl⟩ | ⟨rfl, rfl⟩ | ⟨rfl, rfl⟩ | ⟨rfl | rfl, rfl⟩
  any_goals
    rw [show opdOk _ (wAt ops u) = regOk (wAt ops u) from if_pos (by decide), show opdV _ (wAt ops u) = regV (wAt ops u) from if_pos (by decide)]
    go_enter Tryd.func39, Tryd.ntmps39
    go_wp2_with (go_at_call 27; ((with_reducible refine (HR.out _ (by decide) HY.out).mono ?_); rintro e w1 ⟨rfl, hq, hk⟩); have HO := Lib.hid hq; have HK := Lib.hid hk; clear hq hk)
    go_ret
    exact ⟨rfl, HO.out, HK.out⟩
  all_goals
    rw [show opdOk _ (wAt ops u) = numOk (wAt ops u) from (if_neg (by decide)).trans (if_pos (by decide)), show opdV _ (wAt ops u) = numV (wAt ops u) from (if_neg (by decide)).trans (if_pos (by decide))]
    go_enter Tryd.func39, Tryd.ntmps39
    go_wp2_with (go_at_call 28; ((with_reducible refine (HN.out _ (by decide) HY.out).mono ?_); rintro e w1 ⟨rfl, hq, hk⟩); have HO := Lib.hid hq; have HK := Lib.hid hk; clear hq hk)
    go_ret
    exact ⟨rfl, HO.out, HK.out⟩
theorem lineNoOne_is (B : Nat) (f g : Value) (w : World) :
    Calls Tryd.prog 39 #[.pointer (some ⟨B, 0, none⟩), .int .i32 45, f, g] w fun e w' => e = .returned (.bool true) ∧ w = w' := by
  go_enter Tryd.func39, Tryd.ntmps39
  go_wp2
  go_ret
  exact ⟨rfl, rfl⟩
end Go.Proofs.YtheflkhbmbfajaaDoor
