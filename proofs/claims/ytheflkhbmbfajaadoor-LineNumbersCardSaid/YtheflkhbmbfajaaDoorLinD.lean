/- Lines of instructions in plain terms: an instruction's words, and what a line's words are read as. Nothing of any program. -/
import Derived.Lib.Strings
import Derived.Test.YtheflkhbmbfajaaDoorCodD
import Derived.Test.YtheflkhbmbfajaaDoorStr
import Derived.Test.YtheflkhbmbfajaaDoorLinW
namespace Go.Proofs.YtheflkhbmbfajaaDoor
open Go.Lib

/-- A letter whose field is a register, a number, or either. -/
def isReg (c : Int) : Prop := c = 100 ∨ c = 97 ∨ c = 98
def isNum (c : Int) : Prop := c = 115 ∨ c = 117
instance (c : Int) : Decidable (isReg c) := inferInstanceAs (Decidable (_ ∨ _))
instance (c : Int) : Decidable (isNum c) := inferInstanceAs (Decidable (_ ∨ _))
/-- A field's words (one, or none). -/
def opdW (c x : Int) : List (List UInt8) := if isReg c then [114 :: decL x] else if isNum c then [decL x] else []
/-- One of fourOf. -/
def fourOf (d a b n : Int) (k : Nat) : Int := match k with | 0 => d | 1 => a | 2 => b | _ => n
/-- The words of an instruction's line: its name's, and the first k fields'. -/
def tells (o d a b n : Int) : Nat → List (List UInt8)
  | 0 => [(wName o).data.toList]
  | k + 1 => tells o d a b n k ++ opdW (shL o k) (fourOf d a b n k)
def lineWs (o d a b n : Int) : List (List UInt8) := tells o d a b n 4
/-- An instruction's line; nothing, if it may not be. -/
def lineT (o d a b n : Int) : ByteArray := if cChk o d a b n = 0 then txt (join (lineWs o d a b n) [32]) else ⟨#[]⟩

/-- Is a word a register? -/
def regOk (w : List UInt8) : Bool := hasPrefix w [114] && numOk (trimPrefix w [114])
def regV (w : List UInt8) : Int := numV (trimPrefix w [114])
def opdOk (c : Int) (w : List UInt8) : Bool := if isReg c then regOk w else if isNum c then numOk w else true
def opdV (c : Int) (w : List UInt8) : Int := if isReg c then regV w else if isNum c then numV w else 0
/-- How many words the first k fields have. -/
def used (o : Int) : Nat → Nat
  | 0 => 0
  | k + 1 => used o k + if isReg (shL o k) ∨ isNum (shL o k) then 1 else 0
/-- The word at place i, the empty one behind the last. -/
def wAt (ws : List (List UInt8)) (i : Nat) : List UInt8 := ws.getD i []
/-- A field as it is read of the operands' words, and whether the first k can be read. -/
def fldR (o : Int) (ws : List (List UInt8)) (k : Nat) : Int := opdV (shL o k) (wAt ws (used o k))
def okTo (o : Int) (ws : List (List UInt8)) : Nat → Bool
  | 0 => true
  | k + 1 => okTo o ws k && opdOk (shL o k) (wAt ws (used o k))
/-- What a line is read as. -/
def pOp (ws : List (List UInt8)) : Int := wFind (txt (wAt ws 0))
def pGood (ws : List (List UInt8)) : Bool := decide (pOp ws ≠ 0) && (okTo (pOp ws) ws.tail 4 && decide (ws.tail.length = used (pOp ws) 4))
def pErr (ws : List (List UInt8)) : Int := if pGood ws = true then cChk (pOp ws) (fldR (pOp ws) ws.tail 0) (fldR (pOp ws) ws.tail 1) (fldR (pOp ws) ws.tail 2) (fldR (pOp ws) ws.tail 3) else 3
def pO (ws : List (List UInt8)) : Int := if pErr ws = 0 then pOp ws else 0
def pF (ws : List (List UInt8)) (k : Nat) : Int := if pErr ws = 0 then fldR (pOp ws) ws.tail k else 0

theorem find_nil : wFind ⟨#[]⟩ = 0 := find_0 fun _ hj => nm_some hj
theorem find_name {o : Int} (h : isOp o) : wFind (wName o) = o := by
  unfold isOp at h
  rw [wName_in h.1 h.2, find_nm (by omega)]
  omega
theorem find_op {s : ByteArray} (h : wFind s ≠ 0) : isOp (wFind s) := by
  by_cases k : ∃ j, j < 43 ∧ nm j = s
  · obtain ⟨j, hj, rfl⟩ := k
    rw [find_nm hj]
    unfold isOp
    omega
  · exact absurd (find_0 fun j hj e => k ⟨j, hj, e⟩) h
theorem pOp_op {ws : List (List UInt8)} (h : pGood ws = true) : isOp (pOp ws) := by
  unfold pGood at h
  simp only [Bool.and_eq_true, decide_eq_true_eq] at h
  exact find_op h.1
theorem numOk_nil : numOk [] = false := by decide
theorem regOk_nil : regOk [] = false := by decide
/-- Who can be read has words enough. -/
theorem opdOk_nil {c : Int} (h : isReg c ∨ isNum c) : opdOk c [] = false := by
  unfold opdOk
  by_cases k : isReg c
  · rw [if_pos k, regOk_nil]
  · rw [if_neg k, if_pos (h.resolve_left k), numOk_nil]
theorem okTo_used {o : Int} {ws : List (List UInt8)} : ∀ (k : Nat), okTo o ws k = true → used o k ≤ ws.length
  | 0, _ => Nat.zero_le _
  | k + 1, h => by
    rw [okTo, Bool.and_eq_true] at h
    have i := okTo_used k h.1
    rw [used]
    split
    · rename_i q
      by_cases e : used o k < ws.length
      · omega
      · exfalso
        have hn : wAt ws (used o k) = [] := by
          unfold wAt
          rw [List.getD_eq_getElem?_getD, List.getElem?_eq_none (by omega)]
          rfl
        rw [hn, opdOk_nil q] at h
        exact absurd h.2 (by decide)
    · omega
theorem name_word {o : Int} (h : isOp o) : (wName o).data.toList ≠ [] ∧ ∀ x ∈ (wName o).data.toList, x ≠ 32 := by
  unfold isOp at h
  rw [wName_in h.1 h.2]
  refine ⟨fun e => nm_some (k := (o - 1).toNat) (by omega) (str_ext e), fun x hx e => ?_⟩
  subst e
  exact nm_blank (by omega) hx
theorem opdW_word {c x : Int} : ∀ w ∈ opdW c x, w ≠ [] ∧ ∀ y ∈ w, y ≠ 32 := by
  intro w hw
  have q : ∀ y ∈ decL x, y ≠ 32 := fun y hy e => by subst e; exact decL_blank x hy
  unfold opdW at hw
  split at hw
  · simp only [List.mem_singleton] at hw
    subst hw
    refine ⟨by simp, fun y hy => ?_⟩
    rcases List.mem_cons.1 hy with rfl | hy
    · decide
    · exact q y hy
  · split at hw
    · simp only [List.mem_singleton] at hw
      subst hw
      exact ⟨decL_some x, q⟩
    · simp at hw
theorem tells_word {o d a b n : Int} (h : isOp o) : ∀ (k : Nat), ∀ w ∈ tells o d a b n k, w ≠ [] ∧ ∀ x ∈ w, x ≠ 32
  | 0, w, hw => by
    simp only [tells, List.mem_singleton] at hw
    subst hw
    exact name_word h
  | k + 1, w, hw => by
    rw [tells] at hw
    rcases List.mem_append.1 hw with hw | hw
    · exact tells_word h k w hw
    · exact opdW_word w hw
/-- A line's words. -/
theorem wds_line {o d a b n : Int} (h : cChk o d a b n = 0) : wds (lineT o d a b n).data.toList = lineWs o d a b n := by
  unfold lineT
  rw [if_pos h, txt_list]
  exact wds_join _ (tells_word (chk_op h) 4)
theorem reg_dec {x : Int} (h0 : 0 ≤ x) (h1 : x ≤ 31) : regOk (114 :: decL x) = true ∧ regV (114 :: decL x) = x := by
  have e : trimPrefix (114 :: decL x) [114] = decL x := by simp [trimPrefix, hasPrefix, List.isPrefixOf]
  obtain ⟨p, q⟩ := num_dec (n := x) (by omega) (by omega)
  unfold regOk regV
  rw [e, p, q]
  refine ⟨?_, rfl⟩
  simp [hasPrefix, List.isPrefixOf]
theorem num_dec' {x : Int} (h0 : -32768 ≤ x) (h1 : x ≤ 65535) : numOk (decL x) = true ∧ numV (decL x) = x := num_dec (by omega) (by omega)
/-- What has a line is read of its words. -/
theorem line_back {o d a b n : Int} (h : cChk o d a b n = 0) : pErr (lineWs o d a b n) = 0 ∧ pO (lineWs o d a b n) = o ∧ pF (lineWs o d a b n) 0 = d ∧ pF (lineWs o d a b n) 1 = a ∧ pF (lineWs o d a b n) 2 = b ∧ pF (lineWs o d a b n) 3 = n := by
  have k := chk_op h
  have hf : pOp (lineWs o d a b n) = o := by
    have e : lineWs o d a b n = (wName o).data.toList :: (lineWs o d a b n).tail := by
      simp only [lineWs, tells, List.append_assoc, List.cons_append, List.nil_append, List.tail_cons]
    unfold pOp
    rw [e]
    simp only [wAt, List.getD_cons_zero]
    rw [txt_of, find_name k]
  have ht : (lineWs o d a b n).tail = opdW (shL o 0) d ++ (opdW (shL o 1) a ++ (opdW (shL o 2) b ++ opdW (shL o 3) n)) := by
    simp only [lineWs, tells, List.append_assoc, List.cons_append, List.nil_append, List.tail_cons, fourOf]
  have hz : o ≠ 0 := by unfold isOp at k; omega
  suffices hh : okTo o (lineWs o d a b n).tail 4 = true ∧ (lineWs o d a b n).tail.length = used o 4 ∧ fldR o (lineWs o d a b n).tail 0 = d ∧ fldR o (lineWs o d a b n).tail 1 = a ∧ fldR o (lineWs o d a b n).tail 2 = b ∧ fldR o (lineWs o d a b n).tail 3 = n by
    obtain ⟨q0, q1, q2, q3, q4, q5⟩ := hh
    have hg : pGood (lineWs o d a b n) = true := by
      unfold pGood
      rw [hf, q0, q1]
      simp [hz]
    have he : pErr (lineWs o d a b n) = 0 := by
      unfold pErr
      rw [if_pos hg, hf, q2, q3, q4, q5]
      exact h
    refine ⟨he, ?_, ?_, ?_, ?_, ?_⟩
    · unfold pO; rw [if_pos he, hf]
    all_goals unfold pF; rw [if_pos he, hf]; assumption
  obtain ⟨e0, e1, e2, e3⟩ := chk_0 h
  obtain ⟨_, _, _, _, _, _, _, _, _, hs⟩ := shaped k
  clear h hf hz k
  rw [ht]
  clear ht
  unfold fldR
  simp only [okTo, used]
  generalize shL o 0 = l0 at *
  generalize shL o 1 = l1 at *
  generalize shL o 2 = l2 at *
  generalize shL o 3 = l3 at *
  have r100 : isReg 100 := by decide
  have r97 : isReg 97 := by decide
  have r98 : isReg 98 := by decide
  have r115 : ¬ isReg 115 := by decide
  have r117 : ¬ isReg 117 := by decide
  have r45 : ¬ isReg 45 := by decide
  have n115 : isNum 115 := by decide
  have n117 : isNum 117 := by decide
  have n45 : ¬ isNum 45 := by decide
  rcases hs with ⟨_, _, rfl, rfl, rfl, rfl⟩ | ⟨_, _, rfl, rfl, rfl, rfl⟩ | ⟨_, rfl, rfl, rfl, rfl⟩ | ⟨_, rfl, rfl, rfl, rfl⟩ | ⟨_, rfl, rfl, rfl, rfl⟩ | ⟨_, rfl, rfl, rfl, rfl⟩ | ⟨_, rfl, rfl, rfl, rfl⟩ | ⟨_, rfl, rfl, rfl, rfl⟩ <;>
    simp only [fE_r, fE_s, fE_u, fE_n, true_or, or_true, Int.reduceNeg] at e0 e1 e2 e3
  · have d0 := reg_dec (x := d) (by omega) (by omega)
    have a0 := reg_dec (x := a) (by omega) (by omega)
    have b0 := reg_dec (x := b) (by omega) (by omega)
    have z0 : n = 0 := by omega
    simp [opdW, opdOk, opdV, wAt, r100, r97, r98, r45, n45, d0, a0, b0, z0]
  · have d0 := reg_dec (x := d) (by omega) (by omega)
    have a0 := reg_dec (x := a) (by omega) (by omega)
    have b0 : b = 0 := by omega
    have z0 : n = 0 := by omega
    simp [opdW, opdOk, opdV, wAt, r100, r97, r45, n45, d0, a0, b0, z0]
  · have d0 := reg_dec (x := d) (by omega) (by omega)
    have a0 := reg_dec (x := a) (by omega) (by omega)
    have b0 : b = 0 := by omega
    have z0 := num_dec' (x := n) (by omega) (by omega)
    simp [opdW, opdOk, opdV, wAt, r100, r97, r45, n45, r115, n115, d0, a0, b0, z0]
  · have d0 := reg_dec (x := d) (by omega) (by omega)
    have a0 := reg_dec (x := a) (by omega) (by omega)
    have b0 : b = 0 := by omega
    have z0 := num_dec' (x := n) (by omega) (by omega)
    simp [opdW, opdOk, opdV, wAt, r100, r97, r45, n45, r117, n117, d0, a0, b0, z0]
  · have d0 := reg_dec (x := d) (by omega) (by omega)
    have a0 : a = 0 := by omega
    have b0 : b = 0 := by omega
    have z0 := num_dec' (x := n) (by omega) (by omega)
    simp [opdW, opdOk, opdV, wAt, r100, r45, n45, r117, n117, d0, a0, b0, z0]
  · have d0 : d = 0 := by omega
    have a0 : a = 0 := by omega
    have b0 : b = 0 := by omega
    have z0 := num_dec' (x := n) (by omega) (by omega)
    simp [opdW, opdOk, opdV, wAt, r45, n45, r117, n117, d0, a0, b0, z0]
  · have d0 : d = 0 := by omega
    have a0 := reg_dec (x := a) (by omega) (by omega)
    have b0 : b = 0 := by omega
    have z0 : n = 0 := by omega
    simp [opdW, opdOk, opdV, wAt, r97, r45, n45, d0, a0, b0, z0]
  · have d0 : d = 0 := by omega
    have a0 : a = 0 := by omega
    have b0 : b = 0 := by omega
    have z0 : n = 0 := by omega
    simp [opdW, opdOk, opdV, r45, n45, d0, a0, b0, z0]
/-- An instruction's words are few and short. -/
theorem name_short {o : Int} (h : isOp o) : (wName o).data.toList.length ≤ 5 := by
  have q : ((List.range 43).all fun k => decide ((nm k).data.toList.length ≤ 5)) = true := by decide +kernel
  unfold isOp at h
  rw [wName_in h.1 h.2]
  simpa using (List.all_eq_true.1 q) (o - 1).toNat (List.mem_range.2 (by omega))
theorem line_short {o d a b n : Int} (h : cChk o d a b n = 0) : (lineWs o d a b n).length ≤ 5 ∧ ∀ w ∈ lineWs o d a b n, w.length ≤ 12 := by
  have k := chk_op h
  obtain ⟨e0, e1, e2, e3⟩ := chk_0 h
  have bd : ∀ (c x : Int), fErr c x = 0 → -32768 ≤ x ∧ x ≤ 65535 := by
    intro c x hx
    unfold fErr at hx
    split at hx
    · rename_i q
      unfold rLow rHigh at q
      repeat' split at q
      all_goals omega
    · split at hx <;> cases hx
  have w0 : ∀ (c x : Int), fErr c x = 0 → (opdW c x).length ≤ 1 ∧ ∀ w ∈ opdW c x, w.length ≤ 12 := by
    intro c x hx
    have hb := bd c x hx
    have := decL_length (n := x) (by omega) (by omega)
    unfold opdW
    split
    · refine ⟨by simp, fun w hw => ?_⟩
      simp only [List.mem_singleton] at hw
      subst hw
      simp; omega
    · split
      · refine ⟨by simp, fun w hw => ?_⟩
        simp only [List.mem_singleton] at hw
        subst hw
        omega
      · simp
  have p0 := w0 _ _ e0
  have p1 := w0 _ _ e1
  have p2 := w0 _ _ e2
  have p3 := w0 _ _ e3
  have pn := name_short k
  simp only [lineWs, tells, fourOf, List.append_assoc]
  refine ⟨by simp; omega, fun w hw => ?_⟩
  simp only [List.mem_append, List.mem_singleton] at hw
  rcases hw with rfl | hw | hw | hw | hw
  · omega
  · exact p0.2 w hw
  · exact p1.2 w hw
  · exact p2.2 w hw
  · exact p3.2 w hw
end Go.Proofs.YtheflkhbmbfajaaDoor
