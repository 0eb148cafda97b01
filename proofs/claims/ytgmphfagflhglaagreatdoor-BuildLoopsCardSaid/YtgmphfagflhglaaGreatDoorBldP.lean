/- Code that is made instruction by instruction: what each call answers and leaves, in plain numbers. Nothing of any program. -/
import Derived.Test.YtgmphfagflhglaaGreatDoorLabM
import Derived.Test.YtgmphfagflhglaaGreatDoorCodD
namespace Go.Proofs.YtgmphfagflhglaaGreatDoor
open Go.RowKit Go.Maps

/-- An instruction: its operation, its registers, its number. -/
abbrev I5 := Int × Int × Int × Int × Int
instance : Inhabited I5 := ⟨(0, 0, 0, 0, 0)⟩
def insK : Kd I5 where
  k := 5
  enc r := [.int .i64 r.1, .int .i64 r.2.1, .int .i64 r.2.2.1, .int .i64 r.2.2.2.1, .int .i64 r.2.2.2.2]
  len _ := rfl
  ones := by intro x v hv; simp at hv; rcases hv with rfl | rfl | rfl | rfl | rfl <;> rfl
  pos := by decide
def insE (i : I5) : Int := cChk i.1 i.2.1 i.2.2.1 i.2.2.2.1 i.2.2.2.2
def insW (i : I5) : Int := cEnc i.1 i.2.1 i.2.2.1 i.2.2.2.1 i.2.2.2.2
/-- What is kept: the instructions, the names' places, the names' uses. -/
structure Bst where
  L : List I5
  ds : Df
  us : Df
def Bst.add (s : Bst) (l : List I5) : Bst := ⟨s.L ++ l, s.ds, s.us⟩
def Bst.ins (s : Bst) (i : I5) : Bst := if insE i = 0 then s.add [i] else s
def Bst.lab (s : Bst) (n : ByteArray) (p : Int) : Bst := ⟨s.L, defS s.ds n p, s.us⟩
def Bst.use (s : Bst) (n : ByteArray) (p : Int) : Bst := ⟨s.L, s.ds, useS s.us n p⟩
def isGo (o : Int) : Prop := o = 36 ∨ o = 37 ∨ o = 38 ∨ o = 39 ∨ o = 40
instance (o : Int) : Decidable (isGo o) := inferInstanceAs (Decidable (_ ∨ _))
def goE (o d a : Int) (n : ByteArray) : Int := if ¬ isGo o then 2 else if insE (o, d, a, 0, 0) ≠ 0 then insE (o, d, a, 0, 0) else useE n
def Bst.goes (s : Bst) (o d a : Int) (n : ByteArray) : Bst := if isGo o ∧ insE (o, d, a, 0, 0) = 0 ∧ nameB n = true then (s.use n s.L.length).add [(o, d, a, 0, 0)] else s
def isReg0 (d : Int) : Prop := 0 ≤ d ∧ d ≤ 31
instance (d : Int) : Decidable (isReg0 d) := inferInstanceAs (Decidable (_ ∧ _))
def setE (d : Int) : Int := if isReg0 d then 0 else 6
def setI (d n : Int) : List I5 := if -32768 ≤ n ∧ n ≤ 32767 then [(31, d, 0, 0, n)] else [(33, d, 0, 0, n % 4294967296 / 65536), (32, d, d, 0, n % 4294967296 % 65536)]
def Bst.setR (s : Bst) (d n : Int) : Bst := if isReg0 d then s.add (setI d n) else s
/-- May a loop be so? -/
def loopOk (c l n : Int) : Prop := 1 ≤ c ∧ c ≤ 31 ∧ 1 ≤ l ∧ l ≤ 31 ∧ c ≠ l ∧ 1 ≤ n ∧ n ≤ 32767
instance (c l n : Int) : Decidable (loopOk c l n) := inferInstanceAs (Decidable (_ ∧ _))
def openE (s : Bst) (c l n : Int) (nm : ByteArray) : Int := if loopOk c l n then defE s.ds nm else 6
def Bst.opens (s : Bst) (c l n : Int) (nm : ByteArray) : Bst := if loopOk c l n ∧ defE s.ds nm = 0 then (s.lab nm (s.L.length + 2)).add [(31, c, 0, 0, 0), (31, l, 0, 0, n)] else s
def Bst.shuts (s : Bst) (c l : Int) (nm : ByteArray) : Bst := (s.add [(31, c, c, 0, 1)]).goes 38 c l nm

theorem ins_no {s : Bst} {i : I5} (h : insE i ≠ 0) : s.ins i = s := by unfold Bst.ins; rw [if_neg h]
theorem ins_yes {s : Bst} {i : I5} (h : insE i = 0) : s.ins i = s.add [i] := by unfold Bst.ins; rw [if_pos h]
theorem goes_no {s : Bst} {o d a : Int} {n : ByteArray} (h : ¬ isGo o) : goE o d a n = 2 ∧ s.goes o d a n = s := by unfold goE Bst.goes; rw [if_pos h, if_neg (fun q => h q.1)]; exact ⟨rfl, rfl⟩
theorem goes_bad {s : Bst} {o d a : Int} {n : ByteArray} (h : isGo o) (k : insE (o, d, a, 0, 0) ≠ 0) : goE o d a n = insE (o, d, a, 0, 0) ∧ s.goes o d a n = s := by
  unfold goE Bst.goes; rw [if_neg (fun q => q h), if_pos k, if_neg (fun q => k q.2.1)]; exact ⟨rfl, rfl⟩
theorem goes_nm {s : Bst} {o d a : Int} {n : ByteArray} (h : isGo o) (k : insE (o, d, a, 0, 0) = 0) (m : nameB n = false) : goE o d a n = 8 ∧ useE n = 8 ∧ s.goes o d a n = s := by
  unfold goE Bst.goes; rw [if_neg (fun q => q h), if_neg (fun q => q k), if_neg (fun q => by rw [m] at q; exact nomatch q.2.2)]; unfold useE; rw [m]; exact ⟨rfl, rfl, rfl⟩
theorem goes_yes {s : Bst} {o d a : Int} {n : ByteArray} (h : isGo o) (k : insE (o, d, a, 0, 0) = 0) (m : nameB n = true) : goE o d a n = 0 ∧ useE n = 0 ∧ s.goes o d a n = (s.use n s.L.length).add [(o, d, a, 0, 0)] := by
  unfold goE Bst.goes; rw [if_neg (fun q => q h), if_neg (fun q => q k), if_pos ⟨h, k, m⟩]; unfold useE; rw [m]; exact ⟨rfl, rfl, rfl⟩
theorem shapes5 : (shL 31 0 = 100 ∧ shL 31 1 = 97 ∧ shL 31 2 = 45 ∧ shL 31 3 = 115) ∧ (shL 32 0 = 100 ∧ shL 32 1 = 97 ∧ shL 32 2 = 45 ∧ shL 32 3 = 117) ∧
    (shL 33 0 = 100 ∧ shL 33 1 = 45 ∧ shL 33 2 = 45 ∧ shL 33 3 = 117) ∧ (shL 38 0 = 100 ∧ shL 38 1 = 97 ∧ shL 38 2 = 45 ∧ shL 38 3 = 117) := by decide +kernel
theorem addi_ok {d a n : Int} (hd : 0 ≤ d ∧ d ≤ 31) (ha : 0 ≤ a ∧ a ≤ 31) (hn : -32768 ≤ n ∧ n ≤ 32767) : insE (31, d, a, 0, n) = 0 := by
  obtain ⟨⟨e0, e1, e2, e3⟩, _⟩ := shapes5
  refine chk_mk (show isOp 31 by decide) ?_ ?_ ?_ ?_
  · rw [e0, fE_r _ _ (by decide), if_pos hd]
  · rw [e1, fE_r _ _ (by decide), if_pos ha]
  · rw [e2, fE_n, if_pos rfl]
  · rw [e3, fE_s, if_pos hn]
theorem ori_ok {d a n : Int} (hd : 0 ≤ d ∧ d ≤ 31) (ha : 0 ≤ a ∧ a ≤ 31) (hn : 0 ≤ n ∧ n ≤ 65535) : insE (32, d, a, 0, n) = 0 := by
  obtain ⟨_, ⟨e0, e1, e2, e3⟩, _⟩ := shapes5
  refine chk_mk (show isOp 32 by decide) ?_ ?_ ?_ ?_
  · rw [e0, fE_r _ _ (by decide), if_pos hd]
  · rw [e1, fE_r _ _ (by decide), if_pos ha]
  · rw [e2, fE_n, if_pos rfl]
  · rw [e3, fE_u, if_pos hn]
theorem lui_ok {d n : Int} (hd : 0 ≤ d ∧ d ≤ 31) (hn : 0 ≤ n ∧ n ≤ 65535) : insE (33, d, 0, 0, n) = 0 := by
  obtain ⟨_, _, ⟨e0, e1, e2, e3⟩, _⟩ := shapes5
  refine chk_mk (show isOp 33 by decide) ?_ ?_ ?_ ?_
  · rw [e0, fE_r _ _ (by decide), if_pos hd]
  · rw [e1, fE_n, if_pos rfl]
  · rw [e2, fE_n, if_pos rfl]
  · rw [e3, fE_u, if_pos hn]
theorem blt_ok {d a n : Int} (hd : 0 ≤ d ∧ d ≤ 31) (ha : 0 ≤ a ∧ a ≤ 31) (hn : 0 ≤ n ∧ n ≤ 65535) : insE (38, d, a, 0, n) = 0 := by
  obtain ⟨_, _, _, ⟨e0, e1, e2, e3⟩⟩ := shapes5
  refine chk_mk (show isOp 38 by decide) ?_ ?_ ?_ ?_
  · rw [e0, fE_r _ _ (by decide), if_pos hd]
  · rw [e1, fE_r _ _ (by decide), if_pos ha]
  · rw [e2, fE_n, if_pos rfl]
  · rw [e3, fE_u, if_pos hn]
theorem shuts_is {s : Bst} {c l : Int} {nm : ByteArray} (hc : 0 ≤ c ∧ c ≤ 31) (hl : 0 ≤ l ∧ l ≤ 31) (h : nameB nm = true) : s.shuts c l nm = ((s.add [(31, c, c, 0, 1)]).use nm ((s.L.length : Int) + 1)).add [(38, c, l, 0, 0)] := by
  unfold Bst.shuts
  rw [(goes_yes (.inr (.inr (.inl rfl))) (blt_ok hc hl (by decide)) h).2.2]
  show ((s.add [(31, c, c, 0, 1)]).use nm ((s.L ++ [(31, c, c, 0, 1)]).length : Nat)).add _ = _
  rw [List.length_append]; rfl
/-- An instruction's number, behind all fixes of its place. -/
def fixN (fx : List (Int × Int)) (i n : Int) : Int := fx.foldl (fun n f => if f.1 = i then f.2 else n) n
def fixI (fx : List (Int × Int)) (i : Int) (x : I5) : I5 := (x.1, x.2.1, x.2.2.1, x.2.2.2.1, fixN fx i x.2.2.2.2)
/-- The words of the instructions before place k. -/
def wordsK (L : List I5) (fx : List (Int × Int)) (k : Nat) : List Int := (List.range k).map fun i : Nat => insW (fixI fx i (el L i))
theorem wordsK_next (L : List I5) (fx : List (Int × Int)) (k : Nat) : wordsK L fx (k + 1) = wordsK L fx k ++ [insW (fixI fx k (el L k))] := by
  unfold wordsK; rw [List.range_succ, List.map_append]; rfl
theorem wordsK_len (L : List I5) (fx : List (Int × Int)) (k : Nat) : (wordsK L fx k).length = k := by unfold wordsK; simp
theorem fixN_take (fx : List (Int × Int)) (i n : Int) {k : Nat} (h : k < fx.length) : fixN (fx.take (k + 1)) i n = if (el fx k).1 = i then (el fx k).2 else fixN (fx.take k) i n := by
  unfold fixN
  rw [take_el h, List.foldl_append]; rfl
def finE (s : Bst) : Int := resE s.ds s.us
def finN (s : Bst) : ByteArray := resN s.ds s.us
def finW (s : Bst) : List Int := if resE s.ds s.us = 0 then wordsK s.L (resL s.ds s.us) s.L.length else []
/-- What Finish answers. -/
def RetFin (s : Bst) (w : World) (e : Ending) (w' : World) : Prop := ∃ v, e = .returned (.tuple #[v, .string (finN s), .int .i64 (finE s)]) ∧ OwnW .u32 w' w.heap.size 50 v (finW s) ∧ Below w.heap.size w w'
theorem ElAt.ins {w : World} {a : Option Addr} {n c : Nat} {l : List I5} (h : ElAt insK w a n c l) {i : Nat} (hi : i < n) : ∃ b off, a = some ⟨b, off, none⟩ ∧ w.cell? ⟨b, off + i * 5, none⟩ = some (.int .i64 (el l i).1) ∧ w.cell? ⟨b, off + i * 5 + 1, none⟩ = some (.int .i64 (el l i).2.1) ∧ w.cell? ⟨b, off + i * 5 + 2, none⟩ = some (.int .i64 (el l i).2.2.1) ∧
    w.cell? ⟨b, off + i * 5 + 3, none⟩ = some (.int .i64 (el l i).2.2.2.1) ∧ w.cell? ⟨b, off + i * 5 + 4, none⟩ = some (.int .i64 (el l i).2.2.2.2) := by
  obtain ⟨b, off, e, hc⟩ := h.two hi
  exact ⟨b, off, e, hc 0 (by decide), hc 1 (by decide), hc 2 (by decide), hc 3 (by decide), hc 4 (by decide)⟩
end Go.Proofs.YtgmphfagflhglaaGreatDoor
