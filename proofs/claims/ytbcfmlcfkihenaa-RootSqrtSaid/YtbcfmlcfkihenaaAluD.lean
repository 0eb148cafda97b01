/- What operations reckon, as plain functions of integers: what package alu's functions mean. Nothing of any program. -/
import Derived.Test.YtbcfmlcfkihenaaShiftM
import Derived.Test.YtbcfmlcfkihenaaPickD
import Derived.Test.YtbcfmlcfkihenaaSatD
import Derived.Test.YtbcfmlcfkihenaaFixD
import Derived.Test.YtbcfmlcfkihenaaWordM
import Derived.Test.YtbcfmlcfkihenaaOpsD
namespace Go.Proofs.Ytbcfmlcfkihenaa
open Go.RowKit

def wAnd (a b : Int) : Int := sg (wd a &&& wd b)
def wOr (a b : Int) : Int := sg (wd a ||| wd b)
def wXor (a b : Int) : Int := sg (wd a ^^^ wd b)
def wBic (a b : Int) : Int := sg (wd a &&& ~~~wd b)
def wQuo (a b : Int) : Int := wrap32 (a.tdiv b)
def wRest (a b : Int) : Int := a.tmod b
/-- How many bits the amount of a number has. -/
def wLen (a : Int) : Int := (Lib.bitLen a.natAbs : Int)
/-- Of which operations something is reckoned, with b. -/
def wDoes (op b : Int) : Bool := decide (1 ≤ op ∧ op ≤ 30 ∧ (b = 0 → op ≠ 22 ∧ op ≠ 23))
/-- What is reckoned of two words. -/
def wTwo (op a b : Int) : Int :=
  if op = 1 then wrap32 (a + b) else if op = 2 then wrap32 (a - b) else if op = 3 then wCut (a + b) else if op = 4 then wCut (a - b)
  else if op = 5 then wAnd a b else if op = 6 then wOr a b else if op = 7 then wXor a b else if op = 8 then wBic a b
  else if op = 9 then wShl a b else if op = 10 then wShr a b else if op = 11 then wSar a b else if op = 12 then wRol a b
  else if op = 13 then wLess a b else if op = 14 then wUnder a b else if op = 15 then wSame a b else if op = 16 then wMin a b else if op = 17 then wMax a b
  else if op = 18 then wMull a b else if op = 19 then wMulh a b else if op = 20 then wMulq a b else if op = 21 then wMulr a b
  else if op = 22 then wQuo a b else wRest a b
/-- What is reckoned of one word. -/
def wOne (op a : Int) : Int :=
  if op = 24 then wClz a else if op = 25 then wCut (-a) else if op = 26 then wAbs a else if op = 27 then wMask a else if op = 28 then wSign a
  else if op = 29 then wrap16 a else wSar a 16
def wDo (op a b : Int) : Int := if wDoes op b = false then 0 else if op ≤ 23 then wTwo op a b else wOne op a
/-- What an operation costs with a. -/
def wCostA (op a : Int) : Int := wCost op + if op = 22 ∨ op = 23 then wLen a else 0

theorem wDoes_out {op b : Int} (h : op < 1 ∨ 30 < op) : wDoes op b = false := decide_eq_false (by omega)
theorem wDoes_0 {op : Int} (h : op = 22 ∨ op = 23) : wDoes op 0 = false := decide_eq_false (by omega)
theorem wDoes_div {op b : Int} (h : op = 22 ∨ op = 23) (hb : b ≠ 0) : wDoes op b = true := decide_eq_true (by omega)
theorem wDoes_in {op b : Int} (h1 : 1 ≤ op) (h2 : op ≤ 30) (h3 : op ≠ 22) (h4 : op ≠ 23) : wDoes op b = true := decide_eq_true (by omega)
theorem wDo_none {op a b : Int} (h : wDoes op b = false) : wDo op a b = 0 := by unfold wDo; rw [if_pos h]
theorem wDo_two {op a b : Int} (h : wDoes op b = true) (h2 : op ≤ 23) : wDo op a b = wTwo op a b := by unfold wDo; rw [if_neg (by rw [h]; decide), if_pos h2]
theorem wDo_one {op a b : Int} (h : wDoes op b = true) (h2 : 23 < op) : wDo op a b = wOne op a := by unfold wDo; rw [if_neg (by rw [h]; decide), if_neg (by omega)]

theorem wLen_bd {a : Int} (h1 : -2147483648 ≤ a) (h2 : a ≤ 2147483647) : 0 ≤ wLen a ∧ wLen a ≤ 32 := by
  have hx : a.natAbs < 2 ^ 32 := by omega
  obtain ⟨_, l2⟩ := bitLen_hi 32 a.natAbs hx (by decide)
  unfold wLen
  by_cases h : a.natAbs = 0
  · rw [h]; decide
  · have l3 := l2 h
    refine ⟨by omega, ?_⟩
    have : Lib.bitLen a.natAbs ≤ 32 := by
      apply Nat.le_of_not_lt; intro hlt
      have := Nat.pow_le_pow_right (n := 2) (by decide) hlt
      have e : (2 : Nat) ^ Nat.succ 32 = 8589934592 := by decide
      omega
    omega
/-- The amount as a row of bits: flipped by its own sign. -/
theorem flip_sign {a : Int} (h1 : -2147483648 ≤ a) (h2 : a ≤ 2147483647) : us (wd (wFlip a (wSign a))) = (a.natAbs : Int) := by
  unfold wFlip wSign
  by_cases h : a < 0
  · rw [if_pos h, wd_m1, BitVec.xor_allOnes, wd_wrap, us_wd]
    have e : sg (~~~(wd a)) = -1 - a := by
      have h3 : ~~~(wd a) = wd (-1 - a) := us_inj (by
        have h4 : us (~~~(wd a)) = 4294967295 - us (wd a) := by
          have := (wd a).isLt
          unfold us; rw [BitVec.toNat_not]; omega
        rw [h4, us_wd, us_wd]; omega)
      rw [h3, sg_wd_in (by omega) (by omega)]
    rw [e]; omega
  · rw [if_neg h, wd_0, BitVec.xor_zero, wd_wrap, us_wd]
    rw [sg_wd_in h1 h2]; omega
theorem len_clz {a : Int} (h1 : -2147483648 ≤ a) (h2 : a ≤ 2147483647) : 32 - wClz (wFlip a (wSign a)) = wLen a := by
  have e := clz_len (wd (wFlip a (wSign a)))
  have f := flip_sign h1 h2
  have g : (wd (wFlip a (wSign a))).toNat = a.natAbs := by unfold us at f; omega
  unfold wClz wLen
  rw [e, g]; omega
end Go.Proofs.Ytbcfmlcfkihenaa
