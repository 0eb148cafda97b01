/- What the document's own plain answers for which of two (package astrolaberef03) give: Sel and Flip, bit by bit. Conditions: the numbers are of the kind int32. -/
import Derived.Test.YtmafojcknpfmfaaGreatDoorRefPA
import Derived.Test.YtmafojcknpfmfaaGreatDoorRowT
import Derived.Test.YtmafojcknpfmfaaGreatDoorKeep
namespace Go.Proofs.YtmafojcknpfmfaaGreatDoor
open Go.RowKit

theorem refBits_b (x : Int) (w : World) (h1 : -2147483648 ≤ x) (h2 : x ≤ 2147483647) :
    Calls Tryz.prog 97 #[.int .i32 x] w fun e w' => e = .returned (.agg (row 32 .i64 (bi (wd x)))) ∧ Below w.heap.size w w' :=
  (refBits_is x w h1 h2).mono fun _ _ ⟨he, h⟩ => ⟨he, h ▸ ((Below.refl _ _).alloc (Nat.le_refl _) _).alloc (by rw [World.size_alloc]; omega) _⟩

/-- Which of both, bit by bit, up to the place k. -/
def selTo (m a b : BitVec 32) (k i : Nat) : Int := if i < k then bi (a &&& m ||| b &&& ~~~m) i else bi b i
theorem bi_sel (m a b : BitVec 32) (i : Nat) (hi : i < 32) : bi (a &&& m ||| b &&& ~~~m) i = if bi m i = 1 then bi a i else bi b i := by
  simp only [bi_bit, BitVec.getLsbD_or, BitVec.getLsbD_and, BitVec.getLsbD_not]
  cases m.getLsbD i <;> simp [hi]
theorem selTo_one (m a b : BitVec 32) (k : Nat) (hk : k < 32) (h : bi m k = 1) : row 32 .i64 (upd (selTo m a b k) k (bi a k)) = row 32 .i64 (selTo m a b (k + 1)) := by
  apply row_ext
  intro i hi
  unfold upd selTo
  by_cases h1 : i = k
  · subst h1; rw [if_pos rfl, if_pos (Nat.lt_succ_self _), bi_sel _ _ _ _ hk, if_pos h]
  · by_cases h2 : i < k
    · simp [h1, h2, Nat.lt_succ_of_lt h2]
    · simp [h1, h2, show ¬ i < k + 1 by omega]
theorem selTo_none (m a b : BitVec 32) (k : Nat) (hk : k < 32) (h : ¬ bi m k = 1) : row 32 .i64 (selTo m a b k) = row 32 .i64 (selTo m a b (k + 1)) := by
  apply row_ext
  intro i hi
  unfold selTo
  by_cases h1 : i = k
  · subst h1; rw [if_neg (Nat.lt_irrefl _), if_pos (Nat.lt_succ_self _), bi_sel _ _ _ _ hk, if_neg h]
  · by_cases h2 : i < k
    · simp [h2, Nat.lt_succ_of_lt h2]
    · simp [h2, show ¬ i < k + 1 by omega]
theorem selTo_0 (m a b : BitVec 32) : row 32 .i64 (selTo m a b 0) = row 32 .i64 (bi b) := row_ext _ fun i _ => by unfold selTo; rw [if_neg (by omega)]
theorem selTo_32 (m a b : BitVec 32) : row 32 .i64 (selTo m a b 32) = row 32 .i64 (bi (a &&& m ||| b &&& ~~~m)) := row_ext _ fun i hi => by unfold selTo; rw [if_pos hi]

/-- What is turned, bit by bit, up to the place k. -/
def xorTo (x m : BitVec 32) (k i : Nat) : Int := if i < k then bi (x ^^^ m) i else bi x i
theorem bi_xor (x m : BitVec 32) (i : Nat) : (bi x i + bi m i) % 2 = bi (x ^^^ m) i := by
  simp only [bi_bit, BitVec.getLsbD_xor]
  cases x.getLsbD i <;> cases m.getLsbD i <;> simp
theorem xorTo_at (x m : BitVec 32) (k : Nat) : xorTo x m k k = bi x k := by unfold xorTo; rw [if_neg (Nat.lt_irrefl _)]
theorem xorTo_step (x m : BitVec 32) (k : Nat) : row 32 .i64 (upd (xorTo x m k) k ((bi x k + bi m k) % 2)) = row 32 .i64 (xorTo x m (k + 1)) := by
  apply row_ext
  intro i _
  unfold upd xorTo
  by_cases h1 : i = k
  · subst h1; rw [if_pos rfl, if_pos (Nat.lt_succ_self _), bi_xor]
  · by_cases h2 : i < k
    · simp [h1, h2, Nat.lt_succ_of_lt h2]
    · simp [h1, h2, show ¬ i < k + 1 by omega]
theorem xorTo_0 (x m : BitVec 32) : row 32 .i64 (xorTo x m 0) = row 32 .i64 (bi x) := row_ext _ fun i _ => by unfold xorTo; rw [if_neg (by omega)]
theorem xorTo_32 (x m : BitVec 32) : row 32 .i64 (xorTo x m 32) = row 32 .i64 (bi (x ^^^ m)) := row_ext _ fun i hi => by unfold xorTo; rw [if_pos hi]

end Go.Proofs.YtmafojcknpfmfaaGreatDoor
