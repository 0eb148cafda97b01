/- What package code's functions mean, in plain numbers: letters, rooms, fields, words. Nothing of any program. -/
import Derived.Test.YtekhgidbnpfmnaaGreatDoorNum
namespace Go.Proofs.YtekhgidbnpfmnaaGreatDoor

/-- The letter at place k of an operation's shape. -/
def shL (o : Int) (k : Nat) : Int := ((wShape o).data.toList.getD k 0).toNat
/-- Where a letter's field stands, how many bits it has, and its bounds. -/
def rAt (l : Int) : Nat := if l = 100 then 21 else if l = 97 then 16 else if l = 98 then 11 else 0
def rSz (l : Int) : Nat := if l = 100 ∨ l = 97 ∨ l = 98 then 5 else if l = 115 ∨ l = 117 then 16 else 0
def rLow (l : Int) : Int := if l = 115 then -32768 else 0
def rHigh (l : Int) : Int := if l = 100 ∨ l = 97 ∨ l = 98 then 31 else if l = 115 then 32767 else if l = 117 then 65535 else 0
/-- A field's error. -/
def fErr (l x : Int) : Int := if rLow l ≤ x ∧ x ≤ rHigh l then 0 else if rSz l = 0 then 3 else 6
/-- A field's bits, where they stand. -/
def fBits (l x : Int) : Int := x % 2 ^ rSz l * 2 ^ rAt l
/-- The bits of a word's field. -/
def fRaw (l w : Int) : Int := w / 2 ^ rAt l % 2 ^ rSz l
/-- A word's field. -/
def fRead (l w : Int) : Int := if rHigh l < fRaw l w then fRaw l w - 2 ^ rSz l else fRaw l w

/-- Is there such an operation? -/
def isOp (o : Int) : Prop := 1 ≤ o ∧ o ≤ 43
instance (o : Int) : Decidable (isOp o) := inferInstanceAs (Decidable (_ ∧ _))
/-- Check's error. -/
def cChk (o d a b n : Int) : Int :=
  if ¬ isOp o then 2 else if fErr (shL o 0) d ≠ 0 then fErr (shL o 0) d else if fErr (shL o 1) a ≠ 0 then fErr (shL o 1) a else if fErr (shL o 2) b ≠ 0 then fErr (shL o 2) b else fErr (shL o 3) n
/-- The word of what may be. -/
def cWord (o d a b n : Int) : Int := o * 67108864 + fBits (shL o 0) d + fBits (shL o 1) a + fBits (shL o 2) b + fBits (shL o 3) n
def cEnc (o d a b n : Int) : Int := if cChk o d a b n = 0 then cWord o d a b n else 0
/-- A word's fields, and what is left of it beside them. -/
def cF (w : Int) (k : Nat) : Int := fRead (shL (w / 67108864) k) w
def cB (w : Int) (k : Nat) : Int := fBits (shL (w / 67108864) k) (cF w k)
def cLeft (w : Int) : Int := w % 67108864 - cB w 0 - cB w 1 - cB w 2 - cB w 3
def cErr (w : Int) : Int := if ¬ isOp (w / 67108864) then 2 else if cLeft w ≠ 0 then 3 else 0
/-- Decode's instruction, field by field: operation, D, A, B, N. -/
def cO (w : Int) : Int := if cErr w = 0 then w / 67108864 else 0
def cG (w : Int) (k : Nat) : Int := if cErr w = 0 then cF w k else 0

/-- The letters of an operation's shape, as they may be. -/
def Shaped (o l0 l1 l2 l3 : Int) : Prop :=
  (1 ≤ o ∧ o ≤ 23 ∧ l0 = 100 ∧ l1 = 97 ∧ l2 = 98 ∧ l3 = 45) ∨ (24 ≤ o ∧ o ≤ 30 ∧ l0 = 100 ∧ l1 = 97 ∧ l2 = 45 ∧ l3 = 45) ∨ (o = 31 ∧ l0 = 100 ∧ l1 = 97 ∧ l2 = 45 ∧ l3 = 115) ∨
  ((o = 32 ∨ 34 ≤ o ∧ o ≤ 38) ∧ l0 = 100 ∧ l1 = 97 ∧ l2 = 45 ∧ l3 = 117) ∨ ((o = 33 ∨ o = 40) ∧ l0 = 100 ∧ l1 = 45 ∧ l2 = 45 ∧ l3 = 117) ∨ (o = 39 ∧ l0 = 45 ∧ l1 = 45 ∧ l2 = 45 ∧ l3 = 117) ∨
  (o = 41 ∧ l0 = 45 ∧ l1 = 97 ∧ l2 = 45 ∧ l3 = 45) ∨ ((o = 42 ∨ o = 43) ∧ l0 = 45 ∧ l1 = 45 ∧ l2 = 45 ∧ l3 = 45)
theorem shaped {o : Int} (h : isOp o) : ∃ x0 x1 x2 x3 : UInt8, wShape o = ⟨#[x0, x1, x2, x3]⟩ ∧ shL o 0 = x0.toNat ∧ shL o 1 = x1.toNat ∧ shL o 2 = x2.toNat ∧ shL o 3 = x3.toNat ∧ Shaped o (shL o 0) (shL o 1) (shL o 2) (shL o 3) := by
  unfold isOp at h
  have q : ∀ a b c d : UInt8, wShape o = ⟨#[a, b, c, d]⟩ → Shaped o a.toNat b.toNat c.toNat d.toNat → ∃ x0 x1 x2 x3 : UInt8, wShape o = ⟨#[x0, x1, x2, x3]⟩ ∧ shL o 0 = x0.toNat ∧ shL o 1 = x1.toNat ∧ shL o 2 = x2.toNat ∧ shL o 3 = x3.toNat ∧ Shaped o (shL o 0) (shL o 1) (shL o 2) (shL o 3) := by
    intro a b c d e k
    refine ⟨a, b, c, d, e, ?_, ?_, ?_, ?_, ?_⟩
    all_goals (try unfold shL; rw [e]; rfl)
    unfold shL; rw [e]; exact k
  have q0 : ∀ k, k < 10 → loZ k ≤ o → o ≤ hiZ k → wShape o = shZ k := fun k hk h1 h2 => wShape_at hk h1 h2
  rcases (show (1 ≤ o ∧ o ≤ 23) ∨ (24 ≤ o ∧ o ≤ 30) ∨ o = 31 ∨ o = 32 ∨ (34 ≤ o ∧ o ≤ 38) ∨ o = 33 ∨ o = 39 ∨ o = 40 ∨ o = 41 ∨ (42 ≤ o ∧ o ≤ 43) by omega) with c | c | c | c | c | c | c | c | c | c
  · exact q 100 97 98 45 (q0 0 (by decide) (by simp [loZ]; omega) (by simp [hiZ]; omega)) (by simp [Shaped]; omega)
  · exact q 100 97 45 45 (q0 1 (by decide) (by simp [loZ]; omega) (by simp [hiZ]; omega)) (by simp [Shaped]; omega)
  · exact q 100 97 45 115 (q0 2 (by decide) (by simp [loZ]; omega) (by simp [hiZ]; omega)) (by simp [Shaped]; omega)
  · exact q 100 97 45 117 (q0 3 (by decide) (by simp [loZ]; omega) (by simp [hiZ]; omega)) (by simp [Shaped]; omega)
  · exact q 100 97 45 117 (q0 5 (by decide) (by simp [loZ]; omega) (by simp [hiZ]; omega)) (by simp [Shaped]; omega)
  · exact q 100 45 45 117 (q0 4 (by decide) (by simp [loZ]; omega) (by simp [hiZ]; omega)) (by simp [Shaped]; omega)
  · exact q 45 45 45 117 (q0 6 (by decide) (by simp [loZ]; omega) (by simp [hiZ]; omega)) (by simp [Shaped]; omega)
  · exact q 100 45 45 117 (q0 7 (by decide) (by simp [loZ]; omega) (by simp [hiZ]; omega)) (by simp [Shaped]; omega)
  · exact q 45 97 45 45 (q0 8 (by decide) (by simp [loZ]; omega) (by simp [hiZ]; omega)) (by simp [Shaped]; omega)
  · exact q 45 45 45 45 (q0 9 (by decide) (by simp [loZ]; omega) (by simp [hiZ]; omega)) (by simp [Shaped]; omega)
theorem wShape_no {o : Int} (h : ¬ isOp o) : wShape o = ⟨#[]⟩ := wShape_out (by unfold isOp at h; omega)

/-- Four letters' fields, each laid open. -/
theorem letters : (rAt 100 = 21 ∧ rSz 100 = 5 ∧ rLow 100 = 0 ∧ rHigh 100 = 31) ∧ (rAt 97 = 16 ∧ rSz 97 = 5 ∧ rLow 97 = 0 ∧ rHigh 97 = 31) ∧ (rAt 98 = 11 ∧ rSz 98 = 5 ∧ rLow 98 = 0 ∧ rHigh 98 = 31) ∧
    (rAt 115 = 0 ∧ rSz 115 = 16 ∧ rLow 115 = -32768 ∧ rHigh 115 = 32767) ∧ (rAt 117 = 0 ∧ rSz 117 = 16 ∧ rLow 117 = 0 ∧ rHigh 117 = 65535) ∧ (rAt 45 = 0 ∧ rSz 45 = 0 ∧ rLow 45 = 0 ∧ rHigh 45 = 0) := by decide
theorem fB_d (x : Int) : fBits 100 x = x % 32 * 2097152 := by unfold fBits; rfl
theorem fB_a (x : Int) : fBits 97 x = x % 32 * 65536 := by unfold fBits; rfl
theorem fB_b (x : Int) : fBits 98 x = x % 32 * 2048 := by unfold fBits; rfl
theorem fB_s (x : Int) : fBits 115 x = x % 65536 := by unfold fBits; simp [rAt, rSz]
theorem fB_u (x : Int) : fBits 117 x = x % 65536 := by unfold fBits; simp [rAt, rSz]
theorem fB_n (x : Int) : fBits 45 x = 0 := by unfold fBits; simp [rAt, rSz, Int.emod_one]
theorem fE_r (l x : Int) (h : l = 100 ∨ l = 97 ∨ l = 98) : fErr l x = if 0 ≤ x ∧ x ≤ 31 then 0 else 6 := by
  rcases h with rfl | rfl | rfl <;> simp [fErr, rLow, rHigh, rSz]
theorem fE_s (x : Int) : fErr 115 x = if -32768 ≤ x ∧ x ≤ 32767 then 0 else 6 := by simp [fErr, rLow, rHigh, rSz]
theorem fE_u (x : Int) : fErr 117 x = if 0 ≤ x ∧ x ≤ 65535 then 0 else 6 := by simp [fErr, rLow, rHigh, rSz]
theorem fE_n (x : Int) : fErr 45 x = if x = 0 then 0 else 3 := by
  have e : (rLow 45 ≤ x ∧ x ≤ rHigh 45) ↔ x = 0 := by simp [rLow, rHigh]; omega
  unfold fErr
  by_cases h : x = 0
  · rw [if_pos (e.2 h), if_pos h]
  · rw [if_neg (fun k => h (e.1 k)), if_neg h]; rfl
theorem fR_d (w : Int) : fRead 100 w = w / 2097152 % 32 := by unfold fRead fRaw; simp [rAt, rSz, rHigh]; omega
theorem fR_a (w : Int) : fRead 97 w = w / 65536 % 32 := by unfold fRead fRaw; simp [rAt, rSz, rHigh]; omega
theorem fR_b (w : Int) : fRead 98 w = w / 2048 % 32 := by unfold fRead fRaw; simp [rAt, rSz, rHigh]; omega
theorem fR_s (w : Int) : fRead 115 w = if 32768 ≤ w % 65536 then w % 65536 - 65536 else w % 65536 := by unfold fRead fRaw; simp [rAt, rSz, rHigh]; omega
theorem fR_u (w : Int) : fRead 117 w = w % 65536 := by unfold fRead fRaw; simp [rAt, rSz, rHigh]; omega
theorem fR_n (w : Int) : fRead 45 w = 0 := by unfold fRead fRaw; simp [rAt, rSz, rHigh, Int.emod_one]

theorem chk_no {o d a b n : Int} (h : ¬ isOp o) : cChk o d a b n = 2 := by unfold cChk; rw [if_pos h]
theorem chk_op {o d a b n : Int} (h : cChk o d a b n = 0) : isOp o := by
  by_cases k : isOp o
  · exact k
  · rw [chk_no k] at h; cases h
theorem chk_0 {o d a b n : Int} (h : cChk o d a b n = 0) : fErr (shL o 0) d = 0 ∧ fErr (shL o 1) a = 0 ∧ fErr (shL o 2) b = 0 ∧ fErr (shL o 3) n = 0 := by
  have k := chk_op h
  unfold cChk at h
  rw [if_neg (fun f => f k)] at h
  repeat' split at h
  all_goals simp_all
theorem chk_mk {o d a b n : Int} (k : isOp o) (h0 : fErr (shL o 0) d = 0) (h1 : fErr (shL o 1) a = 0) (h2 : fErr (shL o 2) b = 0) (h3 : fErr (shL o 3) n = 0) : cChk o d a b n = 0 := by
  unfold cChk
  rw [if_neg (fun f => f k), h0, h1, h2, h3]
  simp
/-- The fields' bits stand below the operation's, none upon another. -/
theorem bits_sum {o : Int} (h : isOp o) (d a b n : Int) : 0 ≤ fBits (shL o 0) d ∧ fBits (shL o 0) d < 67108864 ∧ (o * 67108864 + fBits (shL o 0) d) % 2097152 = 0 ∧ 0 ≤ fBits (shL o 1) a ∧ fBits (shL o 1) a < 2097152 ∧
    (o * 67108864 + fBits (shL o 0) d + fBits (shL o 1) a) % 65536 = 0 ∧ 0 ≤ fBits (shL o 2) b ∧ fBits (shL o 2) b < 65536 ∧ 0 ≤ fBits (shL o 3) n ∧ fBits (shL o 3) n < 65536 ∧ (fBits (shL o 2) b = 0 ∨ fBits (shL o 3) n = 0) ∧
    cWord o d a b n / 67108864 = o ∧ 0 ≤ cWord o d a b n ∧ cWord o d a b n < 4294967296 := by
  obtain ⟨_, _, _, _, _, _, _, _, _, hs⟩ := shaped h
  unfold isOp at h
  unfold cWord
  generalize shL o 0 = l0 at *
  generalize shL o 1 = l1 at *
  generalize shL o 2 = l2 at *
  generalize shL o 3 = l3 at *
  rcases hs with ⟨_, _, rfl, rfl, rfl, rfl⟩ | ⟨_, _, rfl, rfl, rfl, rfl⟩ | ⟨_, rfl, rfl, rfl, rfl⟩ | ⟨_, rfl, rfl, rfl, rfl⟩ | ⟨_, rfl, rfl, rfl, rfl⟩ | ⟨_, rfl, rfl, rfl, rfl⟩ | ⟨_, rfl, rfl, rfl, rfl⟩ | ⟨_, rfl, rfl, rfl, rfl⟩ <;>
    simp only [fB_d, fB_a, fB_b, fB_s, fB_u, fB_n, or_true, true_or, true_and] <;> omega
/-- What may be is decoded of its word. -/
theorem word_back {o d a b n : Int} (h : cChk o d a b n = 0) : cErr (cWord o d a b n) = 0 ∧ cF (cWord o d a b n) 0 = d ∧ cF (cWord o d a b n) 1 = a ∧ cF (cWord o d a b n) 2 = b ∧ cF (cWord o d a b n) 3 = n ∧ cWord o d a b n / 67108864 = o := by
  have k := chk_op h
  obtain ⟨e0, e1, e2, e3⟩ := chk_0 h
  have ho := (bits_sum k d a b n).2.2.2.2.2.2.2.2.2.2.2.1
  obtain ⟨_, _, _, _, _, _, _, _, _, hs⟩ := shaped k
  unfold cErr
  rw [ho, if_neg (fun f => f k)]
  unfold cLeft cB cF
  rw [ho]
  clear ho h
  unfold isOp at k
  unfold cWord
  generalize shL o 0 = l0 at *
  generalize shL o 1 = l1 at *
  generalize shL o 2 = l2 at *
  generalize shL o 3 = l3 at *
  rcases hs with ⟨_, _, rfl, rfl, rfl, rfl⟩ | ⟨_, _, rfl, rfl, rfl, rfl⟩ | ⟨_, rfl, rfl, rfl, rfl⟩ | ⟨_, rfl, rfl, rfl, rfl⟩ | ⟨_, rfl, rfl, rfl, rfl⟩ | ⟨_, rfl, rfl, rfl, rfl⟩ | ⟨_, rfl, rfl, rfl, rfl⟩ | ⟨_, rfl, rfl, rfl, rfl⟩ <;>
    simp only [fB_d, fB_a, fB_b, fB_s, fB_u, fB_n, fR_d, fR_a, fR_b, fR_s, fR_u, fR_n, fE_r, fE_s, fE_u, fE_n, true_or, or_true, and_true, Int.reduceNeg] at * <;> omega
/-- What is decoded is encoded to its word. -/
theorem back_word {w : Int} (h : cErr w = 0) : cChk (w / 67108864) (cF w 0) (cF w 1) (cF w 2) (cF w 3) = 0 ∧ cWord (w / 67108864) (cF w 0) (cF w 1) (cF w 2) (cF w 3) = w := by
  have k : isOp (w / 67108864) := by
    by_cases k : isOp (w / 67108864)
    · exact k
    · unfold cErr at h; rw [if_pos k] at h; cases h
  unfold cErr at h
  rw [if_neg (fun f => f k)] at h
  have hl : cLeft w = 0 := by
    by_cases q : cLeft w = 0
    · exact q
    · rw [if_pos q] at h; cases h
  clear h
  suffices hh : fErr (shL (w / 67108864) 0) (cF w 0) = 0 ∧ fErr (shL (w / 67108864) 1) (cF w 1) = 0 ∧ fErr (shL (w / 67108864) 2) (cF w 2) = 0 ∧ fErr (shL (w / 67108864) 3) (cF w 3) = 0 ∧ cWord (w / 67108864) (cF w 0) (cF w 1) (cF w 2) (cF w 3) = w from
    ⟨chk_mk k hh.1 hh.2.1 hh.2.2.1 hh.2.2.2.1, hh.2.2.2.2⟩
  obtain ⟨_, _, _, _, _, _, _, _, _, hs⟩ := shaped k
  unfold isOp at k
  unfold cLeft cB cF at hl
  unfold cWord cF
  generalize shL (w / 67108864) 0 = l0 at *
  generalize shL (w / 67108864) 1 = l1 at *
  generalize shL (w / 67108864) 2 = l2 at *
  generalize shL (w / 67108864) 3 = l3 at *
  rcases hs with ⟨_, _, rfl, rfl, rfl, rfl⟩ | ⟨_, _, rfl, rfl, rfl, rfl⟩ | ⟨_, rfl, rfl, rfl, rfl⟩ | ⟨_, rfl, rfl, rfl, rfl⟩ | ⟨_, rfl, rfl, rfl, rfl⟩ | ⟨_, rfl, rfl, rfl, rfl⟩ | ⟨_, rfl, rfl, rfl, rfl⟩ | ⟨_, rfl, rfl, rfl, rfl⟩ <;>
    simp only [fB_d, fB_a, fB_b, fB_s, fB_u, fB_n, fR_d, fR_a, fR_b, fR_s, fR_u, fR_n, fE_r, fE_s, fE_u, fE_n, true_or, or_true, true_and, if_true, Int.reduceNeg] at * <;> omega
end Go.Proofs.YtekhgidbnpfmnaaGreatDoor
