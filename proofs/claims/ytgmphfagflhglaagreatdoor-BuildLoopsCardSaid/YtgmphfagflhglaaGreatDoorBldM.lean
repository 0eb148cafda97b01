/- A code of two counted loops, one within the other: what the machine comes to with it. Nothing of any program. -/
import Derived.Test.YtgmphfagflhglaaGreatDoorCorD
namespace Go.Proofs.YtgmphfagflhglaaGreatDoor
open Go.RowKit Go.IntWalk

/-- Where a machine stands that runs: its place, its registers 0 to 8. -/
structure At9 (s : Cst) (p : Int) (l : List Int) : Prop where
  st : s.st = 0
  pc : s.pc = p
  reg : ∀ d, d < 9 → s.reg d = l.getD d 0
def Leads (code : List Int) (j : Nat) (p : Int) (l : List Int) (p' : Int) (l' : List Int) : Prop := ∀ s, At9 s p l → At9 (runT code j s) p' l'
/-- The instruction at a place. -/
structure CodeAt (code : List Int) (p : Nat) (o : Int) (d a b : Nat) (n : Int) : Prop where
  lt : p < code.length
  word : byAt code p = cWord o d a b n
  chk : cChk o d a b n = 0
section
variable {code : List Int} {p d a b : Nat} {o n : Int} {l : List Int} {s : Cst}
theorem Leads.trans {j m : Nat} {p p' p'' : Int} {l l' l'' : List Int} (h : Leads code j p l p' l') (k : Leads code m p' l' p'' l'') : Leads code (j + m) p l p'' l'' := fun s hs => by
  rw [runT_add]; exact k _ (h s hs)
theorem ins_step (h : CodeAt code p o d a b n) (hs : At9 s p l) : runT code 1 s = exeS s o d a b n := by
  obtain ⟨e1, e2, e3, e4, e5, e6⟩ := word_back h.chk
  show stepT code s = _
  rw [stepT_on hs.st]
  have hp : s.pc.toNat = p := by rw [hs.pc]; exact Int.toNat_natCast p
  refine step_do (v := cWord o d a b n) ⟨by rw [hs.pc]; omega, by rw [hs.pc]; have := h.lt; omega⟩ (by rw [hp]; exact h.word) e1 ?_ ?_ ?_ ?_ ?_
  · unfold cO; rw [if_pos e1]; exact e6
  · unfold cG; rw [if_pos e1]; exact e2
  · unfold cG; rw [if_pos e1]; exact e3
  · unfold cG; rw [if_pos e1]; exact e4
  · unfold cG; rw [if_pos e1]; exact e5
theorem at_put (hs : At9 s p l) (hd : 0 < d) (hl : l.length = 9) {x : Int} (h9 : d < 9) (c : Int) : At9 ((s.put d x).mark (s.pc + 1) (-1) c) (p + 1 : Nat) (l.set d x) := by
  refine ⟨hs.st, by show s.pc + 1 = _; rw [hs.pc]; rfl, fun e he => ?_⟩
  show (s.put d x).reg e = _
  unfold Cst.put
  rw [if_neg (by omega)]
  show upd s.reg d x e = _
  unfold upd
  rw [List.getD_eq_getElem?_getD, List.getElem?_set]
  by_cases h : e = d
  · subst h; rw [if_pos rfl, if_pos rfl, if_pos (by omega)]; rfl
  · rw [if_neg h, if_neg (fun q => h q.symm), hs.reg e he, List.getD_eq_getElem?_getD]
theorem leads_addi (h : CodeAt code p 31 d a 0 n) (hl : l.length = 9) (hd : 0 < d) (h9 : d < 9) (ha : a < 9) : Leads code 1 p l (p + 1 : Nat) (l.set d (wrap32 (l.getD a 0 + n))) := fun s hs => by
  rw [ins_step h hs, exe_31, hs.reg a ha]
  exact at_put hs hd hl h9 1
theorem leads_lui (h : CodeAt code p 33 d 0 0 n) (hl : l.length = 9) (hd : 0 < d) (h9 : d < 9) : Leads code 1 p l (p + 1 : Nat) (l.set d (wrap32 (n * 65536))) := fun s hs => by
  rw [ins_step h hs, exe_33]
  exact at_put hs hd hl h9 1
theorem leads_ori (h : CodeAt code p 32 d a 0 n) (hl : l.length = 9) (hd : 0 < d) (h9 : d < 9) (ha : a < 9) : Leads code 1 p l (p + 1 : Nat) (l.set d (wOr (l.getD a 0) n)) := fun s hs => by
  rw [ins_step h hs, exe_32, hs.reg a ha]
  exact at_put hs hd hl h9 1
theorem leads_add (h : CodeAt code p 1 d a b 0) (hl : l.length = 9) (hd : 0 < d) (h9 : d < 9) (ha : a < 9) (hb : b < 9) : Leads code 1 p l (p + 1 : Nat) (l.set d (wrap32 (l.getD a 0 + l.getD b 0))) := fun s hs => by
  have e : wDoes 1 (s.reg b) = true := by unfold wDoes; simp
  have e2 : wDo 1 (s.reg a) (s.reg b) = wrap32 (s.reg a + s.reg b) := by unfold wDo wTwo; rw [e]; simp
  rw [ins_step h hs, exe_lo (by decide), if_pos e, e2, hs.reg a ha, hs.reg b hb]
  exact at_put hs hd hl h9 _
theorem leads_go {q : Nat} (h : CodeAt code p 38 d a 0 q) (h9 : d < 9) (ha : a < 9) (hc : l.getD d 0 < l.getD a 0) : Leads code 1 p l q l := fun s hs => by
  rw [ins_step h hs, exe_br (by decide) (by decide), go_38, hs.reg d h9, hs.reg a ha, decide_eq_true hc, if_pos rfl]
  exact ⟨hs.st, rfl, hs.reg⟩
theorem leads_on {q : Int} (h : CodeAt code p 38 d a 0 q) (h9 : d < 9) (ha : a < 9) (hc : ¬ l.getD d 0 < l.getD a 0) : Leads code 1 p l (p + 1 : Nat) l := fun s hs => by
  rw [ins_step h hs, exe_br (by decide) (by decide), go_38, hs.reg d h9, hs.reg a ha, decide_eq_false hc, if_neg Bool.false_ne_true]
  exact ⟨hs.st, by show s.pc + 1 = _; rw [hs.pc]; rfl, hs.reg⟩
theorem halts (h : CodeAt code p 43 0 0 0 0) (hs : At9 s p l) : (runT code 1 s).st = 1 ∧ ∀ d, d < 9 → (runT code 1 s).reg d = l.getD d 0 := by
  rw [ins_step h hs]
  have e : exeS s 43 (0 : Nat) (0 : Nat) (0 : Nat) 0 = (s.mark s.pc (-1) 1).stop 1 := exe_43 s 0 0 0 0
  rw [e]
  exact ⟨rfl, hs.reg⟩
end
theorem wrap_small {x : Int} (h0 : -2147483648 ≤ x) (h1 : x ≤ 2147483647) : wrap32 x = x := IntWalk.wrap32_in (by omega) (by omega)
/-- 0 and 1 and .. and n - 1. -/
def tri : Nat → Int
  | 0 => 0
  | n + 1 => tri n + n
theorem tri_two : ∀ n : Nat, 2 * tri n = n * (n - 1)
  | 0 => rfl
  | n + 1 => by
    have := tri_two n
    unfold tri
    rw [Int.mul_add, this]
    grind
theorem tri_bd : ∀ n : Nat, n ≤ 30 → 0 ≤ tri n ∧ tri n ≤ 30 * n
  | 0, _ => ⟨Int.le_refl _, Int.le_refl _⟩
  | n + 1, h => by
    have := tri_bd n (by omega)
    unfold tri
    omega
/-- The code of the two loops, from place p on. -/
structure TwoAt (code : List Int) (p x y : Nat) : Prop where
  i0 : CodeAt code p 31 1 0 0 0
  i1 : CodeAt code (p + 1) 31 2 0 0 x
  i2 : CodeAt code (p + 2) 31 3 0 0 0
  i3 : CodeAt code (p + 3) 31 4 0 0 y
  i4 : CodeAt code (p + 4) 31 6 6 0 1
  i5 : CodeAt code (p + 5) 1 7 7 1 0
  i6 : CodeAt code (p + 6) 1 8 8 3 0
  i7 : CodeAt code (p + 7) 31 3 3 0 1
  i8 : CodeAt code (p + 8) 38 3 4 0 (p + 4 : Nat)
  i9 : CodeAt code (p + 9) 31 1 1 0 1
  i10 : CodeAt code (p + 10) 38 1 2 0 (p + 2 : Nat)
  i11 : CodeAt code (p + 11) 43 0 0 0 0
section
variable {code : List Int} {p x y : Nat} {k : Int}
theorem TwoAt.body (h : TwoAt code p x y) {u t : Nat} {c6 c7 c8 : Int} (hu : u ≤ 30) (ht : t ≤ 30) (b6 : 0 ≤ c6 ∧ c6 ≤ 1000000) (b7 : 0 ≤ c7 ∧ c7 ≤ 1000000) (b8 : 0 ≤ c8 ∧ c8 ≤ 1000000) :
    Leads code 4 (p + 4 : Nat) [0, (u : Int), (x : Int), (t : Int), (y : Int), k, c6, c7, c8] (p + 8 : Nat) [0, (u : Int), (x : Int), ((t + 1 : Nat) : Int), (y : Int), k, c6 + 1, c7 + u, c8 + t] := by
  have s1 := leads_addi (l := [0, (u : Int), (x : Int), (t : Int), (y : Int), k, c6, c7, c8]) h.i4 rfl (by decide) (by decide) (by decide)
  have e1 : wrap32 (List.getD [0, (u : Int), (x : Int), (t : Int), (y : Int), k, c6, c7, c8] 6 0 + 1) = c6 + 1 := wrap_small (by show _ ≤ c6 + 1; omega) (by show c6 + 1 ≤ _; omega)
  rw [e1] at s1
  have s2 := leads_add (l := [0, (u : Int), (x : Int), (t : Int), (y : Int), k, c6 + 1, c7, c8]) h.i5 rfl (by decide) (by decide) (by decide) (by decide)
  have e2 : wrap32 (List.getD [0, (u : Int), (x : Int), (t : Int), (y : Int), k, c6 + 1, c7, c8] 7 0 + List.getD [0, (u : Int), (x : Int), (t : Int), (y : Int), k, c6 + 1, c7, c8] 1 0) = c7 + u := wrap_small (by show _ ≤ c7 + (u : Int); omega) (by show c7 + (u : Int) ≤ _; omega)
  rw [e2] at s2
  have s3 := leads_add (l := [0, (u : Int), (x : Int), (t : Int), (y : Int), k, c6 + 1, c7 + u, c8]) h.i6 rfl (by decide) (by decide) (by decide) (by decide)
  have e3 : wrap32 (List.getD [0, (u : Int), (x : Int), (t : Int), (y : Int), k, c6 + 1, c7 + u, c8] 8 0 + List.getD [0, (u : Int), (x : Int), (t : Int), (y : Int), k, c6 + 1, c7 + u, c8] 3 0) = c8 + t := wrap_small (by show _ ≤ c8 + (t : Int); omega) (by show c8 + (t : Int) ≤ _; omega)
  rw [e3] at s3
  have s4 := leads_addi (l := [0, (u : Int), (x : Int), (t : Int), (y : Int), k, c6 + 1, c7 + u, c8 + t]) h.i7 rfl (by decide) (by decide) (by decide)
  have e4 : wrap32 (List.getD [0, (u : Int), (x : Int), (t : Int), (y : Int), k, c6 + 1, c7 + u, c8 + t] 3 0 + 1) = ((t + 1 : Nat) : Int) := wrap_small (by show _ ≤ (t : Int) + 1; omega) (by show (t : Int) + 1 ≤ _; omega)
  rw [e4] at s4
  exact ((s1.trans s2).trans s3).trans s4
/-- The inner loop, m + 1 times more. -/
theorem TwoAt.inner (h : TwoAt code p x y) {u : Nat} (hu : u ≤ 30) (hy : y ≤ 30) : ∀ (m t : Nat) (c6 c7 c8 : Int), y = t + m + 1 → 0 ≤ c6 → c6 + (m + 1 : Nat) ≤ 1000000 → 0 ≤ c7 → c7 + 30 * (m + 1 : Nat) ≤ 1000000 → 0 ≤ c8 → c8 + 30 * (m + 1 : Nat) ≤ 1000000 →
    Leads code (5 * (m + 1)) (p + 4 : Nat) [0, (u : Int), (x : Int), (t : Int), (y : Int), k, c6, c7, c8] (p + 9 : Nat) [0, (u : Int), (x : Int), (y : Int), (y : Int), k, c6 + (m + 1 : Nat), c7 + (m + 1 : Nat) * u, c8 + (tri y - tri t)]
  | 0, t, c6, c7, c8, e, a6, b6, a7, b7, a8, b8 => by
    have s1 := h.body (k := k) (u := u) (t := t) (c6 := c6) (c7 := c7) (c8 := c8) hu (by omega) ⟨a6, by omega⟩ ⟨a7, by omega⟩ ⟨a8, by omega⟩
    have s2 := leads_on (l := [0, (u : Int), (x : Int), ((t + 1 : Nat) : Int), (y : Int), k, c6 + 1, c7 + u, c8 + t]) h.i8 (by decide) (by decide) (by show ¬ ((t + 1 : Nat) : Int) < (y : Int); omega)
    have s := s1.trans s2
    have e1 : ((t + 1 : Nat) : Int) = (y : Int) := by omega
    have e2 : c8 + (t : Int) = c8 + (tri y - tri t) := by
      obtain rfl : y = t + 1 := by omega
      have : tri (t + 1) = tri t + t := rfl
      omega
    rw [e1, e2] at s
    have e3 : c6 + 1 = c6 + ((0 + 1 : Nat) : Int) := by omega
    have e4 : c7 + (u : Int) = c7 + ((0 + 1 : Nat) : Int) * (u : Int) := by simp
    rw [e3, e4] at s
    exact s
  | m + 1, t, c6, c7, c8, e, a6, b6, a7, b7, a8, b8 => by
    have s1 := h.body (k := k) (u := u) (t := t) (c6 := c6) (c7 := c7) (c8 := c8) hu (by omega) ⟨a6, by omega⟩ ⟨a7, by omega⟩ ⟨a8, by omega⟩
    have s2 := leads_go (l := [0, (u : Int), (x : Int), ((t + 1 : Nat) : Int), (y : Int), k, c6 + 1, c7 + u, c8 + t]) h.i8 (by decide) (by decide) (by show ((t + 1 : Nat) : Int) < (y : Int); omega)
    have ih := TwoAt.inner h hu hy m (t + 1) (c6 + 1) (c7 + u) (c8 + t) (by omega) (by omega) (by omega) (by omega) (by omega) (by omega) (by omega)
    have s := (s1.trans s2).trans ih
    have e1 : c6 + 1 + ((m + 1 : Nat) : Int) = c6 + ((m + 1 + 1 : Nat) : Int) := by omega
    have e2 : c7 + (u : Int) + ((m + 1 : Nat) : Int) * (u : Int) = c7 + ((m + 1 + 1 : Nat) : Int) * (u : Int) := by
      rw [show ((m + 1 + 1 : Nat) : Int) = ((m + 1 : Nat) : Int) + 1 by omega, Int.add_mul]; omega
    have e3 : c8 + (t : Int) + (tri y - tri (t + 1)) = c8 + (tri y - tri t) := by
      have : tri (t + 1) = tri t + t := rfl
      omega
    rw [e1, e2, e3, show 4 + 1 + 5 * (m + 1) = 5 * (m + 1 + 1) by omega] at s
    exact s
/-- One round of the outer loop, up to its jump. -/
theorem TwoAt.start (h : TwoAt code p x y) (hy : y ≤ 30) (u : Nat) (r3 r4 c6 c7 c8 : Int) :
    Leads code (1 + 1) (p + 2 : Nat) [0, (u : Int), (x : Int), r3, r4, k, c6, c7, c8] (p + 4 : Nat) [0, (u : Int), (x : Int), ((0 : Nat) : Int), (y : Int), k, c6, c7, c8] := by
  have s1 := leads_addi (l := [0, (u : Int), (x : Int), r3, r4, k, c6, c7, c8]) h.i2 rfl (by decide) (by decide) (by decide)
  have e1 : wrap32 (List.getD [0, (u : Int), (x : Int), r3, r4, k, c6, c7, c8] 0 0 + 0) = ((0 : Nat) : Int) := wrap_small (by show _ ≤ (0 : Int) + 0; omega) (by show (0 : Int) + 0 ≤ _; omega)
  rw [e1] at s1
  have s2 := leads_addi (l := [0, (u : Int), (x : Int), ((0 : Nat) : Int), r4, k, c6, c7, c8]) h.i3 rfl (by decide) (by decide) (by decide)
  have e2 : wrap32 (List.getD [0, (u : Int), (x : Int), ((0 : Nat) : Int), r4, k, c6, c7, c8] 0 0 + (y : Int)) = (y : Int) := by
    show wrap32 (0 + (y : Int)) = _
    rw [Int.zero_add]; exact wrap_small (by omega) (by omega)
  rw [e2] at s2
  exact s1.trans s2
theorem TwoAt.next (h : TwoAt code p x y) {u : Nat} (hu : u ≤ 30) (r3 r4 c6 c7 c8 : Int) :
    Leads code 1 (p + 9 : Nat) [0, (u : Int), (x : Int), r3, r4, k, c6, c7, c8] (p + 10 : Nat) [0, ((u + 1 : Nat) : Int), (x : Int), r3, r4, k, c6, c7, c8] := by
  have s4 := leads_addi (l := [0, (u : Int), (x : Int), r3, r4, k, c6, c7, c8]) h.i9 rfl (by decide) (by decide) (by decide)
  have e4 : wrap32 (List.getD [0, (u : Int), (x : Int), r3, r4, k, c6, c7, c8] 1 0 + 1) = ((u + 1 : Nat) : Int) := wrap_small (by show _ ≤ (u : Int) + 1; omega) (by show (u : Int) + 1 ≤ _; omega)
  rw [e4] at s4
  exact s4
theorem TwoAt.round (h : TwoAt code p x y) (hx : x ≤ 30) (hy : y ≤ 30) (hy1 : 1 ≤ y) {u : Nat} (hu : u < x) (r3 r4 : Int) {c6 c7 c8 : Int} (a6 : 0 ≤ c6) (b6 : c6 ≤ 100000) (a7 : 0 ≤ c7) (b7 : c7 ≤ 100000) (a8 : 0 ≤ c8) (b8 : c8 ≤ 100000) :
    Leads code (5 * y + 3) (p + 2 : Nat) [0, (u : Int), (x : Int), r3, r4, k, c6, c7, c8] (p + 10 : Nat) [0, ((u + 1 : Nat) : Int), (x : Int), (y : Int), (y : Int), k, c6 + y, c7 + y * u, c8 + tri y] := by
  have s2 := h.start (k := k) hy u r3 r4 c6 c7 c8
  have s3 := h.inner (k := k) (u := u) (by omega) hy (y - 1) 0 c6 c7 c8 (by omega) a6 (by omega) a7 (by omega) a8 (by omega)
  have e3 : y - 1 + 1 = y := by omega
  have f4 : c8 + (tri y - tri 0) = c8 + tri y := by rw [show tri 0 = 0 from rfl]; omega
  rw [e3, f4] at s3
  have s4 := h.next (k := k) (u := u) (by omega) (y : Int) (y : Int) (c6 + y) (c7 + y * u) (c8 + tri y)
  have s := (s2.trans s3).trans s4
  rw [show 1 + 1 + 5 * y + 1 = 5 * y + 3 by omega] at s
  exact s
/-- The outer loop, m + 1 times more. -/
theorem TwoAt.outer (h : TwoAt code p x y) (hx : x ≤ 30) (hy : y ≤ 30) (hy1 : 1 ≤ y) : ∀ (m u : Nat) (r3 r4 c6 c7 c8 : Int), x = u + m + 1 → 0 ≤ c6 → c6 + 30 * (m + 1 : Nat) ≤ 100000 → 0 ≤ c7 → c7 + 900 * (m + 1 : Nat) ≤ 100000 → 0 ≤ c8 → c8 + 900 * (m + 1 : Nat) ≤ 100000 →
    Leads code ((5 * y + 4) * (m + 1)) (p + 2 : Nat) [0, (u : Int), (x : Int), r3, r4, k, c6, c7, c8] (p + 11 : Nat) [0, (x : Int), (x : Int), (y : Int), (y : Int), k, c6 + (m + 1 : Nat) * y, c7 + y * (tri x - tri u), c8 + (m + 1 : Nat) * tri y] := by
  have tb := tri_bd y hy
  intro m
  induction m with
  | zero =>
    intro u r3 r4 c6 c7 c8 e a6 b6 a7 b7 a8 b8
    have s4 := h.round (k := k) (u := u) hx hy hy1 (by omega) r3 r4 a6 (by omega) a7 (by omega) a8 (by omega)
    have s5 := leads_on (l := [0, ((u + 1 : Nat) : Int), (x : Int), (y : Int), (y : Int), k, c6 + y, c7 + y * u, c8 + tri y]) h.i10 (by decide) (by decide) (by show ¬ ((u + 1 : Nat) : Int) < (x : Int); omega)
    have s := s4.trans s5
    have f1 : ((u + 1 : Nat) : Int) = (x : Int) := by omega
    have f2 : c7 + (y : Int) * (u : Int) = c7 + (y : Int) * (tri x - tri u) := by
      obtain rfl : x = u + 1 := by omega
      have : tri (u + 1) = tri u + u := rfl
      rw [this, show tri u + (u : Int) - tri u = u by omega]
    have f3 : c6 + (y : Int) = c6 + ((0 + 1 : Nat) : Int) * (y : Int) := by rw [show ((0 + 1 : Nat) : Int) = 1 from rfl, Int.one_mul]
    have f4 : c8 + tri y = c8 + ((0 + 1 : Nat) : Int) * tri y := by rw [show ((0 + 1 : Nat) : Int) = 1 from rfl, Int.one_mul]
    rw [f1, f2, f3, f4, show 5 * y + 3 + 1 = (5 * y + 4) * (0 + 1) by omega] at s
    exact s
  | succ m ih =>
    intro u r3 r4 c6 c7 c8 e a6 b6 a7 b7 a8 b8
    have s4 := h.round (k := k) (u := u) hx hy hy1 (by omega) r3 r4 a6 (by omega) a7 (by omega) a8 (by omega)
    have s5 := leads_go (l := [0, ((u + 1 : Nat) : Int), (x : Int), (y : Int), (y : Int), k, c6 + y, c7 + y * u, c8 + tri y]) h.i10 (by decide) (by decide) (by show ((u + 1 : Nat) : Int) < (x : Int); omega)
    have mb : 0 ≤ (y : Int) * (u : Int) ∧ (y : Int) * (u : Int) ≤ 900 := by
      have hn : y * u ≤ 30 * 30 := Nat.mul_le_mul hy (by omega)
      rw [← Int.natCast_mul]
      omega
    have s6 := ih (u + 1) (y : Int) (y : Int) (c6 + y) (c7 + y * u) (c8 + tri y) (by omega) (by omega) (by omega) (by omega) (by omega) (by omega) (by omega)
    have s := (s4.trans s5).trans s6
    have f1 : c6 + (y : Int) + ((m + 1 : Nat) : Int) * (y : Int) = c6 + ((m + 1 + 1 : Nat) : Int) * (y : Int) := by
      rw [show ((m + 1 + 1 : Nat) : Int) = ((m + 1 : Nat) : Int) + 1 by omega, Int.add_mul]; omega
    have f2 : c7 + (y : Int) * (u : Int) + (y : Int) * (tri x - tri (u + 1)) = c7 + (y : Int) * (tri x - tri u) := by
      have : tri (u + 1) = tri u + u := rfl
      rw [this]
      grind
    have f3 : c8 + tri y + ((m + 1 : Nat) : Int) * tri y = c8 + ((m + 1 + 1 : Nat) : Int) * tri y := by
      rw [show ((m + 1 + 1 : Nat) : Int) = ((m + 1 : Nat) : Int) + 1 by omega, Int.add_mul]; omega
    rw [f1, f2, f3, show 5 * y + 3 + 1 + (5 * y + 4) * (m + 1) = (5 * y + 4) * (m + 1 + 1) by rw [Nat.mul_add (5 * y + 4) (m + 1) 1]; omega] at s
    exact s
/-- The whole. -/
theorem TwoAt.all (h : TwoAt code p x y) (hx : x ≤ 30) (hx1 : 1 ≤ x) (hy : y ≤ 30) (hy1 : 1 ≤ y) {s : Cst} (hs : At9 s p [0, 0, 0, 0, 0, k, 0, 0, 0]) :
    ∃ j, j ≤ 4700 ∧ (runT code j s).st = 1 ∧ (runT code j s).reg 5 = k ∧ (runT code j s).reg 6 = x * y ∧ (runT code j s).reg 7 = y * tri x ∧ (runT code j s).reg 8 = x * tri y := by
  obtain ⟨x', rfl⟩ : ∃ x', x = x' + 1 := ⟨x - 1, by omega⟩
  have s1 := leads_addi (l := [0, 0, 0, 0, 0, k, 0, 0, 0]) h.i0 rfl (by decide) (by decide) (by decide)
  have e1 : wrap32 (List.getD [0, 0, 0, 0, 0, k, 0, 0, 0] 0 0 + 0) = ((0 : Nat) : Int) := wrap_small (by show _ ≤ (0 : Int) + 0; omega) (by show (0 : Int) + 0 ≤ _; omega)
  rw [e1] at s1
  have s2 := leads_addi (l := [0, ((0 : Nat) : Int), 0, 0, 0, k, 0, 0, 0]) h.i1 rfl (by decide) (by decide) (by decide)
  have e2 : wrap32 (List.getD [0, ((0 : Nat) : Int), 0, 0, 0, k, 0, 0, 0] 0 0 + ((x' + 1 : Nat) : Int)) = ((x' + 1 : Nat) : Int) := by
    show wrap32 (0 + ((x' + 1 : Nat) : Int)) = _
    rw [Int.zero_add]; exact wrap_small (by omega) (by omega)
  rw [e2] at s2
  have s3 := h.outer (k := k) hx hy hy1 x' 0 0 0 0 0 0 (by omega) (by omega) (by omega) (by omega) (by omega) (by omega) (by omega)
  have s4 := ((s1.trans s2).trans s3) s hs
  obtain ⟨q1, q2⟩ := halts h.i11 s4
  rw [← runT_add] at q1 q2
  have hm : (5 * y + 4) * (x' + 1) ≤ 154 * 30 := Nat.mul_le_mul (by omega) hx
  refine ⟨1 + 1 + (5 * y + 4) * (x' + 1) + 1, by omega, q1, q2 5 (by decide), ?_, ?_, ?_⟩
  · rw [q2 6 (by decide)]; show 0 + ((x' + 1 : Nat) : Int) * (y : Int) = _; omega
  · rw [q2 7 (by decide)]; show 0 + (y : Int) * (tri (x' + 1) - tri 0) = _; rw [show tri 0 = 0 from rfl]; simp
  · rw [q2 8 (by decide)]; show 0 + ((x' + 1 : Nat) : Int) * tri y = _; omega
end
end Go.Proofs.YtgmphfagflhglaaGreatDoor
