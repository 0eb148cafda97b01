/- What the document's own Text answers. No conditions. -/
import Derived.Test.YtheflkhbmbfajaaDoorLinU
import Derived.Test.YtheflkhbmbfajaaDoorLinR
import Derived.Test.YtheflkhbmbfajaaDoorCodR
import Derived.Test.YtheflkhbmbfajaaDoorOpsR
namespace Go.Proofs.YtheflkhbmbfajaaDoor
open Go.RowKit

/-- The line so far. -/
def lineSo (o d a b n : Int) (k : Nat) : List UInt8 := Lib.join (tells o d a b n k) [32]
theorem join_snoc (u : List UInt8) : ∀ (xs : List (List UInt8)), xs ≠ [] → Lib.join (xs ++ [u]) [32] = Lib.join xs [32] ++ 32 :: u
  | [], h => absurd rfl h
  | [x], _ => by
    rw [Lib.join_one]
    show Lib.join [x, u] [32] = _
    rw [Lib.join_cons]
    simp [Lib.joinTail]
  | x :: y :: r, _ => by
    have i := join_snoc u (y :: r) (by simp)
    have e1 : Lib.join (x :: y :: r ++ [u]) [32] = x ++ 32 :: Lib.join (y :: r ++ [u]) [32] := by
      rw [List.cons_append, List.cons_append, Lib.join_cons, Lib.join_cons]
      simp [Lib.joinTail]
    have e2 : Lib.join (x :: y :: r) [32] = x ++ 32 :: Lib.join (y :: r) [32] := by
      rw [Lib.join_cons, Lib.join_cons]
      simp [Lib.joinTail]
    rw [e1, e2, i]
    simp
theorem tells_ne (o d a b n : Int) (k : Nat) : tells o d a b n k ≠ [] := fun e => by have := tells_pos o d a b n k; rw [e] at this; simp at this
theorem so_0 (o d a b n : Int) : lineSo o d a b n 0 = (wName o).data.toList := Lib.join_one _ _
theorem so_none {o d a b n : Int} {k : Nat} (h : shL o k = 45) : lineSo o d a b n (k + 1) = lineSo o d a b n k := by
  have he : opdW (shL o k) (fourOf d a b n k) = [] := by rw [h]; exact (if_neg (by decide)).trans (if_neg (by decide))
  unfold lineSo
  rw [tells, he, List.append_nil]
theorem so_reg {o d a b n : Int} {k : Nat} (h : isReg (shL o k)) : lineSo o d a b n (k + 1) = lineSo o d a b n k ++ 32 :: 114 :: decL (fourOf d a b n k) := by
  have he : opdW (shL o k) (fourOf d a b n k) = [114 :: decL (fourOf d a b n k)] := if_pos h
  unfold lineSo
  rw [tells, he, join_snoc _ _ (tells_ne _ _ _ _ _ _)]
theorem so_num {o d a b n : Int} {k : Nat} (h : isNum (shL o k)) (hr : ¬ isReg (shL o k)) : lineSo o d a b n (k + 1) = lineSo o d a b n k ++ 32 :: decL (fourOf d a b n k) := by
  have he : opdW (shL o k) (fourOf d a b n k) = [decL (fourOf d a b n k)] := (if_neg hr).trans (if_pos h)
  unfold lineSo
  rw [tells, he, join_snoc _ _ (tells_ne _ _ _ _ _ _)]
theorem so_len {o d a b n : Int} (h : isOp o) : ∀ k, (lineSo o d a b n k).length ≤ 5 + k * 23
  | 0 => by rw [so_0]; have := name_short h; omega
  | k + 1 => by
    have i := so_len (d := d) (a := a) (b := b) (n := n) h k
    have hl := decL_le (fourOf d a b n k)
    by_cases r : isReg (shL o k)
    · rw [so_reg r]; simp; omega
    · by_cases m : isNum (shL o k)
      · rw [so_num m r]; simp; omega
      · have he : opdW (shL o k) (fourOf d a b n k) = [] := (if_neg r).trans (if_neg m)
        have e : lineSo o d a b n (k + 1) = lineSo o d a b n k := by unfold lineSo; rw [tells, he, List.append_nil]
        rw [e]; omega
theorem cat_list (l : List UInt8) (c : List UInt8) : txt l ++ txt c = txt (l ++ c) := by
  apply str_ext
  rw [txt_list, ByteArray.data_append]
  simp [txt]
theorem refName_S (o : Int) (s : ByteArray) (w : World) (h : isOp o) (hs : wName o = s) : Calls Tryd.prog 24 #[.int .i64 o] w fun e w' => e = .returned (.string s) ∧ Below w.heap.size w w' := by
  subst hs
  unfold isOp at h
  exact (refName_is o w (by omega) (by omega)).mono fun e w' h => h
theorem refShape_S (o : Int) (s : ByteArray) (w : World) (hs : wShape o = s) : Calls Tryd.prog 25 #[.int .i64 o] w fun e w' => e = .returned (.string s) ∧ w = w' := by
  subst hs
  exact (refShape_is o w).mono fun e w' h => h
/-- A letter of a shape, as it is tested. -/
theorem letter_test {x0 x1 x2 x3 : UInt8} {o : Int} (he : ∀ k, k < 4 → (((#[x0, x1, x2, x3] : Array UInt8).getD k 0).toNat : Int) = shL o k) :
    ((({ data := #[x0, x1, x2, x3] } : ByteArray)[0]'(show 0 < 4 by decide)).toNat : Int) = shL o 0 ∧ ((({ data := #[x0, x1, x2, x3] } : ByteArray)[1]'(show 1 < 4 by decide)).toNat : Int) = shL o 1 ∧
    ((({ data := #[x0, x1, x2, x3] } : ByteArray)[2]'(show 2 < 4 by decide)).toNat : Int) = shL o 2 ∧ ((({ data := #[x0, x1, x2, x3] } : ByteArray)[3]'(show 3 < 4 by decide)).toNat : Int) = shL o 3 :=
  ⟨he 0 (by decide), he 1 (by decide), he 2 (by decide), he 3 (by decide)⟩
/-- Three pieces behind a line: what they come to, and that they are short. -/
theorem glue3 {so l : List UInt8} {f : Int} (h : l = so ++ 32 :: 114 :: decL f) (hl : so.length ≤ 200) : ∃ t1 t2 : ByteArray, txt so ++ { data := #[32] } = t1 ∧ t1 ++ { data := #[114] } = t2 ∧ t2 ++ txt (decL f) = txt l ∧ ¬ (9223372036854775807 < (txt so).size + 1) ∧ ¬ (9223372036854775807 < t1.size + 1) ∧ ¬ (9223372036854775807 < t2.size + (txt (decL f)).size) := by
  have := decL_le f
  refine ⟨txt (so ++ [32]), txt (so ++ [32] ++ [114]), cat_list so [32], cat_list (so ++ [32]) [114], ?_, ?_, ?_, ?_⟩
  · rw [cat_list, h]; simp
  all_goals (simp only [txt_size, List.length_append, List.length_cons, List.length_nil]; omega)
theorem glue2 {so l : List UInt8} {f : Int} (h : l = so ++ 32 :: decL f) (hl : so.length ≤ 200) : ∃ t1 : ByteArray, txt so ++ { data := #[32] } = t1 ∧ t1 ++ txt (decL f) = txt l ∧ ¬ (9223372036854775807 < (txt so).size + 1) ∧ ¬ (9223372036854775807 < t1.size + (txt (decL f)).size) := by
  have := decL_le f
  refine ⟨txt (so ++ [32]), cat_list so [32], ?_, ?_, ?_⟩
  · rw [cat_list, h]; simp
  all_goals (simp only [txt_size, List.length_append, List.length_cons, List.length_nil]; omega)
set_option maxHeartbeats 4000000 in
theorem refText_bad (o d a b n z : Int) (w : World) (hz : cChk o d a b n = z) (hne : z ≠ 0) :
    Calls Tryd.prog 8 #[.agg #[.int .i64 o, .int .i64 d, .int .i64 a, .int .i64 b, .int .i64 n]] w fun e w' => e = .returned (.tuple #[.string ⟨#[]⟩, .int .i64 z]) ∧ Below w.heap.size w w' := by
  have HI := Lib.hid (fun T => InsW.new w w o d a b n T (Below.refl _ _) (Nat.le_refl _))
  have HZ := Lib.hid hz
  have hne' : (z != 0) = true := by simpa using hne
  clear hz hne
  go_enter Tryd.func8, Tryd.ntmps8
  go_wp2_with (go_at_call 23; ((with_reducible refine (refCheckI_is o d a b n z _ HZ.out).mono ?_); rintro e w1 ⟨rfl, hk⟩); have hI := (HI.out _).keep hk)
  go_ret2
  exact ⟨rfl, hI.below⟩
set_option maxRecDepth 100000 in
set_option maxHeartbeats 4000000 in
theorem refText_good (o d a b n : Int) (w : World) (hz : cChk o d a b n = 0) :
    Calls Tryd.prog 8 #[.agg #[.int .i64 o, .int .i64 d, .int .i64 a, .int .i64 b, .int .i64 n]] w fun e w' => e = .returned (.tuple #[.string (txt (lineSo o d a b n 4)), .int .i64 0]) ∧ Below w.heap.size w w' := by
  have hop := chk_op hz
  obtain ⟨x0, x1, x2, x3, hs, hx, he⟩ := letter_small hop
  have HI := Lib.hid (fun T => InsW.new w w o d a b n T (Below.refl _ _) (Nat.le_refl _))
  have HZ := Lib.hid hz
  have HOP := Lib.hid hop
  have HSH := Lib.hid hs
  have HE := Lib.hid he
  have H0 := Lib.hid (show wName o = txt (lineSo o d a b n 0) by rw [so_0, txt_of])
  clear hz hop hs he hx
  go_enter Tryd.func8, Tryd.ntmps8
  go_wp2_with (first
    | (go_at_call 23; ((with_reducible refine (refCheckI_is o d a b n 0 _ HZ.out).mono ?_); rintro e w1 ⟨rfl, hk⟩); have hI := (HI.out _).keep hk; have c0 := hI.c0; have c1 := hI.c1; have c2 := hI.c2; have c3 := hI.c3; have c4 := hI.c4; clear hk)
    | (go_at_call 24; ((with_reducible refine (refName_S o _ _ HOP.out H0.out).mono ?_); rintro e w2 ⟨rfl, hk⟩); clear c0 c1 c2 c3 c4; have hI := hI.keep hk; have c0 := hI.c0; have c1 := hI.c1; have c2 := hI.c2; have c3 := hI.c3; have c4 := hI.c4; clear hk)
    | (go_at_call 25; ((with_reducible refine (refShape_S o _ _ HSH.out).mono ?_); rintro e w3 ⟨rfl, rfl⟩)))
  have HI2 := Lib.hid hI
  have HLT := Lib.hid (letter_test HE.out)
  clear hI c0 c1 c2 c3 c4
  go_loop [5, 8] (fun s i => ∃ k : Nat, k ≤ 4 ∧ i = .int .i64 k ∧ s = .string (txt (lineSo o d a b n k))) (fun _ i => 4 - (intOf i).toNat)
  case atStart => exact ⟨0, by omega, rfl, rfl⟩
  case round =>
    obtain ⟨k, hk, rfl, rfl⟩ := hrel
    by_cases hlt : k < 4
    · obtain rfl | rfl | rfl | rfl : k = 0 ∨ k = 1 ∨ k = 2 ∨ k = 3 := by omega
      · rcases letter_at HOP.out hlt with hq | hq
        · have hr : isReg (shL o 0) := by unfold isReg; omega
          have ht : (((({ data := #[x0, x1, x2, x3] } : ByteArray)[0]'(show 0 < 4 by decide)).toNat : Int) == 45) = false := by rw [HLT.out.1, beq_eq_false_iff_ne]; omega
          obtain ⟨t1, t2, e1, e2, e3, z1, z2, z3⟩ := glue3 (so_reg (d := d) (a := a) (b := b) (n := n) hr) (by have := so_len (d := d) (a := a) (b := b) (n := n) HOP.out 0; omega)
          simp only [fourOf] at e3 z3
          have hb0 := four_bd HZ.out (k := 0) hlt
          simp only [fourOf] at hb0
          clear hq hlt hr
          go_wp2_with (go_at_call 16; ((with_reducible refine (refDigits_is d _ (by omega) (by omega)).mono ?_); rintro e w5 ⟨rfl, rfl⟩))
          go_round
          case rel => exact ⟨1, by omega, rfl, rfl⟩
          case measure => simp [intOf]
        · have ht : (((({ data := #[x0, x1, x2, x3] } : ByteArray)[0]'(show 0 < 4 by decide)).toNat : Int) == 45) = true := by rw [HLT.out.1, hq]; rfl
          have HN := Lib.hid (so_none (d := d) (a := a) (b := b) (n := n) hq)
          clear hq hlt
          go_wp2_with fail
          go_round
          case rel => exact ⟨1, by omega, rfl, by rw [HN.out]⟩
          case measure => simp [intOf]
      · rcases letter_at HOP.out hlt with hq | hq
        · have hr : isReg (shL o 1) := by unfold isReg; omega
          have ht : (((({ data := #[x0, x1, x2, x3] } : ByteArray)[1]'(show 1 < 4 by decide)).toNat : Int) == 45) = false := by rw [HLT.out.2.1, beq_eq_false_iff_ne]; omega
          obtain ⟨t1, t2, e1, e2, e3, z1, z2, z3⟩ := glue3 (so_reg (d := d) (a := a) (b := b) (n := n) hr) (by have := so_len (d := d) (a := a) (b := b) (n := n) HOP.out 1; omega)
          simp only [fourOf] at e3 z3
          have hb1 := four_bd HZ.out (k := 1) hlt
          simp only [fourOf] at hb1
          clear hq hlt hr
          go_wp2_with (go_at_call 16; ((with_reducible refine (refDigits_is a _ (by omega) (by omega)).mono ?_); rintro e w5 ⟨rfl, rfl⟩))
          go_round
          case rel => exact ⟨2, by omega, rfl, rfl⟩
          case measure => simp [intOf]
        · have ht : (((({ data := #[x0, x1, x2, x3] } : ByteArray)[1]'(show 1 < 4 by decide)).toNat : Int) == 45) = true := by rw [HLT.out.2.1, hq]; rfl
          have HN := Lib.hid (so_none (d := d) (a := a) (b := b) (n := n) hq)
          clear hq hlt
          go_wp2_with fail
          go_round
          case rel => exact ⟨2, by omega, rfl, by rw [HN.out]⟩
          case measure => simp [intOf]
      · rcases letter_at HOP.out hlt with hq | hq
        · have hr : isReg (shL o 2) := by unfold isReg; omega
          have ht : (((({ data := #[x0, x1, x2, x3] } : ByteArray)[2]'(show 2 < 4 by decide)).toNat : Int) == 45) = false := by rw [HLT.out.2.2.1, beq_eq_false_iff_ne]; omega
          obtain ⟨t1, t2, e1, e2, e3, z1, z2, z3⟩ := glue3 (so_reg (d := d) (a := a) (b := b) (n := n) hr) (by have := so_len (d := d) (a := a) (b := b) (n := n) HOP.out 2; omega)
          simp only [fourOf] at e3 z3
          have hb2 := four_bd HZ.out (k := 2) hlt
          simp only [fourOf] at hb2
          clear hq hlt hr
          go_wp2_with (go_at_call 16; ((with_reducible refine (refDigits_is b _ (by omega) (by omega)).mono ?_); rintro e w5 ⟨rfl, rfl⟩))
          go_round
          case rel => exact ⟨3, by omega, rfl, rfl⟩
          case measure => simp [intOf]
        · have ht : (((({ data := #[x0, x1, x2, x3] } : ByteArray)[2]'(show 2 < 4 by decide)).toNat : Int) == 45) = true := by rw [HLT.out.2.2.1, hq]; rfl
          have HN := Lib.hid (so_none (d := d) (a := a) (b := b) (n := n) hq)
          clear hq hlt
          go_wp2_with fail
          go_round
          case rel => exact ⟨3, by omega, rfl, by rw [HN.out]⟩
          case measure => simp [intOf]
      · rcases letter_at HOP.out hlt with hq | hq
        · have hrn : ¬ isReg (shL o 3) := by unfold isReg; omega
          have hm : isNum (shL o 3) := by unfold isNum; omega
          have ht : (((({ data := #[x0, x1, x2, x3] } : ByteArray)[3]'(show 3 < 4 by decide)).toNat : Int) == 45) = false := by rw [HLT.out.2.2.2, beq_eq_false_iff_ne]; omega
          obtain ⟨t1, e1, e2, z1, z2⟩ := glue2 (so_num (d := d) (a := a) (b := b) (n := n) hm hrn) (by have := so_len (d := d) (a := a) (b := b) (n := n) HOP.out 3; omega)
          simp only [fourOf] at e2 z2
          have hb3 := four_bd HZ.out (k := 3) hlt
          simp only [fourOf] at hb3
          clear hq hlt hrn hm
          go_wp2_with (go_at_call 16; ((with_reducible refine (refDigits_is n _ (by omega) (by omega)).mono ?_); rintro e w5 ⟨rfl, rfl⟩))
          go_round
          case rel => exact ⟨4, by omega, rfl, rfl⟩
          case measure => simp [intOf]
        · have ht : (((({ data := #[x0, x1, x2, x3] } : ByteArray)[3]'(show 3 < 4 by decide)).toNat : Int) == 45) = true := by rw [HLT.out.2.2.2, hq]; rfl
          have HN := Lib.hid (so_none (d := d) (a := a) (b := b) (n := n) hq)
          clear hq hlt
          go_wp2_with fail
          go_round
          case rel => exact ⟨4, by omega, rfl, by rw [HN.out]⟩
          case measure => simp [intOf]
    · obtain rfl : k = 4 := by omega
      go_wp2_with fail
      go_ret2
      exact ⟨rfl, HI2.out.below.alloc HI2.out.le _⟩
theorem refText_is (o d a b n z : Int) (s : ByteArray) (w : World) (hz : cChk o d a b n = z) (hs : lineT o d a b n = s) :
    Calls Tryd.prog 8 #[.agg #[.int .i64 o, .int .i64 d, .int .i64 a, .int .i64 b, .int .i64 n]] w fun e w' => e = .returned (.tuple #[.string s, .int .i64 z]) ∧ Below w.heap.size w w' := by
  subst hz hs
  unfold lineT
  by_cases h : cChk o d a b n = 0
  · rw [if_pos h, h]
    exact refText_good o d a b n w h
  · rw [if_neg h]
    exact refText_bad o d a b n _ w rfl h
end Go.Proofs.YtheflkhbmbfajaaDoor
