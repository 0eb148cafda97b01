/- Telling an instruction's operands, word by word, and what package line's Text answers. Conditions: the tables that the program lists lie as its text has them. -/
import Derived.Test.YtheflkhbmbfajaaDoorLinB
import Derived.Test.YtheflkhbmbfajaaDoorLinP
import Derived.Deep.AppendLies
import Derived.Deep.RegionLaw
namespace Go.Proofs.YtheflkhbmbfajaaDoor
open Go.RowKit Go.Shelf

theorem dgs_fuel : ∀ (f u : Nat), (dgs f u).length ≤ f
  | 0, _ => Nat.le_refl _
  | f + 1, u => by
    rw [dgs]
    split
    · simp
    · have := dgs_fuel f (u / 10)
      simp
      omega
theorem decL_le (n : Int) : (decL n).length ≤ 21 := by
  unfold decL
  split
  · have := dgs_fuel 20 n.natAbs; simp; omega
  · have := dgs_fuel 20 n.toNat; omega
theorem txt_cons (c : UInt8) (l : List UInt8) : ({ data := #[c] } : ByteArray) ++ txt l = txt (c :: l) := by
  apply str_ext
  rw [txt_list, ByteArray.data_append]
  simp [txt]
/-- Behind an append to texts of the call's own, elsewhere. -/
theorem blk_grown {W w2 : World} {B base size n : Nat} {e T : TypeId} {cs : Array Value} {v : Value} {xs : List Value} (h : BlkAt B T cs W) (ho : W.ownsRow base e size v n xs) (hT : T ≠ e) (hg : W.grownBy w2 v.ownBlock) : BlkAt B T cs w2 := by
  refine (hg.block B h.lt (fun q => ?_)).trans h
  rcases ho.2 with ⟨rfl, _⟩ | ⟨g, cap, cur, rfl, hb, hh, rest⟩
  · cases q
  · simp only [Value.ownBlock, Option.some.injEq] at q
    subst q
    unfold BlkAt at h
    rw [h] at hh
    cases hh
    exact hT rfl
theorem iter_grown {W w2 : World} {base size n I p : Nat} {e : TypeId} {v : Value} {xs : List Value} {s : ByteArray} (h : W.heap[I]? = some (.stringIter s p)) (ho : W.ownsRow base e size v n xs) (hg : W.grownBy w2 v.ownBlock) : w2.heap[I]? = some (.stringIter s p) := by
  refine (hg.block I (Array.getElem?_eq_some_iff.1 h).1 (fun q => ?_)).trans h
  rcases ho.2 with ⟨rfl, _⟩ | ⟨g, cap, cur, rfl, hb, hh, rest⟩
  · cases q
  · simp only [Value.ownBlock, Option.some.injEq] at q
    subst q
    rw [h] at hh
    cases hh
theorem own_ge {W : World} {base size n k : Nat} {e : TypeId} {v : Value} {xs : List Value} (ho : W.ownsRow base e size v n xs) (h : v.ownBlock = some k) : base ≤ k := by
  rcases ho.2 with ⟨rfl, _⟩ | ⟨g, cap, cur, rfl, hb, hh, rest⟩
  · cases h
  · simp only [Value.ownBlock, Option.some.injEq] at h
    subst h; exact hb
/-- A text appended to texts of the call's own, within a region that draws. -/
theorem step_append_text (w : World) {ops : Array Oper} {o : Oper} {a : Act} {K : Act → World → Prop} {Q : Exit → Act → World → Prop} {E : Prop} (hgd : o.guard = none) (s x : Operand)
    (ho : o.op = .call { callee := .builtin .append, args := #[s, x], argTypes := #[33, 33] }) (base m b : Nat) (v : Value) (xs : List Value) (u : ByteArray) (hs : a.eval s = v) (hx : a.eval x = .slice (some ⟨b, 0, none⟩) 1 1)
    (hown : w.ownsRow base 9 1 v m xs) (hu : w.cell? ⟨b, 0, none⟩ = some (.string u)) (hm : m < 1000) (hbase : base ≤ w.heap.size)
    (h : ∀ g cap w', w'.ownsRow base 9 1 (.slice (some ⟨g, 0, none⟩) (m + 1) cap) (m + 1) (xs ++ [.string u]) → w.grownBy w' v.ownBlock → K (a.put o.dst (.slice (some ⟨g, 0, none⟩) (m + 1) cap)) w') :
    if Region.wanted o (yielded ops a.tmps) = true then Oper.wp Tryd.prog o a w K Q else E := by
  obtain ⟨i0, hi, hz0, hz1, hz2⟩ := info_parts (show (Tryd.prog.info? 9).map (fun i => (i.zero, i.size, i.bytes)) = some (some (.string ⟨#[]⟩), 1, 16) by kernel_rfl)
  refine step_append_lies _ hgd s x 33 ho base 9 i0 (.string ⟨#[]⟩) 1 16 Tryd.underlying33 hi hz0 hz1 hz2 rfl (by decide) v m xs hs hown ⟨b, 0, none⟩ 1 1 [.string u] hx rfl ?_ ?_ (by decide) (by unfold maxLen; omega) (by omega) hbase _ rfl (fun g cap w' h1 h2 _ _ => h g cap w' h1 h2)
  · intro j u' hj
    match j, hj with
    | 0, hj => simp at hj; subst hj; simpa [Addr.add] using hu
  · intro u' hu'
    simp at hu'
    subst hu'; rfl
/-- What a word more comes to. -/
def Told (base B m : Nat) (cs : Array Value) (xs : List Value) (u : ByteArray) (w : World) (e : Ending) (w' : World) : Prop :=
  e = .returned (.bool true) ∧ ∃ v', BlkAt B 42 (cs.setIfInBounds 5 v') w' ∧ w'.ownsRow base 9 1 v' (m + 1) (xs ++ [.string u]) ∧ Below base w w' ∧ ∀ (I : Nat) (s : ByteArray) (p : Nat), w.heap[I]? = some (Obj.stringIter s p) → w'.heap[I]? = some (Obj.stringIter s p)
/-- All of it, out of what the region's steps leave. -/
theorem told_of {w w1 w2 : World} {base B m g cap : Nat} {cs : Array Value} {v : Value} {xs : List Value} {u : ByteArray} (h : BlkAt B 42 cs w) (hown : w.ownsRow base 9 1 v m xs) (hbase : base ≤ B) (hb : Below w.heap.size w w1)
    (ho : w2.ownsRow base 9 1 (.slice (some ⟨g, 0, none⟩) (m + 1) cap) (m + 1) (xs ++ [.string u])) (hg : (w1.alloc (.cells #[.string u] 9)).grownBy w2 v.ownBlock) :
    BlkAt B 42 cs w2 ∧ Told base B m cs xs u w (.returned (.bool true)) (w2.setCell ⟨B, 5, none⟩ (.slice (some ⟨g, 0, none⟩) (m + 1) cap)) := by
  have q0 : Below w.heap.size w (w1.alloc (.cells #[.string u] 9)) := hb.alloc hb.size _
  have ho0 := own_keep hown q0
  have hB := blk_grown (h.keep q0) ho0 (by decide) hg
  have hs : base ≤ w.heap.size := Nat.le_trans hbase (Nat.le_of_lt h.lt)
  refine ⟨hB, rfl, _, hB.set 5 _, own_off ho hB (by decide) (.set B 5 w2 _), ?_, fun I s p hI => ?_⟩
  · exact ((q0.mono hs).grown hg (by have := q0.size; omega) (fun k hk => own_ge ho0 hk)).setCell (p := ⟨B, 5, none⟩) hbase _
  · have i1 := (q0.block I (Array.getElem?_eq_some_iff.1 hI).1).trans hI
    exact (OnlyB.set B 5 w2 _).iter hB (iter_grown i1 ho0 hg)
set_option maxHeartbeats 2000000 in
theorem lineTellReg_is (B base off m : Nat) (x : Int) (v : Value) (xs : List Value) (cs : Array Value) (w : World) (h : BlkAt B 42 cs w) (h5 : cs[5]? = some v) (hown : w.ownsRow base 9 1 v m xs) (hy : cs[off]? = some (.int .i64 x)) (hx0 : -9223372036854775808 ≤ x) (hx1 : x ≤ 9223372036854775807) (hm : m < 1000) (hbase : base ≤ B) (hL : LinLaid w) :
    Calls Tryd.prog 20 #[.pointer (some ⟨B, 0, none⟩), .pointer (some ⟨B, off, none⟩)] w (Told base B m cs xs (txt (114 :: decL x)) w) := by
  have c5 := (h.cell 5).trans h5
  have f5 := h.free 5
  have cy := (h.cell off).trans hy
  have H5 := Lib.hid h5
  have hs : base ≤ w.heap.size := Nat.le_trans hbase (Nat.le_of_lt h.lt)
  have hq : ¬ (9223372036854775807 < 1 + (txt (decL x)).size) := by rw [txt_size]; have := decL_le x; omega
  have hcat := txt_cons 114 (decL x)
  clear h5 hy
  go_enter Tryd.func20, Tryd.ntmps20
  go_wp2
  go_region_law (first
    | (go_simp; go_at_call 31; ((with_reducible refine (lineItoa_is x _ hx0 hx1 (hL.below (Below.refl _ _).drew (Nat.le_refl _))).mono ?_); rintro e w1 ⟨rfl, hb⟩); have HB := Lib.hid (show Below w.heap.size w w1 from (Below.refl w.heap.size w).drew.trans hb); have c7 := (HB.out.cell (p := ⟨B, 5, none⟩) h.lt).trans c5; have c8 := fun o => (((HB.out.alloc HB.out.size o).cell (p := ⟨B, 5, none⟩) h.lt).trans c5); clear hb)
    | (refine step_append_text _ rfl (.tmp 9) (.tmp 15) rfl base m w1.heap.size v xs (txt (114 :: decL x)) rfl rfl (own_keep hown (HB.out.alloc HB.out.size _)) (by simp) hm (Nat.le_trans hs (HB.out.alloc HB.out.size _).size) ?_
       intro g cap w2 hown' hgrow; have HT := Lib.hid (told_of h hown hbase HB.out hown' hgrow); clear hown' hgrow; have c6 := (HT.out.1.cell 5).trans H5.out; have f6 := HT.out.1.free 5))
  all_goals go_wp2
  all_goals go_ret
  all_goals exact HT.out.2
set_option maxHeartbeats 2000000 in
theorem lineTellNum_is (B base off m : Nat) (x : Int) (v : Value) (xs : List Value) (cs : Array Value) (w : World) (h : BlkAt B 42 cs w) (h5 : cs[5]? = some v) (hown : w.ownsRow base 9 1 v m xs) (hy : cs[off]? = some (.int .i64 x)) (hx0 : -9223372036854775808 ≤ x) (hx1 : x ≤ 9223372036854775807) (hm : m < 1000) (hbase : base ≤ B) (hL : LinLaid w) :
    Calls Tryd.prog 21 #[.pointer (some ⟨B, 0, none⟩), .pointer (some ⟨B, off, none⟩)] w (Told base B m cs xs (txt (decL x)) w) := by
  have c5 := (h.cell 5).trans h5
  have f5 := h.free 5
  have cy := (h.cell off).trans hy
  have H5 := Lib.hid h5
  have hs : base ≤ w.heap.size := Nat.le_trans hbase (Nat.le_of_lt h.lt)
  clear h5 hy
  go_enter Tryd.func21, Tryd.ntmps21
  go_wp2
  go_region_law (first
    | (go_simp; go_at_call 31; ((with_reducible refine (lineItoa_is x _ hx0 hx1 (hL.below (Below.refl _ _).drew (Nat.le_refl _))).mono ?_); rintro e w1 ⟨rfl, hb⟩); have HB := Lib.hid (show Below w.heap.size w w1 from (Below.refl w.heap.size w).drew.trans hb); have c7 := (HB.out.cell (p := ⟨B, 5, none⟩) h.lt).trans c5; have c8 := fun o => (((HB.out.alloc HB.out.size o).cell (p := ⟨B, 5, none⟩) h.lt).trans c5); clear hb)
    | (refine step_append_text _ rfl (.tmp 9) (.tmp 14) rfl base m w1.heap.size v xs (txt (decL x)) rfl rfl (own_keep hown (HB.out.alloc HB.out.size _)) (by simp) hm (Nat.le_trans hs (HB.out.alloc HB.out.size _).size) ?_
       intro g cap w2 hown' hgrow; have HT := Lib.hid (told_of h hown hbase HB.out hown' hgrow); clear hown' hgrow; have c6 := (HT.out.1.cell 5).trans H5.out; have f6 := HT.out.1.free 5))
  all_goals go_wp2
  all_goals go_ret
  all_goals exact HT.out.2
set_option maxHeartbeats 4000000 in
theorem lineTellOne_is (B base off m : Nat) (c x : Int) (u : List UInt8) (v : Value) (xs : List Value) (cs : Array Value) (w : World) (h : BlkAt B 42 cs w) (h5 : cs[5]? = some v) (hown : w.ownsRow base 9 1 v m xs) (hy : cs[off]? = some (.int .i64 x)) (hx0 : -9223372036854775808 ≤ x) (hx1 : x ≤ 9223372036854775807) (hm : m < 1000) (hbase : base ≤ B) (hL : LinLaid w)
    (hc : c = 100 ∧ off = 1 ∨ c = 97 ∧ off = 2 ∨ c = 98 ∧ off = 3 ∨ (c = 115 ∨ c = 117) ∧ off = 4) (hu : opdW c x = [u]) :
    Calls Tryd.prog 39 #[.pointer (some ⟨B, 0, none⟩), .int .i32 c, .func (.func 20) #[.pointer (some ⟨B, 0, none⟩)] #[], .func (.func 21) #[.pointer (some ⟨B, 0, none⟩)] #[]] w (Told base B m cs xs (txt u) w) := by
  have HR := Lib.hid (fun off hy => lineTellReg_is B base off m x v xs cs w h h5 hown hy hx0 hx1 hm hbase hL)
  have HN := Lib.hid (fun off hy => lineTellNum_is B base off m x v xs cs w h h5 hown hy hx0 hx1 hm hbase hL)
  have HY := Lib.hid hy
  clear h h5 hown hy
  rcases hc with ⟨rfl, rfl⟩ | ⟨rfl, rfl⟩ | ⟨rfl, rfl⟩ | ⟨rfl | rfl, rfl⟩
  any_goals
    rw [show opdW _ x = [114 :: decL x] from if_pos (by decide)] at hu
    obtain rfl := (List.cons.inj hu).1
    clear hu
    go_enter Tryd.func39, Tryd.ntmps39
    go_wp2_with (go_at_call 20; ((with_reducible refine (HR.out _ HY.out).mono ?_); rintro e w1 ⟨rfl, hq⟩); have HQ := Lib.hid hq; clear hq)
    go_ret
    exact ⟨rfl, HQ.out⟩
  all_goals
    rw [show opdW _ x = [decL x] from (if_neg (by decide)).trans (if_pos (by decide))] at hu
    obtain rfl := (List.cons.inj hu).1
    clear hu
    go_enter Tryd.func39, Tryd.ntmps39
    go_wp2_with (go_at_call 21; ((with_reducible refine (HN.out _ HY.out).mono ?_); rintro e w1 ⟨rfl, hq⟩); have HQ := Lib.hid hq; clear hq)
    go_ret
    exact ⟨rfl, HQ.out⟩
/-- The reader behind k letters that have been told. -/
def TellAt (w0 : World) (B : Nat) (o d a b n : Int) (k : Nat) (w : World) : Prop :=
  ∃ v, BlkAt B 42 (rdC o d a b n v) w ∧ w.ownsRow w0.heap.size 9 1 v (tells o d a b n k).length (((tells o d a b n k).map txt).map Value.string) ∧ Below w0.heap.size w0 w
theorem TellAt.keep {w0 w w' : World} {B k : Nat} {o d a b n : Int} (h : TellAt w0 B o d a b n k w) (hb : Below w.heap.size w w') : TellAt w0 B o d a b n k w' := by
  obtain ⟨v, h1, h2, h3⟩ := h
  exact ⟨v, h1.keep hb, own_keep h2 hb, h3.trans (hb.mono h3.size)⟩
theorem TellAt.iter {w0 w : World} {B k I : Nat} {o d a b n : Int} {s : ByteArray} {p : Nat} (h : TellAt w0 B o d a b n k w) (hI : w0.heap.size ≤ I) (hi : w.heap[I]? = some (.stringIter s p)) (q : Nat) : TellAt w0 B o d a b n k (w.iterAt I s q) := by
  obtain ⟨v, hb, h2, h3⟩ := h
  refine ⟨v, ?_, own_iterAt h2 hi q, Lib.below_iterAt h3 hI s q⟩
  unfold BlkAt at *
  rw [Lib.iterAt_other _ _ _ _ _ (fun e => by subst e; rw [hi] at hb; cases hb)]
  exact hb
theorem tells_len (o d a b n : Int) : ∀ k, (tells o d a b n k).length ≤ k + 1
  | 0 => by simp [tells]
  | k + 1 => by
    have := tells_len o d a b n k
    rw [tells, List.length_append]
    have : (opdW (shL o k) (fourOf d a b n k)).length ≤ 1 := by
      unfold opdW
      split
      · simp
      · split <;> simp
    omega
theorem fErr_bd {c x : Int} (hx : fErr c x = 0) : -32768 ≤ x ∧ x ≤ 65535 := by
  unfold fErr at hx
  split at hx
  · rename_i q
    unfold rLow rHigh at q
    repeat' split at q
    all_goals omega
  · split at hx <;> cases hx
theorem four_bd {o d a b n : Int} (h : cChk o d a b n = 0) {k : Nat} (hk : k < 4) : -32768 ≤ fourOf d a b n k ∧ fourOf d a b n k ≤ 65535 := by
  obtain ⟨e0, e1, e2, e3⟩ := chk_0 h
  obtain rfl | rfl | rfl | rfl : k = 0 ∨ k = 1 ∨ k = 2 ∨ k = 3 := by omega
  · exact fErr_bd e0
  · exact fErr_bd e1
  · exact fErr_bd e2
  · exact fErr_bd e3
theorem lineTell_step (w0 : World) (B k : Nat) (o d a b n c : Int) (w : World) (hz : cChk o d a b n = 0) (hk : k < 4) (hc : c = shL o k) (h : TellAt w0 B o d a b n k w) (hL : LinLaid w0) (hB : w0.heap.size ≤ B) :
    Calls Tryd.prog 39 #[.pointer (some ⟨B, 0, none⟩), .int .i32 c, .func (.func 20) #[.pointer (some ⟨B, 0, none⟩)] #[], .func (.func 21) #[.pointer (some ⟨B, 0, none⟩)] #[]] w (StepTo (TellAt w0 B o d a b n (k + 1)) (fun _ => False) w) := by
  subst hc
  obtain ⟨v, h1, h2, h3⟩ := h
  have hbd := four_bd hz hk
  have hln := tells_len o d a b n k
  rcases letter_at (chk_op hz) hk with hq | hq
  · obtain ⟨u, hu⟩ : ∃ u, opdW (shL o k) (fourOf d a b n k) = [u] := by
      unfold opdW
      by_cases r : isReg (shL o k)
      · rw [if_pos r]; exact ⟨_, rfl⟩
      · rw [if_neg r, if_pos (by unfold isReg at r; unfold isNum; omega)]; exact ⟨_, rfl⟩
    have hy : (rdC o d a b n v)[k + 1]? = some (.int .i64 (fourOf d a b n k)) := by
      obtain rfl | rfl | rfl | rfl : k = 0 ∨ k = 1 ∨ k = 2 ∨ k = 3 := by omega
      all_goals rfl
    refine (lineTellOne_is B w0.heap.size (k + 1) _ (shL o k) (fourOf d a b n k) u v _ _ w h1 rfl h2 hy (by omega) (by omega) (by omega) hB (hL.below h3 (Nat.le_refl _)) hq hu).mono ?_
    rintro e w' ⟨rfl, v', k1, k2, k3, k4⟩
    refine ⟨k4, .inl ⟨rfl, v', k1.eq (by simp [rdC]), ?_, h3.trans k3⟩⟩
    rw [tells, hu, List.length_append, List.map_append, List.map_append]
    exact k2
  · have he : opdW (shL o k) (fourOf d a b n k) = [] := by rw [hq]; exact (if_neg (by decide)).trans (if_neg (by decide))
    have ht : tells o d a b n (k + 1) = tells o d a b n k := by rw [tells, he, List.append_nil]
    rw [hq]
    refine (lineNoOne_is B _ _ w).mono ?_
    rintro e w' ⟨rfl, rfl⟩
    exact ⟨fun _ _ _ hI => hI, .inl ⟨rfl, v, h1, by rw [ht]; exact h2, h3⟩⟩
theorem lineTell_is (w0 : World) (B : Nat) (o d a b n : Int) (w : World) (hz : cChk o d a b n = 0) (h : TellAt w0 B o d a b n 0 w) (hL : LinLaid w0) (hB : w0.heap.size ≤ B) :
    Calls Tryd.prog 19 #[.pointer (some ⟨B, 0, none⟩), .func (.func 20) #[.pointer (some ⟨B, 0, none⟩)] #[], .func (.func 21) #[.pointer (some ⟨B, 0, none⟩)] #[]] w fun e w' => e = .returned (.bool true) ∧ TellAt w0 B o d a b n 4 w' := by
  obtain ⟨x0, x1, x2, x3, hs, hx, he⟩ := letter_small (chk_op hz)
  have hh := h
  obtain ⟨v, h1, h2, h3⟩ := hh
  refine (lineOperands_is B _ _ o x0 x1 x2 x3 _ (TellAt w0 B o d a b n) (fun _ => False) w rfl hs hx (h1.cell 0) (hL.below h3 (Nat.le_refl _)).shapes (fun w' hb => h.keep hb)
    (fun k w' I s p q hI hj hi => hj.iter (Nat.le_trans h3.size hI) hi q) (fun k w' hk hj => lineTell_step w0 B k o d a b n _ w' hz hk (he k hk) hj hL hB)).mono ?_
  rintro e w' (q | ⟨_, q⟩)
  · exact q
  · exact q.elim
end Go.Proofs.YtheflkhbmbfajaaDoor
