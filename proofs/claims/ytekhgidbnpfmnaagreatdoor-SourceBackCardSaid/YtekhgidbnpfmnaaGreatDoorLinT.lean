/- Package line: Text; Parse and Number in a caller's words. -/
import Derived.Test.YtekhgidbnpfmnaaGreatDoorLinA
import Derived.Deep.AppendLies
import Derived.Deep.RegionLaw
import Derived.Test.YtekhgidbnpfmnaaGreatDoorCodE
namespace Go.Proofs.YtekhgidbnpfmnaaGreatDoor
open Go.RowKit

section
open Go.RowKit Go.Shelf

theorem dgs_fuel : ∀ (f u : Nat), (dgs f u).length ≤ f
  | 0, _ => Nat.le_refl _
  | f + 1, u => by
    rw [dgs]
    split
    · simp
    · have := dgs_fuel f (u / 10)
      simp
      omega
theorem decL_le (n : Int) : (decL n).length ≤ 21 := by
  unfold decL
  split
  · have := dgs_fuel 20 n.natAbs; simp; omega
  · have := dgs_fuel 20 n.toNat; omega
theorem txt_cons (c : UInt8) (l : List UInt8) : ({ data := #[c] } : ByteArray) ++ txt l = txt (c :: l) := by
  apply str_ext
  rw [txt_list, ByteArray.data_append]
  simp [txt]
/-- Behind an append to texts of the call's own, elsewhere. -/
theorem blk_grown {W w2 : World} {B base size n : Nat} {e T : TypeId} {cs : Array Value} {v : Value} {xs : List Value} (h : BlkAt B T cs W) (ho : W.ownsRow base e size v n xs) (hT : T ≠ e) (hg : W.grownBy w2 v.ownBlock) : BlkAt B T cs w2 := by
  refine (hg.block B h.lt (fun q => ?_)).trans h
  rcases ho.2 with ⟨rfl, _⟩ | ⟨g, cap, cur, rfl, hb, hh, rest⟩
  · cases q
  · simp only [Value.ownBlock, Option.some.injEq] at q
    subst q
    unfold BlkAt at h
    rw [h] at hh
    cases hh
    exact hT rfl
theorem iter_grown {W w2 : World} {base size n I p : Nat} {e : TypeId} {v : Value} {xs : List Value} {s : ByteArray} (h : W.heap[I]? = some (.stringIter s p)) (ho : W.ownsRow base e size v n xs) (hg : W.grownBy w2 v.ownBlock) : w2.heap[I]? = some (.stringIter s p) := by
  refine (hg.block I (Array.getElem?_eq_some_iff.1 h).1 (fun q => ?_)).trans h
  rcases ho.2 with ⟨rfl, _⟩ | ⟨g, cap, cur, rfl, hb, hh, rest⟩
  · cases q
  · simp only [Value.ownBlock, Option.some.injEq] at q
    subst q
    rw [h] at hh
    cases hh
theorem own_ge {W : World} {base size n k : Nat} {e : TypeId} {v : Value} {xs : List Value} (ho : W.ownsRow base e size v n xs) (h : v.ownBlock = some k) : base ≤ k := by
  rcases ho.2 with ⟨rfl, _⟩ | ⟨g, cap, cur, rfl, hb, hh, rest⟩
  · cases h
  · simp only [Value.ownBlock, Option.some.injEq] at h
    subst h; exact hb
/-- A text appended to texts of the call's own, within a region that draws. -/
theorem step_append_text (w : World) {ops : Array Oper} {o : Oper} {a : Act} {K : Act → World → Prop} {Q : Exit → Act → World → Prop} {E : Prop} (hgd : o.guard = none) (s x : Operand)
    (ho : o.op = .call { callee := .builtin .append, args := #[s, x], argTypes := #[38, 38] }) (base m b : Nat) (v : Value) (xs : List Value) (u : ByteArray) (hs : a.eval s = v) (hx : a.eval x = .slice (some ⟨b, 0, none⟩) 1 1)
    (hown : w.ownsRow base 9 1 v m xs) (hu : w.cell? ⟨b, 0, none⟩ = some (.string u)) (hm : m < 1000) (hbase : base ≤ w.heap.size)
    (h : ∀ g cap w', w'.ownsRow base 9 1 (.slice (some ⟨g, 0, none⟩) (m + 1) cap) (m + 1) (xs ++ [.string u]) → w.grownBy w' v.ownBlock → K (a.put o.dst (.slice (some ⟨g, 0, none⟩) (m + 1) cap)) w') :
    if Region.wanted o (yielded ops a.tmps) = true then Oper.wp Tryz.prog o a w K Q else E := by
  obtain ⟨i0, hi, hz0, hz1, hz2⟩ := info_parts (show (Tryz.prog.info? 9).map (fun i => (i.zero, i.size, i.bytes)) = some (some (.string ⟨#[]⟩), 1, 16) by kernel_rfl)
  refine step_append_lies _ hgd s x 38 ho base 9 i0 (.string ⟨#[]⟩) 1 16 Tryz.underlying38 hi hz0 hz1 hz2 rfl (by decide) v m xs hs hown ⟨b, 0, none⟩ 1 1 [.string u] hx rfl ?_ ?_ (by decide) (by unfold maxLen; omega) (by omega) hbase _ rfl (fun g cap w' h1 h2 _ _ => h g cap w' h1 h2)
  · intro j u' hj
    match j, hj with
    | 0, hj => simp at hj; subst hj; simpa [Addr.add] using hu
  · intro u' hu'
    simp at hu'
    subst hu'; rfl
/-- What a word more comes to. -/
def Told (base B m : Nat) (cs : Array Value) (xs : List Value) (u : ByteArray) (w : World) (e : Ending) (w' : World) : Prop :=
  e = .returned (.bool true) ∧ ∃ v', BlkAt B 149 (cs.setIfInBounds 5 v') w' ∧ w'.ownsRow base 9 1 v' (m + 1) (xs ++ [.string u]) ∧ Below base w w' ∧ ∀ (I : Nat) (s : ByteArray) (p : Nat), w.heap[I]? = some (Obj.stringIter s p) → w'.heap[I]? = some (Obj.stringIter s p)
/-- All of it, out of what the region's steps leave. -/
theorem told_of {w w1 w2 : World} {base B m g cap : Nat} {cs : Array Value} {v : Value} {xs : List Value} {u : ByteArray} (h : BlkAt B 149 cs w) (hown : w.ownsRow base 9 1 v m xs) (hbase : base ≤ B) (hb : Below w.heap.size w w1)
    (ho : w2.ownsRow base 9 1 (.slice (some ⟨g, 0, none⟩) (m + 1) cap) (m + 1) (xs ++ [.string u])) (hg : (w1.alloc (.cells #[.string u] 9)).grownBy w2 v.ownBlock) :
    BlkAt B 149 cs w2 ∧ Told base B m cs xs u w (.returned (.bool true)) (w2.setCell ⟨B, 5, none⟩ (.slice (some ⟨g, 0, none⟩) (m + 1) cap)) := by
  have q0 : Below w.heap.size w (w1.alloc (.cells #[.string u] 9)) := hb.alloc hb.size _
  have ho0 := own_keep hown q0
  have hB := blk_grown (h.keep q0) ho0 (by decide) hg
  have hs : base ≤ w.heap.size := Nat.le_trans hbase (Nat.le_of_lt h.lt)
  refine ⟨hB, rfl, _, hB.set 5 _, own_off ho hB (by decide) (.set B 5 w2 _), ?_, fun I s p hI => ?_⟩
  · exact ((q0.mono hs).grown hg (by have := q0.size; omega) (fun k hk => own_ge ho0 hk)).setCell (p := ⟨B, 5, none⟩) hbase _
  · have i1 := (q0.block I (Array.getElem?_eq_some_iff.1 hI).1).trans hI
    exact (OnlyB.set B 5 w2 _).iter hB (iter_grown i1 ho0 hg)
set_option maxHeartbeats 2000000 in
theorem lineTellReg_is (B base off m : Nat) (x : Int) (v : Value) (xs : List Value) (cs : Array Value) (w : World) (h : BlkAt B 149 cs w) (h5 : cs[5]? = some v) (hown : w.ownsRow base 9 1 v m xs) (hy : cs[off]? = some (.int .i64 x)) (hx0 : -9223372036854775808 ≤ x) (hx1 : x ≤ 9223372036854775807) (hm : m < 1000) (hbase : base ≤ B) (hL : LinLaid w) :
    Calls Tryz.prog 98 #[.pointer (some ⟨B, 0, none⟩), .pointer (some ⟨B, off, none⟩)] w (Told base B m cs xs (txt (114 :: decL x)) w) := by
  have c5 := (h.cell 5).trans h5
  have f5 := h.free 5
  have cy := (h.cell off).trans hy
  have H5 := Lib.hid h5
  have hs : base ≤ w.heap.size := Nat.le_trans hbase (Nat.le_of_lt h.lt)
  have hq : ¬ (9223372036854775807 < 1 + (txt (decL x)).size) := by rw [txt_size]; have := decL_le x; omega
  have hcat := txt_cons 114 (decL x)
  clear h5 hy
  go_enter Tryz.func98, Tryz.ntmps98
  go_wp2
  go_region_law (first
    | (go_simp; go_at_call 60; ((with_reducible refine (lineItoa_is x _ hx0 hx1 (hL.below (Below.refl _ _).drew (Nat.le_refl _))).mono ?_); rintro e w1 ⟨rfl, hb⟩); have HB := Lib.hid (show Below w.heap.size w w1 from (Below.refl w.heap.size w).drew.trans hb); have c7 := (HB.out.cell (p := ⟨B, 5, none⟩) h.lt).trans c5; have c8 := fun o => (((HB.out.alloc HB.out.size o).cell (p := ⟨B, 5, none⟩) h.lt).trans c5); clear hb)
    | (refine step_append_text _ rfl (.tmp 9) (.tmp 15) rfl base m w1.heap.size v xs (txt (114 :: decL x)) rfl rfl (own_keep hown (HB.out.alloc HB.out.size _)) (by simp) hm (Nat.le_trans hs (HB.out.alloc HB.out.size _).size) ?_
       intro g cap w2 hown' hgrow; have HT := Lib.hid (told_of h hown hbase HB.out hown' hgrow); clear hown' hgrow; have c6 := (HT.out.1.cell 5).trans H5.out; have f6 := HT.out.1.free 5))
  all_goals go_wp2
  all_goals go_ret
  all_goals exact HT.out.2
set_option maxHeartbeats 2000000 in
theorem lineTellNum_is (B base off m : Nat) (x : Int) (v : Value) (xs : List Value) (cs : Array Value) (w : World) (h : BlkAt B 149 cs w) (h5 : cs[5]? = some v) (hown : w.ownsRow base 9 1 v m xs) (hy : cs[off]? = some (.int .i64 x)) (hx0 : -9223372036854775808 ≤ x) (hx1 : x ≤ 9223372036854775807) (hm : m < 1000) (hbase : base ≤ B) (hL : LinLaid w) :
    Calls Tryz.prog 99 #[.pointer (some ⟨B, 0, none⟩), .pointer (some ⟨B, off, none⟩)] w (Told base B m cs xs (txt (decL x)) w) := by
  have c5 := (h.cell 5).trans h5
  have f5 := h.free 5
  have cy := (h.cell off).trans hy
  have H5 := Lib.hid h5
  have hs : base ≤ w.heap.size := Nat.le_trans hbase (Nat.le_of_lt h.lt)
  clear h5 hy
  go_enter Tryz.func99, Tryz.ntmps99
  go_wp2
  go_region_law (first
    | (go_simp; go_at_call 60; ((with_reducible refine (lineItoa_is x _ hx0 hx1 (hL.below (Below.refl _ _).drew (Nat.le_refl _))).mono ?_); rintro e w1 ⟨rfl, hb⟩); have HB := Lib.hid (show Below w.heap.size w w1 from (Below.refl w.heap.size w).drew.trans hb); have c7 := (HB.out.cell (p := ⟨B, 5, none⟩) h.lt).trans c5; have c8 := fun o => (((HB.out.alloc HB.out.size o).cell (p := ⟨B, 5, none⟩) h.lt).trans c5); clear hb)
    | (refine step_append_text _ rfl (.tmp 9) (.tmp 14) rfl base m w1.heap.size v xs (txt (decL x)) rfl rfl (own_keep hown (HB.out.alloc HB.out.size _)) (by simp) hm (Nat.le_trans hs (HB.out.alloc HB.out.size _).size) ?_
       intro g cap w2 hown' hgrow; have HT := Lib.hid (told_of h hown hbase HB.out hown' hgrow); clear hown' hgrow; have c6 := (HT.out.1.cell 5).trans H5.out; have f6 := HT.out.1.free 5))
  all_goals go_wp2
  all_goals go_ret
  all_goals exact HT.out.2
set_option maxHeartbeats 4000000 in
theorem lineTellOne_is (B base off m : Nat) (c x : Int) (u : List UInt8) (v : Value) (xs : List Value) (cs : Array Value) (w : World) (h : BlkAt B 149 cs w) (h5 : cs[5]? = some v) (hown : w.ownsRow base 9 1 v m xs) (hy : cs[off]? = some (.int .i64 x)) (hx0 : -9223372036854775808 ≤ x) (hx1 : x ≤ 9223372036854775807) (hm : m < 1000) (hbase : base ≤ B) (hL : LinLaid w)
    (hc : c = 100 ∧ off = 1 ∨ c = 97 ∧ off = 2 ∨ c = 98 ∧ off = 3 ∨ (c = 115 ∨ c = 117) ∧ off = 4) (hu : opdW c x = [u]) :
    Calls Tryz.prog 130 #[.pointer (some ⟨B, 0, none⟩), .int .i32 c, .func (.func 98) #[.pointer (some ⟨B, 0, none⟩)] #[], .func (.func 99) #[.pointer (some ⟨B, 0, none⟩)] #[]] w (Told base B m cs xs (txt u) w) := by
  have HR := Lib.hid (fun off hy => lineTellReg_is B base off m x v xs cs w h h5 hown hy hx0 hx1 hm hbase hL)
  have HN := Lib.hid (fun off hy => lineTellNum_is B base off m x v xs cs w h h5 hown hy hx0 hx1 hm hbase hL)
  have HY := Lib.hid hy
  clear h h5 hown hy
  rcases hc with ⟨rfl, rfl⟩ | ⟨rfl, rfl⟩ | ⟨rfl, rfl⟩ | ⟨rfl | rfl, rfl⟩
  any_goals
    rw [show opdW _ x = [114 :: decL x] from if_pos (by decide)] at hu
    obtain rfl := (List.cons.inj hu).1
    clear hu
    go_enter Tryz.func130, Tryz.ntmps130
    go_wp2_with (go_at_call 98; ((with_reducible refine (HR.out _ HY.out).mono ?_); rintro e w1 ⟨rfl, hq⟩); have HQ := Lib.hid hq; clear hq)
    go_ret
    exact ⟨rfl, HQ.out⟩
  all_goals
    rw [show opdW _ x = [decL x] from (if_neg (by decide)).trans (if_pos (by decide))] at hu
    obtain rfl := (List.cons.inj hu).1
    clear hu
    go_enter Tryz.func130, Tryz.ntmps130
    go_wp2_with (go_at_call 99; ((with_reducible refine (HN.out _ HY.out).mono ?_); rintro e w1 ⟨rfl, hq⟩); have HQ := Lib.hid hq; clear hq)
    go_ret
    exact ⟨rfl, HQ.out⟩
/-- The reader behind k letters that have been told. -/
def TellAt (w0 : World) (B : Nat) (o d a b n : Int) (k : Nat) (w : World) : Prop :=
  ∃ v, BlkAt B 149 (rdC o d a b n v) w ∧ w.ownsRow w0.heap.size 9 1 v (tells o d a b n k).length (((tells o d a b n k).map txt).map Value.string) ∧ Below w0.heap.size w0 w
theorem TellAt.keep {w0 w w' : World} {B k : Nat} {o d a b n : Int} (h : TellAt w0 B o d a b n k w) (hb : Below w.heap.size w w') : TellAt w0 B o d a b n k w' := by
  obtain ⟨v, h1, h2, h3⟩ := h
  exact ⟨v, h1.keep hb, own_keep h2 hb, h3.trans (hb.mono h3.size)⟩
theorem TellAt.iter {w0 w : World} {B k I : Nat} {o d a b n : Int} {s : ByteArray} {p : Nat} (h : TellAt w0 B o d a b n k w) (hI : w0.heap.size ≤ I) (hi : w.heap[I]? = some (.stringIter s p)) (q : Nat) : TellAt w0 B o d a b n k (w.iterAt I s q) := by
  obtain ⟨v, hb, h2, h3⟩ := h
  refine ⟨v, ?_, own_iterAt h2 hi q, Lib.below_iterAt h3 hI s q⟩
  unfold BlkAt at *
  rw [Lib.iterAt_other _ _ _ _ _ (fun e => by subst e; rw [hi] at hb; cases hb)]
  exact hb
theorem tells_len (o d a b n : Int) : ∀ k, (tells o d a b n k).length ≤ k + 1
  | 0 => by simp [tells]
  | k + 1 => by
    have := tells_len o d a b n k
    rw [tells, List.length_append]
    have : (opdW (shL o k) (fourOf d a b n k)).length ≤ 1 := by
      unfold opdW
      split
      · simp
      · split <;> simp
    omega
theorem fErr_bd {c x : Int} (hx : fErr c x = 0) : -32768 ≤ x ∧ x ≤ 65535 := by
  unfold fErr at hx
  split at hx
  · rename_i q
    unfold rLow rHigh at q
    repeat' split at q
    all_goals omega
  · split at hx <;> cases hx
theorem four_bd {o d a b n : Int} (h : cChk o d a b n = 0) {k : Nat} (hk : k < 4) : -32768 ≤ fourOf d a b n k ∧ fourOf d a b n k ≤ 65535 := by
  obtain ⟨e0, e1, e2, e3⟩ := chk_0 h
  obtain rfl | rfl | rfl | rfl : k = 0 ∨ k = 1 ∨ k = 2 ∨ k = 3 := by omega
  · exact fErr_bd e0
  · exact fErr_bd e1
  · exact fErr_bd e2
  · exact fErr_bd e3
theorem lineTell_step (w0 : World) (B k : Nat) (o d a b n c : Int) (w : World) (hz : cChk o d a b n = 0) (hk : k < 4) (hc : c = shL o k) (h : TellAt w0 B o d a b n k w) (hL : LinLaid w0) (hB : w0.heap.size ≤ B) :
    Calls Tryz.prog 130 #[.pointer (some ⟨B, 0, none⟩), .int .i32 c, .func (.func 98) #[.pointer (some ⟨B, 0, none⟩)] #[], .func (.func 99) #[.pointer (some ⟨B, 0, none⟩)] #[]] w (StepTo (TellAt w0 B o d a b n (k + 1)) (fun _ => False) w) := by
  subst hc
  obtain ⟨v, h1, h2, h3⟩ := h
  have hbd := four_bd hz hk
  have hln := tells_len o d a b n k
  rcases letter_at (chk_op hz) hk with hq | hq
  · obtain ⟨u, hu⟩ : ∃ u, opdW (shL o k) (fourOf d a b n k) = [u] := by
      unfold opdW
      by_cases r : isReg (shL o k)
      · rw [if_pos r]; exact ⟨_, rfl⟩
      · rw [if_neg r, if_pos (by unfold isReg at r; unfold isNum; omega)]; exact ⟨_, rfl⟩
    have hy : (rdC o d a b n v)[k + 1]? = some (.int .i64 (fourOf d a b n k)) := by
      obtain rfl | rfl | rfl | rfl : k = 0 ∨ k = 1 ∨ k = 2 ∨ k = 3 := by omega
      all_goals rfl
    refine (lineTellOne_is B w0.heap.size (k + 1) _ (shL o k) (fourOf d a b n k) u v _ _ w h1 rfl h2 hy (by omega) (by omega) (by omega) hB (hL.below h3 (Nat.le_refl _)) hq hu).mono ?_
    rintro e w' ⟨rfl, v', k1, k2, k3, k4⟩
    refine ⟨k4, .inl ⟨rfl, v', k1.eq (by simp [rdC]), ?_, h3.trans k3⟩⟩
    rw [tells, hu, List.length_append, List.map_append, List.map_append]
    exact k2
  · have he : opdW (shL o k) (fourOf d a b n k) = [] := by rw [hq]; exact (if_neg (by decide)).trans (if_neg (by decide))
    have ht : tells o d a b n (k + 1) = tells o d a b n k := by rw [tells, he, List.append_nil]
    rw [hq]
    refine (lineNoOne_is B _ _ w).mono ?_
    rintro e w' ⟨rfl, rfl⟩
    exact ⟨fun _ _ _ hI => hI, .inl ⟨rfl, v, h1, by rw [ht]; exact h2, h3⟩⟩
theorem lineTell_is (w0 : World) (B : Nat) (o d a b n : Int) (w : World) (hz : cChk o d a b n = 0) (h : TellAt w0 B o d a b n 0 w) (hL : LinLaid w0) (hB : w0.heap.size ≤ B) :
    Calls Tryz.prog 97 #[.pointer (some ⟨B, 0, none⟩), .func (.func 98) #[.pointer (some ⟨B, 0, none⟩)] #[], .func (.func 99) #[.pointer (some ⟨B, 0, none⟩)] #[]] w fun e w' => e = .returned (.bool true) ∧ TellAt w0 B o d a b n 4 w' := by
  obtain ⟨x0, x1, x2, x3, hs, hx, he⟩ := letter_small (chk_op hz)
  have hh := h
  obtain ⟨v, h1, h2, h3⟩ := hh
  refine (lineOperands_is B _ _ o x0 x1 x2 x3 _ (TellAt w0 B o d a b n) (fun _ => False) w rfl hs hx (h1.cell 0) (hL.below h3 (Nat.le_refl _)).shapes (fun w' hb => h.keep hb)
    (fun k w' I s p q hI hj hi => hj.iter (Nat.le_trans h3.size hI) hi q) (fun k w' hk hj => lineTell_step w0 B k o d a b n _ w' hz hk (he k hk) hj hL hB)).mono ?_
  rintro e w' (q | ⟨_, q⟩)
  · exact q
  · exact q.elim
end

section
open Go.RowKit Go.Shelf

theorem new_kept {B : Nat} {T : TypeId} {cs : Array Value} {w : World} (h : BlkAt B T cs w) (x : Obj) (k : Nat) : (w.alloc x).cell? ⟨B, k, none⟩ = cs[k]? := (h.keep ((Below.refl _ _).alloc (Nat.le_refl _) x)).cell k
theorem new_free {B : Nat} {T : TypeId} {cs : Array Value} {w : World} (h : BlkAt B T cs w) (x : Obj) (k : Nat) : (w.alloc x).frozen? ⟨B, k, none⟩ = false := (h.keep ((Below.refl _ _).alloc (Nat.le_refl _) x)).free k
theorem s5_of {w w' : World} {o d a b n : Int} (h : InsW w w.heap.size o d a b n w') : w'.cell? ⟨w.heap.size, 0, none⟩ = some (.int .i64 o) ∧ w'.cell? ⟨w.heap.size, 1, none⟩ = some (.int .i64 d) ∧ w'.cell? ⟨w.heap.size, 2, none⟩ = some (.int .i64 a) ∧ w'.cell? ⟨w.heap.size, 3, none⟩ = some (.int .i64 b) ∧ w'.cell? ⟨w.heap.size, 4, none⟩ = some (.int .i64 n) ∧ InsW w w.heap.size o d a b n w' := ⟨h.c0, h.c1, h.c2, h.c3, h.c4, h⟩
theorem s5_alloc {w w' : World} {o d a b n : Int} (h : w'.cell? ⟨w.heap.size, 0, none⟩ = some (.int .i64 o) ∧ w'.cell? ⟨w.heap.size, 1, none⟩ = some (.int .i64 d) ∧ w'.cell? ⟨w.heap.size, 2, none⟩ = some (.int .i64 a) ∧ w'.cell? ⟨w.heap.size, 3, none⟩ = some (.int .i64 b) ∧ w'.cell? ⟨w.heap.size, 4, none⟩ = some (.int .i64 n) ∧ InsW w w.heap.size o d a b n w') (x : Obj) : (w'.alloc x).cell? ⟨w.heap.size, 0, none⟩ = some (.int .i64 o) ∧ (w'.alloc x).cell? ⟨w.heap.size, 1, none⟩ = some (.int .i64 d) ∧ (w'.alloc x).cell? ⟨w.heap.size, 2, none⟩ = some (.int .i64 a) ∧ (w'.alloc x).cell? ⟨w.heap.size, 3, none⟩ = some (.int .i64 b) ∧ (w'.alloc x).cell? ⟨w.heap.size, 4, none⟩ = some (.int .i64 n) ∧ InsW w w.heap.size o d a b n (w'.alloc x) := s5_of (h.2.2.2.2.2.alloc x)
theorem s5_set {w w' : World} {o d a b n : Int} {g : Nat} (h : w'.cell? ⟨w.heap.size, 0, none⟩ = some (.int .i64 o) ∧ w'.cell? ⟨w.heap.size, 1, none⟩ = some (.int .i64 d) ∧ w'.cell? ⟨w.heap.size, 2, none⟩ = some (.int .i64 a) ∧ w'.cell? ⟨w.heap.size, 3, none⟩ = some (.int .i64 b) ∧ w'.cell? ⟨w.heap.size, 4, none⟩ = some (.int .i64 n) ∧ InsW w w.heap.size o d a b n w') (hg : w.heap.size < g) (v0 v1 v2 v3 v4 v5 : Value) : (((((((w'.setCell ⟨g, 0, none⟩ v0).setCell ⟨g, 1, none⟩ v1).setCell ⟨g, 2, none⟩ v2).setCell ⟨g, 3, none⟩ v3).setCell ⟨g, 4, none⟩ v4).setCell ⟨g, 5, none⟩ v5)).cell? ⟨w.heap.size, 0, none⟩ = some (.int .i64 o) ∧ (((((((w'.setCell ⟨g, 0, none⟩ v0).setCell ⟨g, 1, none⟩ v1).setCell ⟨g, 2, none⟩ v2).setCell ⟨g, 3, none⟩ v3).setCell ⟨g, 4, none⟩ v4).setCell ⟨g, 5, none⟩ v5)).cell? ⟨w.heap.size, 1, none⟩ = some (.int .i64 d) ∧ (((((((w'.setCell ⟨g, 0, none⟩ v0).setCell ⟨g, 1, none⟩ v1).setCell ⟨g, 2, none⟩ v2).setCell ⟨g, 3, none⟩ v3).setCell ⟨g, 4, none⟩ v4).setCell ⟨g, 5, none⟩ v5)).cell? ⟨w.heap.size, 2, none⟩ = some (.int .i64 a) ∧ (((((((w'.setCell ⟨g, 0, none⟩ v0).setCell ⟨g, 1, none⟩ v1).setCell ⟨g, 2, none⟩ v2).setCell ⟨g, 3, none⟩ v3).setCell ⟨g, 4, none⟩ v4).setCell ⟨g, 5, none⟩ v5)).cell? ⟨w.heap.size, 3, none⟩ = some (.int .i64 b) ∧ (((((((w'.setCell ⟨g, 0, none⟩ v0).setCell ⟨g, 1, none⟩ v1).setCell ⟨g, 2, none⟩ v2).setCell ⟨g, 3, none⟩ v3).setCell ⟨g, 4, none⟩ v4).setCell ⟨g, 5, none⟩ v5)).cell? ⟨w.heap.size, 4, none⟩ = some (.int .i64 n) ∧ InsW w w.heap.size o d a b n (((((((w'.setCell ⟨g, 0, none⟩ v0).setCell ⟨g, 1, none⟩ v1).setCell ⟨g, 2, none⟩ v2).setCell ⟨g, 3, none⟩ v3).setCell ⟨g, 4, none⟩ v4).setCell ⟨g, 5, none⟩ v5)) :=
  s5_of ((((((h.2.2.2.2.2.other hg v0).other hg v1).other hg v2).other hg v3).other hg v4).other hg v5)
theorem InsW.drew {w w' : World} {B : Nat} {o d a b n : Int} (h : InsW w B o d a b n w') : InsW w B o d a b n w'.drew := ⟨h.c0, h.c1, h.c2, h.c3, h.c4, h.f0, h.f1, h.f2, h.f3, h.f4, h.lt, h.ge, h.below.drew⟩
theorem below_undrew {W w : World} (h : Below W.drew.heap.size W.drew w) : Below W.heap.size W w := ⟨h.os, h.tape, h.output, h.size, h.block⟩
set_option maxHeartbeats 4000000 in
theorem lineText_bad (o d a b n z : Int) (w : World) (hz : cChk o d a b n = z) (hne : z ≠ 0) (hL : LinLaid w) :
    Calls Tryz.prog 62 #[.agg #[.int .i64 o, .int .i64 d, .int .i64 a, .int .i64 b, .int .i64 n]] w fun e w' => e = .returned (.tuple #[.string ⟨#[]⟩, .int .i64 z]) ∧ Below w.heap.size w w' := by
  have HI := Lib.hid (fun T => InsW.new w w o d a b n T (Below.refl _ _) (Nat.le_refl _))
  have HL := Lib.hid hL
  have HZ := Lib.hid hz
  have hne' : (z != 0) = true := by simpa using hne
  clear hz hne hL
  go_enter Tryz.func62, Tryz.ntmps62
  go_wp2_with (go_at_call 95; ((with_reducible refine (codeCheckI_is o d a b n z _ (HL.out.below (HI.out _).below (Nat.le_refl _)).shapes HZ.out).mono ?_); rintro e w1 ⟨rfl, hk⟩); have hI := (HI.out _).keep hk)
  go_ret2
  exact ⟨rfl, hI.below⟩
/-- The one word at the start: the operation's name. -/
theorem one_own (w : World) (u : ByteArray) (base : Nat) (hb : base ≤ w.heap.size) : (w.alloc (.cells #[.string u] 9)).ownsRow base 9 1 (.slice (some ⟨w.heap.size, 0, none⟩) 1 1) 1 [.string u] :=
  ⟨rfl, .inr ⟨w.heap.size, 1, #[.string u], rfl, hb, BlkAt.new w _ _, Nat.le_refl _, by unfold maxLen; decide, rfl, rfl⟩⟩
theorem tells_0 (o d a b n : Int) : (tells o d a b n 0).length = 1 ∧ ((tells o d a b n 0).map txt).map Value.string = [.string (wName o)] := by
  refine ⟨rfl, ?_⟩
  simp [tells, txt_of]
theorem tell_mk {w W0 W : World} {B : Nat} {o d a b n : Int} {v : Value} {cs : Array Value} (hb : Below w.heap.size w W0) (k0 : BlkAt B 149 cs W0) (ho : W0.ownsRow w.heap.size 9 1 v 1 [.string (wName o)]) (hq : OnlyB B W0 W) (k6 : BlkAt B 149 (rdC o d a b n v) W) (hB : w.heap.size ≤ B) : TellAt w B o d a b n 0 W := by
  refine ⟨v, k6, ?_, hq.below hb hB hb.size⟩
  rw [(tells_0 o d a b n).1, (tells_0 o d a b n).2]
  exact own_off ho k0 (by decide) hq
theorem set6_eq {o d a b n : Int} {v : Value} {cs : Array Value} (hcs : cs.size = 6) : ((((((cs.setIfInBounds 0 (.int .i64 o)).setIfInBounds 1 (.int .i64 d)).setIfInBounds 2 (.int .i64 a)).setIfInBounds 3 (.int .i64 b)).setIfInBounds 4 (.int .i64 n)).setIfInBounds 5 v) = rdC o d a b n v := by
  obtain ⟨l⟩ := cs
  match l, hcs with
  | [_, _, _, _, _, _], _ => simp [rdC]
theorem set6_only (B : Nat) (W : World) (v0 v1 v2 v3 v4 v5 : Value) : OnlyB B W ((((((W.setCell ⟨B, 0, none⟩ v0).setCell ⟨B, 1, none⟩ v1).setCell ⟨B, 2, none⟩ v2).setCell ⟨B, 3, none⟩ v3).setCell ⟨B, 4, none⟩ v4).setCell ⟨B, 5, none⟩ v5) :=
  (((((OnlyB.set B 0 W v0).next 1 v1).next 2 v2).next 3 v3).next 4 v4).next 5 v5
theorem set6_blk {B : Nat} {T : TypeId} {cs : Array Value} {W : World} (h : BlkAt B T cs W) (o d a b n : Int) (v : Value) (hcs : cs.size = 6) : BlkAt B T (rdC o d a b n v) ((((((W.setCell ⟨B, 0, none⟩ (.int .i64 o)).setCell ⟨B, 1, none⟩ (.int .i64 d)).setCell ⟨B, 2, none⟩ (.int .i64 a)).setCell ⟨B, 3, none⟩ (.int .i64 b)).setCell ⟨B, 4, none⟩ (.int .i64 n)).setCell ⟨B, 5, none⟩ v) :=
  ((((((h.set 0 _).set 1 _).set 2 _).set 3 _).set 4 _).set 5 _).eq (set6_eq hcs)
theorem tell_start1 {w w2 : World} {B : Nat} {o d a b n : Int} {cs : Array Value} (hJ : Below w.heap.size w w2) (hK : BlkAt B 149 cs w2) (hcs : cs.size = 6) (hB : w.heap.size ≤ B) :
    TellAt w B o d a b n 0 (((((((w2.alloc (.cells #[.string (wName o)] 9)).setCell ⟨B, 0, none⟩ (.int .i64 o)).setCell ⟨B, 1, none⟩ (.int .i64 d)).setCell ⟨B, 2, none⟩ (.int .i64 a)).setCell ⟨B, 3, none⟩ (.int .i64 b)).setCell ⟨B, 4, none⟩ (.int .i64 n)).setCell ⟨B, 5, none⟩ (.slice (some ⟨w2.heap.size, 0, none⟩) 1 1)) := by
  have k0 := hK.keep ((Below.refl w2.heap.size w2).alloc (Nat.le_refl _) (.cells #[.string (wName o)] 9))
  have ho := one_own w2 (wName o) w.heap.size hJ.size
  have h1 := hJ.alloc hJ.size (.cells #[.string (wName o)] 9)
  generalize w2.alloc (.cells #[.string (wName o)] 9) = W0 at *
  generalize w2.heap.size = g at *
  exact tell_mk h1 k0 ho (set6_only B W0 _ _ _ _ _ _) (set6_blk k0 o d a b n _ hcs) hB
theorem tell_start2 {w w2 : World} {o d a b n : Int} (hJ : Below w.heap.size w w2) :
    TellAt w w2.heap.size o d a b n 0 ((w2.alloc (.cells #[.int .i64 o, .int .i64 d, .int .i64 a, .int .i64 b, .int .i64 n, .slice (some ⟨w2.heap.size + 1, 0, none⟩) 1 1] 149)).alloc (.cells #[.string (wName o)] 9)) := by
  have h1 := hJ.alloc hJ.size (.cells #[.int .i64 o, .int .i64 d, .int .i64 a, .int .i64 b, .int .i64 n, .slice (some ⟨w2.heap.size + 1, 0, none⟩) 1 1] 149)
  have hs : (w2.alloc (.cells #[.int .i64 o, .int .i64 d, .int .i64 a, .int .i64 b, .int .i64 n, .slice (some ⟨w2.heap.size + 1, 0, none⟩) 1 1] 149)).heap.size = w2.heap.size + 1 := by simp
  have ho := one_own (w2.alloc (.cells #[.int .i64 o, .int .i64 d, .int .i64 a, .int .i64 b, .int .i64 n, .slice (some ⟨w2.heap.size + 1, 0, none⟩) 1 1] 149)) (wName o) w.heap.size h1.size
  rw [hs] at ho
  refine ⟨_, (BlkAt.new w2 _ _).keep ((Below.refl _ _).alloc (Nat.le_refl _) _), ?_, h1.alloc h1.size _⟩
  rw [(tells_0 o d a b n).1, (tells_0 o d a b n).2]
  exact ho
theorem tell_start3 {w w2 : World} {o d a b n : Int} (hJ : Below w.heap.size w w2) :
    TellAt w (w2.heap.size + 1) o d a b n 0 ((w2.alloc (.cells #[.string (wName o)] 9)).alloc (.cells #[.int .i64 o, .int .i64 d, .int .i64 a, .int .i64 b, .int .i64 n, .slice (some ⟨w2.heap.size, 0, none⟩) 1 1] 149)) := by
  have h1 := hJ.alloc hJ.size (.cells #[.string (wName o)] 9)
  have hs : (w2.alloc (.cells #[.string (wName o)] 9)).heap.size = w2.heap.size + 1 := by simp
  have ho := one_own w2 (wName o) w.heap.size hJ.size
  have hb := BlkAt.new (w2.alloc (.cells #[.string (wName o)] 9)) 149 #[.int .i64 o, .int .i64 d, .int .i64 a, .int .i64 b, .int .i64 n, .slice (some ⟨w2.heap.size, 0, none⟩) 1 1]
  rw [hs] at hb
  refine ⟨_, hb, ?_, h1.alloc h1.size _⟩
  rw [(tells_0 o d a b n).1, (tells_0 o d a b n).2]
  exact own_keep ho ((Below.refl _ _).alloc (Nat.le_refl _) _)
theorem tells_pos (o d a b n : Int) : ∀ k, 1 ≤ (tells o d a b n k).length
  | 0 => Nat.le_refl _
  | k + 1 => by
    have := tells_pos o d a b n k
    rw [tells, List.length_append]
    omega
/-- The words, as they lie behind all letters. -/
theorem tell_form {w0 w : World} {B : Nat} {o d a b n : Int} (h : TellAt w0 B o d a b n 4 w) : ∃ g cap, w.cell? ⟨B, 5, none⟩ = some (.slice (some ⟨g, 0, none⟩) ((lineWs o d a b n).map txt).length cap) ∧
    (∀ (j : Nat) x, ((lineWs o d a b n).map txt)[j]? = some x → w.cell? ⟨g, j, none⟩ = some (.string x)) ∧ g < w.heap.size ∧ ((lineWs o d a b n).map txt).length ≤ cap ∧ Below w0.heap.size w0 w := by
  obtain ⟨v, h1, h2, h3⟩ := h
  have hp := tells_pos o d a b n 4
  have hh := h2
  rcases h2.2 with ⟨_, hn⟩ | ⟨g, cap, cur, rfl, hb, hg, hn, rest⟩
  · omega
  · have c5 : w.cell? ⟨B, 5, none⟩ = some (.slice (some ⟨g, 0, none⟩) (tells o d a b n 4).length cap) := h1.cell 5
    refine ⟨g, cap, by rw [List.length_map]; exact c5, fun j x hx => own_text hh hx, (Array.getElem?_eq_some_iff.1 hg).1, by rw [List.length_map]; exact hn, h3⟩
theorem join_len {m : Nat} : ∀ (ws : List (List UInt8)), (∀ x ∈ ws, x.length ≤ m) → (Lib.join ws [32]).length ≤ ws.length * (m + 1)
  | [], _ => by simp [Lib.join_nil]
  | [x], h => by
    rw [Lib.join_one]
    have := h x (.head _)
    simp
    omega
  | x :: y :: r, h => by
    have e : Lib.join (x :: y :: r) [32] = x ++ 32 :: Lib.join (y :: r) [32] := by
      rw [Lib.join_cons, Lib.join_cons]
      simp [Lib.joinTail]
    have i := join_len (y :: r) (fun z hz => h z (.tail _ hz))
    have := h x (.head _)
    rw [e]
    simp only [List.length_append, List.length_cons, Nat.add_mul, Nat.one_mul] at i ⊢
    omega
theorem join_back (ws : List (List UInt8)) : (ws.map txt).map (·.data.toList) = ws := by
  rw [List.map_map]
  have : ((fun x : ByteArray => x.data.toList) ∘ txt) = id := by funext l; exact txt_list l
  rw [this, List.map_id]
set_option maxHeartbeats 1000000 in
theorem lineText_good (o d a b n : Int) (w : World) (hz : cChk o d a b n = 0) (hL : LinLaid w) :
    Calls Tryz.prog 62 #[.agg #[.int .i64 o, .int .i64 d, .int .i64 a, .int .i64 b, .int .i64 n]] w fun e w' => e = .returned (.tuple #[.string (txt (Lib.join (lineWs o d a b n) [32])), .int .i64 0]) ∧ Below w.heap.size w w' := by
  have HI := Lib.hid (fun T => InsW.new w w o d a b n T (Below.refl _ _) (Nat.le_refl _))
  have HL := Lib.hid hL
  have HZ := Lib.hid hz
  obtain ⟨jl, hjl⟩ : ∃ jl, Lib.join (lineWs o d a b n) [32] = jl := ⟨_, rfl⟩
  rw [hjl]
  have HJN := Lib.hid hjl
  clear hz hL hjl
  go_enter Tryz.func62, Tryz.ntmps62
  go_wp2_with (go_at_call 95; ((with_reducible refine (codeCheckI_is o d a b n 0 _ (HL.out.below (HI.out _).below (Nat.le_refl _)).shapes HZ.out).mono ?_); rintro e w1 ⟨rfl, hk⟩); have hI := (HI.out _).keep hk; have c0 := hI.c0; have c1 := hI.c1; have c2 := hI.c2; have c3 := hI.c3; have c4 := hI.c4)
  have hS := s5_of hI.drew
  have hgt := hI.lt
  go_region_held3 (fun w' => w'.cell? ⟨w.heap.size, 0, none⟩ = some (.int .i64 o) ∧ w'.cell? ⟨w.heap.size, 1, none⟩ = some (.int .i64 d) ∧ w'.cell? ⟨w.heap.size, 2, none⟩ = some (.int .i64 a) ∧ w'.cell? ⟨w.heap.size, 3, none⟩ = some (.int .i64 b) ∧ w'.cell? ⟨w.heap.size, 4, none⟩ = some (.int .i64 n) ∧ InsW w w.heap.size o d a b n w')
    (first | with_reducible assumption | with_reducible exact s5_alloc hS _ | with_reducible exact s5_of (hI.alloc _).drew | with_reducible exact s5_alloc (s5_alloc hS _) _ | with_reducible exact s5_set (s5_alloc hS _) hgt _ _ _ _ _ _)
    ((go_at_call 96; ((with_reducible refine (name_is o _).mono ?_); rintro e w2 ⟨rfl, hb⟩); (first | (have hS := s5_of (hI.drew.keep hb)) | (have hS := s5_of ((hI.alloc _).drew.keep hb); have hK := (BlkAt.new w1 _ _).keep (below_undrew hb); have b0 := fun x => new_kept hK x 0; have b1 := fun x => new_kept hK x 1; have b2 := fun x => new_kept hK x 2; have b3 := fun x => new_kept hK x 3; have b4 := fun x => new_kept hK x 4; have b5 := fun x => new_kept hK x 5; have g0 := fun x => new_free hK x 0; have g1 := fun x => new_free hK x 1; have g2 := fun x => new_free hK x 2; have g3 := fun x => new_free hK x 3; have g4 := fun x => new_free hK x 4; have g5 := fun x => new_free hK x 5; simp at b0 b1 b2 b3 b4 b5))))
  · have hJ := hS.2.2.2.2.2.below
    have HX := Lib.hid (tell_start3 (o := o) (d := d) (a := a) (b := b) (n := n) hJ)
    have HGE := Lib.hid (show w.heap.size ≤ w2.heap.size + 1 from Nat.le_succ_of_le hJ.size)
    have HJ := Lib.hid hJ
    clear hS hJ c0 c1 c2 c3 c4
    go_wp2_with fail
    refine (lineTell_is w _ o d a b n _ HZ.out HX.out HL.out HGE.out).mono ?_
    rintro e w3 ⟨rfl, hT⟩
    obtain ⟨g, cap, c5, hcells, hg, hcap, hbl⟩ := tell_form hT
    have HC := Lib.hid hcells
    have HG := Lib.hid hg
    have HP := Lib.hid hcap
    have HB := Lib.hid hbl
    clear hT hcells hg hcap hbl HX HGE
    obtain ⟨hs1, hs2⟩ := line_short HZ.out
    have hj := join_len (m := 12) _ hs2
    have HS := Lib.hid (show ((lineWs o d a b n).map txt).length ≤ 1000 by rw [List.length_map]; omega)
    have HJL := Lib.hid (show jl.length ≤ 140737488355328 by rw [← HJN.out]; omega)
    have HBK := Lib.hid ((congrArg (fun x => Lib.join x [32]) (join_back (lineWs o d a b n))).trans HJN.out)
    clear hs1 hs2 hj
    generalize (lineWs o d a b n).map txt = xs at *
    go_wp2_with (go_at_call 100; ((with_reducible refine (lineJoin_is g cap xs _ jl HBK.out HC.out HG.out HS.out HP.out HJL.out).mono ?_); rintro e w4 ⟨rfl, hq⟩); have HQ := Lib.hid hq; clear hq)
    go_ret2
    exact ⟨rfl, HB.out.trans (HQ.out.mono HB.out.size)⟩
  · have hJ := hS.2.2.2.2.2.below
    have HX := Lib.hid (tell_start2 (o := o) (d := d) (a := a) (b := b) (n := n) hJ)
    have HGE := Lib.hid hJ.size
    have HJ := Lib.hid hJ
    clear hS hJ c0 c1 c2 c3 c4
    go_wp2_with fail
    refine (lineTell_is w _ o d a b n _ HZ.out HX.out HL.out HGE.out).mono ?_
    rintro e w3 ⟨rfl, hT⟩
    obtain ⟨g, cap, c5, hcells, hg, hcap, hbl⟩ := tell_form hT
    have HC := Lib.hid hcells
    have HG := Lib.hid hg
    have HP := Lib.hid hcap
    have HB := Lib.hid hbl
    clear hT hcells hg hcap hbl HX HGE
    obtain ⟨hs1, hs2⟩ := line_short HZ.out
    have hj := join_len (m := 12) _ hs2
    have HS := Lib.hid (show ((lineWs o d a b n).map txt).length ≤ 1000 by rw [List.length_map]; omega)
    have HJL := Lib.hid (show jl.length ≤ 140737488355328 by rw [← HJN.out]; omega)
    have HBK := Lib.hid ((congrArg (fun x => Lib.join x [32]) (join_back (lineWs o d a b n))).trans HJN.out)
    clear hs1 hs2 hj
    generalize (lineWs o d a b n).map txt = xs at *
    go_wp2_with (go_at_call 100; ((with_reducible refine (lineJoin_is g cap xs _ jl HBK.out HC.out HG.out HS.out HP.out HJL.out).mono ?_); rintro e w4 ⟨rfl, hq⟩); have HQ := Lib.hid hq; clear hq)
    go_ret2
    exact ⟨rfl, HB.out.trans (HQ.out.mono HB.out.size)⟩
  · have hJ := hS.2.2.2.2.2.below
    have HX := Lib.hid (tell_start1 (o := o) (d := d) (a := a) (b := b) (n := n) hJ hK rfl (Nat.le_of_lt hgt))
    have HGE := Lib.hid (Nat.le_of_lt hgt)
    clear hK b0 b1 b2 b3 b4 b5 g0 g1 g2 g3 g4 g5
    have HJ := Lib.hid hJ
    clear hS hJ c0 c1 c2 c3 c4
    go_wp2_with fail
    refine (lineTell_is w _ o d a b n _ HZ.out HX.out HL.out HGE.out).mono ?_
    rintro e w3 ⟨rfl, hT⟩
    obtain ⟨g, cap, c5, hcells, hg, hcap, hbl⟩ := tell_form hT
    have HC := Lib.hid hcells
    have HG := Lib.hid hg
    have HP := Lib.hid hcap
    have HB := Lib.hid hbl
    clear hT hcells hg hcap hbl HX HGE
    obtain ⟨hs1, hs2⟩ := line_short HZ.out
    have hj := join_len (m := 12) _ hs2
    have HS := Lib.hid (show ((lineWs o d a b n).map txt).length ≤ 1000 by rw [List.length_map]; omega)
    have HJL := Lib.hid (show jl.length ≤ 140737488355328 by rw [← HJN.out]; omega)
    have HBK := Lib.hid ((congrArg (fun x => Lib.join x [32]) (join_back (lineWs o d a b n))).trans HJN.out)
    clear hs1 hs2 hj
    generalize (lineWs o d a b n).map txt = xs at *
    go_wp2_with (go_at_call 100; ((with_reducible refine (lineJoin_is g cap xs _ jl HBK.out HC.out HG.out HS.out HP.out HJL.out).mono ?_); rintro e w4 ⟨rfl, hq⟩); have HQ := Lib.hid hq; clear hq)
    go_ret2
    exact ⟨rfl, HB.out.trans (HQ.out.mono HB.out.size)⟩
theorem lineText_is (o d a b n z : Int) (s : ByteArray) (w : World) (hz : cChk o d a b n = z) (hs : lineT o d a b n = s) (hL : LinLaid w) :
    Calls Tryz.prog 62 #[.agg #[.int .i64 o, .int .i64 d, .int .i64 a, .int .i64 b, .int .i64 n]] w fun e w' => e = .returned (.tuple #[.string s, .int .i64 z]) ∧ Below w.heap.size w w' := by
  subst hz hs
  unfold lineT
  by_cases h : cChk o d a b n = 0
  · rw [if_pos h, h]
    exact lineText_good o d a b n w h hL
  · rw [if_neg h]
    exact lineText_bad o d a b n _ w rfl h hL
end

section
/-- What is parsed, in a caller's words. -/
theorem lineParse_to {l : List UInt8} {s : ByteArray} {o d a b n z : Int} {w : World} (hs : s = txt l) (hl : l.length < 1000000) (ho : pO (wds l) = o) (hd : pF (wds l) 0 = d) (ha : pF (wds l) 1 = a) (hb : pF (wds l) 2 = b) (hn : pF (wds l) 3 = n) (hz : pErr (wds l) = z) (hL : LinLaid w) :
    Calls Tryz.prog 116 #[.string s] w fun e w' => e = .returned (.tuple #[.agg #[.int .i64 o, .int .i64 d, .int .i64 a, .int .i64 b, .int .i64 n], .int .i64 z]) ∧ Below w.heap.size w w' := by
  subst ho hd ha hb hn hz
  exact (lineParse_is l s w hs hl hL).mono fun _ _ h => h
theorem lineNumber_to {l : List UInt8} {s : ByteArray} {v : Int} {k : Bool} {w : World} (hs : s = txt l) (hl : l.length ≤ 281474976710656) (hv : numV l = v) (hk : numOk l = k) (hL : LinLaid w) :
    Calls Tryz.prog 136 #[.string s] w fun e w' => e = .returned (.tuple #[.int .i64 v, .bool k]) ∧ Below w.heap.size w w' := by
  subst hv hk
  exact (lineNumber_is l s w hs hl hL).mono fun _ _ h => h
def exA : List UInt8 := [32, 97, 100, 100, 105, 32, 114, 49, 32, 32, 114, 50, 32, 45, 53, 32]
def exB : List UInt8 := [97, 100, 100, 105, 32, 114, 48, 49, 32, 114, 50, 32, 53]
def exC : List UInt8 := [45, 49, 50]
theorem ex_lw : cChk 34 1 0 0 40 = 0 ∧ lineT 34 1 0 0 40 = ⟨#[108, 119, 32, 114, 49, 32, 114, 48, 32, 52, 48]⟩ := by decide +kernel
theorem ex_a : pO (wds exA) = 31 ∧ pF (wds exA) 0 = 1 ∧ pF (wds exA) 1 = 2 ∧ pF (wds exA) 2 = 0 ∧ pF (wds exA) 3 = -5 ∧ pErr (wds exA) = 0 := by decide +kernel
theorem ex_b : pO (wds exB) = 0 ∧ pF (wds exB) 0 = 0 ∧ pF (wds exB) 1 = 0 ∧ pF (wds exB) 2 = 0 ∧ pF (wds exB) 3 = 0 ∧ pErr (wds exB) = 3 := by decide +kernel
theorem ex_c : numV exC = -12 ∧ numOk exC = true := by decide +kernel
end

end Go.Proofs.YtekhgidbnpfmnaaGreatDoor
