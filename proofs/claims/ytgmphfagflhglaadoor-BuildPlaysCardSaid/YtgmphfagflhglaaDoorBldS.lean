/- The document's own builder of code: Go, Set, Open, Close. Conditions: as few as 1000. -/
import Derived.Test.YtgmphfagflhglaaDoorBldR
namespace Go.Proofs.YtgmphfagflhglaaDoor
open Go.RowKit Go.IntWalk

theorem refInB_is {a : Option Addr} {n c : Nat} {l : List Int} {w : World} (x : Int) (h : Ws .i64 w a n c l) :
    Calls Tryd.prog 39 #[.int .i64 x, .slice a n c] w fun e w' => e = .returned (.bool (decide (x ∈ l))) ∧ w = w' := by
  have hl := h.len
  have hcap := h.cap
  have hbig := h.big
  unfold maxLen at hbig
  have HB := Lib.hid h
  have HL := Lib.hid hl
  clear h hl
  go_enter Tryd.func39, Tryd.ntmps39
  go_wp2
  go_loop [5] (fun i => ∃ k : Nat, k ≤ n ∧ i = .int .i64 k ∧ ∀ j, j < k → byAt l j ≠ x) (fun i => n - (intOf i).toNat)
  case atStart => exact ⟨0, by omega, rfl, fun j hj => by omega⟩
  case round =>
    obtain ⟨k, hk, rfl, hn⟩ := hrel
    have HN := Lib.hid hn
    clear hn
    by_cases hlt : k < n
    · obtain ⟨b, off, rfl, h1⟩ := HB.out.lie (by omega)
      have h1 := h1 k hlt
      have hlt' : (k : Int) < n := by omega
      by_cases e : byAt l k = x
      · have E := Lib.hid (show decide (x ∈ l) = true from decide_eq_true (by rw [← e]; have := HL.out; exact byAt_eq (l := l) (i := k) (by omega) ▸ List.getElem_mem _))
        have E1 : (byAt l k == x) = true := by simpa using e
        have H1 := Lib.hid e
        clear e
        go_wp2
        go_ret
        exact ⟨by rw [E.out]; rfl, rfl⟩
      · have E1 : (byAt l k == x) = false := by simpa using e
        have H1 := Lib.hid e
        clear e
        go_wp2
        go_round
        case rel => exact ⟨k + 1, by omega, by go_num, fun j hj => by
                      rcases (show j < k ∨ j = k by omega) with h | rfl
                      · exact HN.out j h
                      · exact H1.out⟩
        case measure => simp [intOf]; omega
    · obtain rfl : k = n := by omega
      go_wp2
      go_ret
      refine ⟨?_, rfl⟩
      have : decide (x ∈ l) = false := decide_eq_false fun hm => by
        obtain ⟨i, hi, e⟩ := List.mem_iff_getElem.1 hm
        exact HN.out i (by have := HL.out; omega) (by rw [← byAt_eq hi]; exact e)
      rw [this]; rfl

theorem Ws.five (w : World) (e : TypeId) (a b c d f : Int) : Ws .i64 (w.alloc (.cells #[.int .i64 a, .int .i64 b, .int .i64 c, .int .i64 d, .int .i64 f] e)) (some ⟨w.heap.size, 0, none⟩) 5 5 [a, b, c, d, f] := by
  obtain ⟨p, q, e', h⟩ := (OwnW.lit (κ := .i64) w e (Nat.le_refl _) [a, b, c, d, f] (by unfold maxLen; simp) #[.int .i64 a, .int .i64 b, .int .i64 c, .int .i64 d, .int .i64 f] rfl).ws
  simp only [Value.slice.injEq] at e'
  obtain ⟨rfl, -, rfl⟩ := e'
  exact h
set_option maxRecDepth 100000 in
set_option maxHeartbeats 2000000 in
theorem refBGo_yes (B x : Nat) (s : Bst) (F : Nat → Prop) (o d a : Int) (nm : ByteArray) (w : World) (h : RbAt B w x s F) (hs : nm.size ≤ maxLen) (hn : s.L.length ≤ 1000) (hu : s.us.length ≤ 1000) (hB : B ≤ w.heap.size) (ho : isGo o) (hi : insE (o, d, a, 0, 0) = 0) (hm : nameB nm = true) :
    Calls Tryd.prog 21 #[.pointer (some ⟨x, 0, none⟩), .int .i64 o, .int .i64 d, .int .i64 a, .string nm] w (RbTo B x 0 ((s.use nm s.L.length).add [(o, d, a, 0, 0)]) F w) := by
  have C := Lib.hid fun w => refCheckI_is o d a 0 0 0 w hi
  have hmem : decide (o ∈ [36, 37, 38, 39, 40]) = true := decide_eq_true (by unfold isGo at ho; simp; omega)
  have HIn := Lib.hid (hmem ▸ refInB_is o (Ws.five w 3 36 37 38 39 40))
  have hu0 : useE nm = 0 := by unfold useE; rw [hm]; rfl
  have HE := Lib.hid hi
  have HIN := Lib.hid (fun w3 F3 (h3 : RbAt B w3 x (s.use nm s.L.length) F3) hB3 => refBIns_is B x (s.use nm s.L.length) F3 o d a 0 0 w3 h3 hn hB3)
  have H := Lib.hid h
  clear h hi hm hmem ho
  go_enter Tryd.func21, Tryd.ntmps21
  go_wp2_with (first
    | (go_at_call 39; ((with_reducible refine (HIn.out).mono ?_); rintro e w1 ⟨rfl, rfl⟩))
    | (go_at_call 37; ((with_reducible refine (C.out _).mono ?_); rintro e w1 ⟨rfl, hb1⟩); have HB1 := Lib.hid ((((Below.refl w.heap.size w).alloc (Nat.le_refl _) _).alloc (by simp) _).trans (hb1.mono (by simp; omega))); have HX1 := Lib.hid ((BlkAt.newb (b := w.heap.size + 1) _ _ _ (by simp)).keep hb1); clear hb1))
  obtain ⟨cs, v, G, h1, h2, h3, h4, h5, h6, h7⟩ := (H.out.keep HB1.out).ex
  have H0 := Lib.hid (H.out.keep HB1.out)
  obtain ⟨va, ua, hbk, -⟩ := h1.ex
  obtain ⟨a1, c1, rfl, -⟩ := h4.at
  have c0 := (hbk.cell 0).trans h3
  have HGN := Lib.hid (fun q => Nat.lt_irrefl _ (Nat.lt_of_lt_of_le (H.out.low _ (h6 (w.heap.size + 1) q)).2 (Nat.le_succ _)))
  have HU := fun w2 (k : Below w1.heap.size w1 w2) => refUse19o_is _ _ B x cs s.ds s.us G nm s.L.length w2 (h1.keep k) hs hu (by have := k.size; have := HB1.out.size; omega)
  simp only [hu0] at HU
  have H2 := Lib.hid h2
  have H3 := Lib.hid h3
  have H4 := Lib.hid h4
  have H5 := Lib.hid h5
  have H6 := Lib.hid h6
  have H7 := Lib.hid h7
  clear h1 h2 h3 h4 h5 h6 h7 hbk
  go_still_tail 9, (by kernel_rfl)
  change wpList _ _ _ _ _ w1.drew
  have hk : Below w1.heap.size w1 w1.drew := (Below.refl _ _).drew
  have HB2 := Lib.hid (HB1.out.drew)
  have H0 := Lib.hid (H0.out.keep hk)
  have H4 := Lib.hid (H4.out.keep hk)
  have HX1 := Lib.hid (HX1.out.keep hk)
  have HU := Lib.hid (HU w1.drew hk)
  have hB2 := HB2.out.size
  generalize w1.drew = w2 at *
  clear c0 hk
  go_wp2_with (first
    | (go_at_call 40; ((with_reducible refine (HU.out).mono ?_); rintro e w3 ⟨cs1, G1, rfl, t1, g1, z1, o1⟩); have HG := Lib.hid (RbAt.named H2.out H3.out H4.out H5.out H6.out H7.out H0.out.low (by omega) t1 g1 z1 o1); have hx3 := HX1.out.kept g1.keeps HGN.out; have e0 := hx3.cell 0; have e1 := hx3.cell 1; have e2 := hx3.cell 2; have e3 := hx3.cell 3; have e4 := hx3.cell 4; have hs3 := g1.keeps.size; clear t1 g1 z1 o1 hx3)
    | (go_at_call 19; ((with_reducible refine (HIN.out _ _ HG.out.1 (by omega)).mono ?_); rintro e w4 ⟨F4, rfl, h4, g4⟩); have H4' := Lib.hid h4; have G4 := Lib.hid g4; clear h4 g4))
  have he := HE.out
  go_ret
  exact ⟨F4, by rw [he]; rfl, ins_yes he ▸ H4'.out, ((Grows.of_below F HB2.out).trans HG.out.2).trans G4.out⟩
set_option maxRecDepth 100000 in
set_option maxHeartbeats 2000000 in
theorem refBGo_no (B x : Nat) (s : Bst) (F : Nat → Prop) (o d a : Int) (nm : ByteArray) (w : World) (h : RbAt B w x s F) (ho : ¬ isGo o) :
    Calls Tryd.prog 21 #[.pointer (some ⟨x, 0, none⟩), .int .i64 o, .int .i64 d, .int .i64 a, .string nm] w (RbTo B x 2 s F w) := by
  have hmem : decide (o ∈ [36, 37, 38, 39, 40]) = false := decide_eq_false (by unfold isGo at ho; simp; omega)
  have HIn := Lib.hid (hmem ▸ refInB_is o (Ws.five w 3 36 37 38 39 40))
  have H := Lib.hid h
  clear h hmem ho
  go_enter Tryd.func21, Tryd.ntmps21
  go_wp2_with (go_at_call 39; ((with_reducible refine (HIn.out).mono ?_); rintro e w1 ⟨rfl, rfl⟩))
  go_ret
  have hb := (Below.refl w.heap.size w).alloc (Nat.le_refl _) (.cells #[.int .i64 36, .int .i64 37, .int .i64 38, .int .i64 39, .int .i64 40] 3)
  exact ⟨F, rfl, H.out.keep hb, Grows.of_below F hb⟩
set_option maxRecDepth 100000 in
set_option maxHeartbeats 2000000 in
theorem refBGo_bad (B x : Nat) (s : Bst) (F : Nat → Prop) (o d a z : Int) (nm : ByteArray) (w : World) (h : RbAt B w x s F) (ho : isGo o) (hi : insE (o, d, a, 0, 0) = z) (hz : z ≠ 0) :
    Calls Tryd.prog 21 #[.pointer (some ⟨x, 0, none⟩), .int .i64 o, .int .i64 d, .int .i64 a, .string nm] w (RbTo B x z s F w) := by
  have C := Lib.hid fun w => refCheckI_is o d a 0 0 z w hi
  have hmem : decide (o ∈ [36, 37, 38, 39, 40]) = true := decide_eq_true (by unfold isGo at ho; simp; omega)
  have HIn := Lib.hid (hmem ▸ refInB_is o (Ws.five w 3 36 37 38 39 40))
  have H := Lib.hid h
  have hz1 : (z != 0) = true := by simpa using hz
  clear h hi hmem ho hz
  go_enter Tryd.func21, Tryd.ntmps21
  go_wp2_with (first
    | (go_at_call 39; ((with_reducible refine (HIn.out).mono ?_); rintro e w1 ⟨rfl, rfl⟩))
    | (go_at_call 37; ((with_reducible refine (C.out _).mono ?_); rintro e w1 ⟨rfl, hb1⟩); have HB1 := Lib.hid ((((Below.refl w.heap.size w).alloc (Nat.le_refl _) _).alloc (by simp) _).trans (hb1.mono (by simp; omega))); clear hb1))
  go_ret
  exact ⟨F, rfl, H.out.keep HB1.out, Grows.of_below F HB1.out⟩
set_option maxRecDepth 100000 in
set_option maxHeartbeats 2000000 in
theorem refBGo_nm (B x : Nat) (s : Bst) (F : Nat → Prop) (o d a : Int) (nm : ByteArray) (w : World) (h : RbAt B w x s F) (hs : nm.size ≤ maxLen) (hu : s.us.length ≤ 1000) (hB : B ≤ w.heap.size) (ho : isGo o) (hi : insE (o, d, a, 0, 0) = 0) (hm : nameB nm = false) :
    Calls Tryd.prog 21 #[.pointer (some ⟨x, 0, none⟩), .int .i64 o, .int .i64 d, .int .i64 a, .string nm] w (RbTo B x 8 s F w) := by
  have C := Lib.hid fun w => refCheckI_is o d a 0 0 0 w hi
  have hmem : decide (o ∈ [36, 37, 38, 39, 40]) = true := decide_eq_true (by unfold isGo at ho; simp; omega)
  have HIn := Lib.hid (hmem ▸ refInB_is o (Ws.five w 3 36 37 38 39 40))
  have hu0 : useE nm = 8 := by unfold useE; rw [hm]; rfl
  have hu1 : ∀ p, useS s.us nm p = s.us := fun p => by unfold useS; rw [hm]; rfl
  have H := Lib.hid h
  clear h hi hm hmem ho
  go_enter Tryd.func21, Tryd.ntmps21
  go_wp2_with (first
    | (go_at_call 39; ((with_reducible refine (HIn.out).mono ?_); rintro e w1 ⟨rfl, rfl⟩))
    | (go_at_call 37; ((with_reducible refine (C.out _).mono ?_); rintro e w1 ⟨rfl, hb1⟩); have HB1 := Lib.hid ((((Below.refl w.heap.size w).alloc (Nat.le_refl _) _).alloc (by simp) _).trans (hb1.mono (by simp; omega))); clear hb1))
  obtain ⟨cs, v, G, h1, h2, h3, h4, h5, h6, h7⟩ := (H.out.keep HB1.out).ex
  have H0 := Lib.hid (H.out.keep HB1.out)
  obtain ⟨va, ua, hbk, -⟩ := h1.ex
  obtain ⟨a1, c1, rfl, -⟩ := h4.at
  have c0 := (hbk.cell 0).trans h3
  have HU := fun w2 (k : Below w1.heap.size w1 w2) => refUse19o_is _ _ B x cs s.ds s.us G nm s.L.length w2 (h1.keep k) hs hu (by have := k.size; have := HB1.out.size; omega)
  simp only [hu0, hu1] at HU
  have H2 := Lib.hid h2
  have H3 := Lib.hid h3
  have H4 := Lib.hid h4
  have H5 := Lib.hid h5
  have H6 := Lib.hid h6
  have H7 := Lib.hid h7
  clear h1 h2 h3 h4 h5 h6 h7 hbk
  go_still_tail 9, (by kernel_rfl)
  change wpList _ _ _ _ _ w1.drew
  have hk : Below w1.heap.size w1 w1.drew := (Below.refl _ _).drew
  have HB2 := Lib.hid (HB1.out.drew)
  have H0 := Lib.hid (H0.out.keep hk)
  have H4 := Lib.hid (H4.out.keep hk)
  have HU := Lib.hid (HU w1.drew hk)
  have hB2 := HB2.out.size
  generalize w1.drew = w2 at *
  clear c0 hk
  go_wp2_with (go_at_call 40; ((with_reducible refine (HU.out).mono ?_); rintro e w3 ⟨cs1, G1, rfl, t1, g1, z1, o1⟩); have HG := Lib.hid (RbAt.named H2.out H3.out H4.out H5.out H6.out H7.out H0.out.low (by omega) t1 g1 z1 o1); clear t1 g1 z1 o1)
  go_ret
  exact ⟨_, rfl, HG.out.1, (Grows.of_below F HB2.out).trans HG.out.2⟩
theorem refBGo_is (B x : Nat) (s : Bst) (F : Nat → Prop) (o d a : Int) (nm : ByteArray) (w : World) (h : RbAt B w x s F) (hs : nm.size ≤ maxLen) (hn : s.L.length ≤ 1000) (hu : s.us.length ≤ 1000) (hB : B ≤ w.heap.size) :
    Calls Tryd.prog 21 #[.pointer (some ⟨x, 0, none⟩), .int .i64 o, .int .i64 d, .int .i64 a, .string nm] w (RbTo B x (goE o d a nm) (s.goes o d a nm) F w) := by
  by_cases ho : isGo o
  · by_cases hi : insE (o, d, a, 0, 0) = 0
    · cases hm : nameB nm
      · obtain ⟨e1, _, e2⟩ := goes_nm (s := s) ho hi hm
        rw [e1, e2]; exact refBGo_nm B x s F o d a nm w h hs hu hB ho hi hm
      · obtain ⟨e1, _, e2⟩ := goes_yes (s := s) ho hi hm
        rw [e1, e2]; exact refBGo_yes B x s F o d a nm w h hs hn hu hB ho hi hm
    · obtain ⟨e1, e2⟩ := goes_bad (s := s) (n := nm) ho hi
      rw [e1, e2]; exact refBGo_bad B x s F o d a _ nm w h ho rfl hi
  · obtain ⟨e1, e2⟩ := goes_no (s := s) (d := d) (a := a) (n := nm) ho
    rw [e1, e2]; exact refBGo_no B x s F o d a nm w h ho
end Go.Proofs.YtgmphfagflhglaaDoor
