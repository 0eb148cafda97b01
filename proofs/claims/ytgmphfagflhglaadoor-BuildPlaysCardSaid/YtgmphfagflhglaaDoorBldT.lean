/- The document's own builder of code: Set, Open, Close. Conditions: as few as 1000. -/
import Derived.Test.YtgmphfagflhglaaDoorBldS
namespace Go.Proofs.YtgmphfagflhglaaDoor
open Go.RowKit Go.IntWalk

theorem RbAt.re {B x : Nat} {w : World} {s S : Bst} {F : Nat → Prop} (h : RbAt B w x s F) (e : s = S) : RbAt B w x S F := e ▸ h
theorem RbTo.of {B x : Nat} {k k' : Int} {s s' : Bst} {F F' : Nat → Prop} {w w1 w2 : World} {e : Ending} (g : Grows F w F' w1) (h : RbTo B x k s F' w1 e w2) (hk : k = k') (hs : s = s') : RbTo B x k' s' F w e w2 := by
  subst hk; subst hs
  obtain ⟨F2, e1, h1, g1⟩ := h
  exact ⟨F2, e1, h1, g.trans g1⟩
theorem refPlainB_is (x z : Int) (w : World) (h : x % 4294967296 = z) (h1 : -2147483648 ≤ x) (h2 : x ≤ 2147483647) :
    Calls Tryd.prog 41 #[.int .i32 x] w fun e w' => e = .returned (.int .i64 z) ∧ w = w' := by
  subst h
  have e0 := Int.tmod_eq_emod (a := x) (b := 4294967296)
  by_cases hs : x < 0
  · have e1 : x.tmod 4294967296 = x := by split at e0 <;> omega
    have e2 := Lib.hid (show wrap64 (x.tmod 4294967296 + 4294967296) = x % 4294967296 by rw [e1]; unfold wrap64; omega)
    have e3 : x.tmod 4294967296 < 0 := by omega
    clear e0 e1
    go_enter Tryd.func41, Tryd.ntmps41
    go_wp2
    go_ret
    exact ⟨ret_int e2.out, rfl⟩
  · have e1 : x.tmod 4294967296 = x % 4294967296 := by split at e0 <;> omega
    have e3 : ¬ x.tmod 4294967296 < 0 := by omega
    have e2 := Lib.hid e1
    clear e0
    go_enter Tryd.func41, Tryd.ntmps41
    go_wp2
    go_ret
    first | exact ⟨rfl, rfl⟩ | exact ⟨ret_int e2.out, rfl⟩
set_option maxRecDepth 100000 in
set_option maxHeartbeats 2000000 in
theorem refBSet_small (B x : Nat) (s : Bst) (F : Nat → Prop) (d n : Int) (w : World) (h : RbAt B w x s F) (hn : s.L.length ≤ 900) (hB : B ≤ w.heap.size) (hd : isReg0 d) (hs : -32768 ≤ n ∧ n ≤ 32767) :
    Calls Tryd.prog 22 #[.pointer (some ⟨x, 0, none⟩), .int .i64 d, .int .i32 n] w (RbTo B x 0 (s.add [(31, d, 0, 0, n)]) F w) := by
  have hi := addi_ok (a := 0) hd (by decide) hs
  have HIN := Lib.hid (fun w3 F3 (h3 : RbAt B w3 x s F3) hB3 => refBIns_is B x s F3 31 d 0 0 n w3 h3 (by omega) hB3)
  have H := Lib.hid h
  have HE := Lib.hid hi
  unfold isReg0 at hd
  obtain ⟨d1, d2⟩ := hd
  obtain ⟨n1, n2⟩ := hs
  clear h hi
  go_enter Tryd.func22, Tryd.ntmps22
  go_wp2_with (first
    | (go_at_call 19; ((with_reducible refine (HIN.out _ _ H.out hB).mono ?_); rintro e w4 ⟨F4, rfl, h4, g4⟩); have H4' := Lib.hid h4; have G4 := Lib.hid g4; clear h4 g4))
  have he := HE.out
  go_ret
  exact ⟨F4, by rw [he]; rfl, ins_yes he ▸ H4'.out, G4.out⟩
theorem add_add (s : Bst) (a b : List I5) : (s.add a).add b = s.add (a ++ b) := by unfold Bst.add; rw [List.append_assoc]
set_option maxRecDepth 100000 in
set_option maxHeartbeats 2000000 in
theorem refBSet_big (B x : Nat) (s : Bst) (F : Nat → Prop) (d n : Int) (w : World) (h : RbAt B w x s F) (hn : s.L.length ≤ 900) (hB : B ≤ w.heap.size) (hd : isReg0 d) (hs : ¬ (-32768 ≤ n ∧ n ≤ 32767)) (n1 : -2147483648 ≤ n) (n2 : n ≤ 2147483647) :
    Calls Tryd.prog 22 #[.pointer (some ⟨x, 0, none⟩), .int .i64 d, .int .i32 n] w (RbTo B x 0 (s.add [(33, d, 0, 0, n % 4294967296 / 65536), (32, d, d, 0, n % 4294967296 % 65536)]) F w) := by
  have hP := Lib.hid (fun w => refPlainB_is n _ w rfl n1 n2)
  have q1 : 0 ≤ n % 4294967296 ∧ n % 4294967296 ≤ 4294967295 := by omega
  generalize n % 4294967296 = z at *
  have hi := lui_ok hd (n := z / 65536) (by omega)
  have hi2 := ori_ok (a := d) hd hd (n := z % 65536) (by omega)
  have HI1 := Lib.hid (fun w3 F3 (h3 : RbAt B w3 x s F3) hB3 => refBIns_is B x s F3 33 d 0 0 (z / 65536) w3 h3 (by omega) hB3)
  have HI2 := Lib.hid (fun w3 F3 (h3 : RbAt B w3 x (s.add [(33, d, 0, 0, z / 65536)]) F3) hB3 => refBIns_is B x (s.add [(33, d, 0, 0, z / 65536)]) F3 32 d d 0 (z % 65536) w3 h3 (by show (s.L ++ [_]).length ≤ 1000; rw [List.length_append, List.length_singleton]; omega) hB3)
  have H := Lib.hid h
  have HE := Lib.hid (And.intro hi hi2)
  unfold isReg0 at hd
  obtain ⟨d1, d2⟩ := hd
  clear h hi hi2
  have hsplit : n < -32768 ∨ 32767 < n := by omega
  rcases hsplit with hs1 | hs1
  all_goals
    go_enter Tryd.func22, Tryd.ntmps22
    go_wp2_with (first
      | (go_at_call 41; ((with_reducible refine (hP.out _).mono ?_); rintro e w4 ⟨rfl, rfl⟩))
      | (go_at_call 19; ((with_reducible refine (HI1.out _ _ H.out hB).mono ?_); rintro e w4 ⟨F4, rfl, h4, g4⟩); have H4' := Lib.hid ((ins_yes HE.out.1 ▸ h4 : RbAt B w4 x (s.add [(33, d, 0, 0, z / 65536)]) F4)); have G4 := Lib.hid g4; clear h4 g4; have hs4 := G4.out.keeps.size)
      | (go_at_call 19; ((with_reducible refine (HI2.out _ _ H4'.out (by omega)).mono ?_); rintro e w5 ⟨F5, rfl, h5, g5⟩); have H5' := Lib.hid h5; have G5 := Lib.hid g5; clear h5 g5))
    have he := HE.out.2
    go_ret
    refine ⟨F5, by rw [he]; rfl, ?_, G4.out.trans G5.out⟩
    have := ins_yes he ▸ H5'.out
    rw [add_add] at this
    exact this
theorem refBSet_no (B x : Nat) (s : Bst) (F : Nat → Prop) (d n : Int) (w : World) (h : RbAt B w x s F) (hd : ¬ isReg0 d) :
    Calls Tryd.prog 22 #[.pointer (some ⟨x, 0, none⟩), .int .i64 d, .int .i32 n] w (RbTo B x 6 s F w) := by
  have H := Lib.hid h
  have hsplit : d < 0 ∨ (¬ d < 0 ∧ 31 < d) := by unfold isReg0 at hd; omega
  clear h hd
  rcases hsplit with hs1 | ⟨hs0, hs1⟩
  all_goals
    go_enter Tryd.func22, Tryd.ntmps22
    go_wp2
    go_ret
    exact ⟨F, rfl, H.out, Grows.refl _ _⟩
theorem refBSet_is (B x : Nat) (s : Bst) (F : Nat → Prop) (d n : Int) (w : World) (h : RbAt B w x s F) (hn : s.L.length ≤ 900) (hB : B ≤ w.heap.size) (n1 : -2147483648 ≤ n) (n2 : n ≤ 2147483647) :
    Calls Tryd.prog 22 #[.pointer (some ⟨x, 0, none⟩), .int .i64 d, .int .i32 n] w (RbTo B x (setE d) (s.setR d n) F w) := by
  unfold setE Bst.setR setI
  by_cases hd : isReg0 d
  · rw [if_pos hd, if_pos hd]
    by_cases hs : -32768 ≤ n ∧ n ≤ 32767
    · rw [if_pos hs]; exact refBSet_small B x s F d n w h hn hB hd hs
    · rw [if_neg hs]; exact refBSet_big B x s F d n w h hn hB hd hs n1 n2
  · rw [if_neg hd, if_neg hd]; exact refBSet_no B x s F d n w h hd
set_option maxRecDepth 100000 in
set_option maxHeartbeats 2000000 in
theorem refBClose_is (B x : Nat) (s : Bst) (F : Nat → Prop) (c l : Int) (nm : ByteArray) (w : World) (h : RbAt B w x s F) (hs : nm.size ≤ maxLen) (hn : s.L.length ≤ 900) (hu : s.us.length ≤ 1000) (hB : B ≤ w.heap.size) (hc : 0 ≤ c ∧ c ≤ 31) :
    Calls Tryd.prog 25 #[.pointer (some ⟨x, 0, none⟩), .int .i64 c, .int .i64 l, .string nm] w fun e w' => ∃ F', e = .returned (.tuple #[]) ∧ RbAt B w' x (s.shuts c l nm) F' ∧ Grows F w F' w' := by
  have hi := addi_ok hc hc (n := 1) (by decide)
  have HI1 := Lib.hid (fun w3 F3 (h3 : RbAt B w3 x s F3) hB3 => refBIns_is B x s F3 31 c c 0 1 w3 h3 (by omega) hB3)
  have HI2 := Lib.hid (fun w3 F3 (h3 : RbAt B w3 x (s.add [(31, c, c, 0, 1)]) F3) hB3 => refBGo_is B x (s.add [(31, c, c, 0, 1)]) F3 38 c l nm w3 h3 hs (by show (s.L ++ [_]).length ≤ 1000; rw [List.length_append, List.length_singleton]; omega) hu hB3)
  have H := Lib.hid h
  have HE := Lib.hid hi
  clear h hi hc
  go_enter Tryd.func25, Tryd.ntmps25
  go_wp2_with (first
    | (go_at_call 19; ((with_reducible refine (HI1.out _ _ H.out hB).mono ?_); rintro e w4 ⟨F4, rfl, h4, g4⟩); have H4' := Lib.hid ((ins_yes HE.out ▸ h4 : RbAt B w4 x (s.add [(31, c, c, 0, 1)]) F4)); have G4 := Lib.hid g4; clear h4 g4; have hs4 := G4.out.keeps.size)
    | (go_at_call 21; ((with_reducible refine (HI2.out _ _ H4'.out (by omega)).mono ?_); rintro e w5 ⟨F5, rfl, h5, g5⟩); have H5' := Lib.hid h5; have G5 := Lib.hid g5; clear h5 g5))
  go_end0
  exact ⟨F5, rfl, H5'.out, G4.out.trans G5.out⟩
set_option maxRecDepth 100000 in
set_option maxHeartbeats 2000000 in
theorem refBOpen_no (B x : Nat) (s : Bst) (F : Nat → Prop) (c l n : Int) (nm : ByteArray) (w : World) (h : RbAt B w x s F) (hk : ¬ loopOk c l n) :
    Calls Tryd.prog 23 #[.pointer (some ⟨x, 0, none⟩), .int .i64 c, .int .i64 l, .int .i64 n, .string nm] w (RbTo B x 6 s F w) := by
  have H := Lib.hid h
  have hsplit : c < 1 ∨ (¬ c < 1 ∧ 31 < c) ∨ (¬ c < 1 ∧ ¬ 31 < c ∧ l < 1) ∨ (¬ c < 1 ∧ ¬ 31 < c ∧ ¬ l < 1 ∧ 31 < l) ∨ (¬ c < 1 ∧ ¬ 31 < c ∧ ¬ l < 1 ∧ ¬ 31 < l ∧ c = l) ∨ (¬ c < 1 ∧ ¬ 31 < c ∧ ¬ l < 1 ∧ ¬ 31 < l ∧ c ≠ l ∧ n < 1) ∨ (¬ c < 1 ∧ ¬ 31 < c ∧ ¬ l < 1 ∧ ¬ 31 < l ∧ c ≠ l ∧ ¬ n < 1 ∧ 32767 < n) := by
    unfold loopOk at hk; omega
  clear h hk
  rcases hsplit with h0 | ⟨h0, h1⟩ | ⟨h0, h1, h2⟩ | ⟨h0, h1, h2, h3⟩ | ⟨h0, h1, h2, h3, rfl⟩ | ⟨h0, h1, h2, h3, h4, h5⟩ | ⟨h0, h1, h2, h3, h4, h5, h6⟩
  all_goals
    go_enter Tryd.func23, Tryd.ntmps23
    go_wp2
    go_ret
    exact ⟨F, rfl, H.out, Grows.refl _ _⟩
set_option maxRecDepth 100000 in
set_option maxHeartbeats 2000000 in
theorem refBOpen_dup (B x : Nat) (s : Bst) (F : Nat → Prop) (c l n z : Int) (nm : ByteArray) (w : World) (h : RbAt B w x s F) (hs : nm.size ≤ maxLen) (hn : s.L.length ≤ 900) (hd : s.ds.length ≤ 1000) (hB : B ≤ w.heap.size) (hk : loopOk c l n) (he : defE s.ds nm = z) (hz : z ≠ 0) (hq : ∀ p, defS s.ds nm p = s.ds) :
    Calls Tryd.prog 23 #[.pointer (some ⟨x, 0, none⟩), .int .i64 c, .int .i64 l, .int .i64 n, .string nm] w (RbTo B x z s F w) := by
  obtain ⟨cs, v, G, h1, h2, h3, h4, h5, h6, h7⟩ := h.ex
  have HD := fun w2 (k : Below w.heap.size w w2) => refDefine19o_is _ _ B x cs s.ds s.us G nm (s.L.length + 2) w2 (h1.keep k) hs hd (by have := k.size; omega)
  obtain ⟨va, ua, hbk, -⟩ := h1.ex
  obtain ⟨a1, c1, rfl, h40⟩ := h4.at
  have hlen := h40.cap
  have c0 := (hbk.cell 0).trans h3
  have H := Lib.hid h
  have H2 := Lib.hid h2
  have H3 := Lib.hid h3
  have H4 := Lib.hid h4
  have H5 := Lib.hid h5
  have H6 := Lib.hid h6
  have H7 := Lib.hid h7
  have hlt : (s.L.length : Int) ≤ 900 := by omega
  unfold loopOk at hk
  obtain ⟨k1, k2, k3, k4, k5, k6, k7⟩ := hk
  have k1 : ¬ c < 1 := by omega
  have k2 : ¬ 31 < c := by omega
  have k3 : ¬ l < 1 := by omega
  have k4 : ¬ 31 < l := by omega
  have k5 : (c == l) = false := by simpa using k5
  have k6 : ¬ n < 1 := by omega
  have k7 : ¬ 32767 < n := by omega
  clear h h1 h2 h3 h4 h5 h6 h7 hbk h40
  simp only [hq, he] at HD
  have hz1 : (z != 0) = true := by simpa using hz
  clear he hq
  go_enter Tryd.func23, Tryd.ntmps23
  go_wp2
  go_still_tail 10, (by kernel_rfl)
  change wpList _ _ _ _ _ w.drew
  have HB2 := Lib.hid (show Below w.heap.size w w.drew from (Below.refl _ _).drew)
  have H := Lib.hid (H.out.keep HB2.out)
  have H4 := Lib.hid (H4.out.keep HB2.out)
  have hB : B ≤ w.drew.heap.size := hB
  have HD := Lib.hid (HD w.drew HB2.out)
  generalize w.drew = w2 at *
  clear c0
  go_wp2_with (go_at_call 38; ((with_reducible refine (HD.out).mono ?_); rintro e w1 ⟨cs1, G1, rfl, t1, g1, z1, o1⟩); have HG := Lib.hid (RbAt.named H2.out H3.out H4.out H5.out H6.out H7.out H.out.low hB t1 g1 z1 o1); clear t1 g1 z1 o1; have hs1 := HG.out.2.keeps.size)
  go_ret
  exact ⟨_, rfl, HG.out.1, (Grows.of_below F HB2.out).trans HG.out.2⟩
set_option maxRecDepth 100000 in
set_option maxHeartbeats 2000000 in
theorem refBOpen_yes (B x : Nat) (s : Bst) (F : Nat → Prop) (c l n : Int) (nm : ByteArray) (w : World) (h : RbAt B w x s F) (hs : nm.size ≤ maxLen) (hn : s.L.length ≤ 900) (hd : s.ds.length ≤ 1000) (hB : B ≤ w.heap.size) (hk : loopOk c l n) (he : defE s.ds nm = 0) :
    Calls Tryd.prog 23 #[.pointer (some ⟨x, 0, none⟩), .int .i64 c, .int .i64 l, .int .i64 n, .string nm] w (RbTo B x 0 ((s.lab nm (s.L.length + 2)).add [(31, c, 0, 0, 0), (31, l, 0, 0, n)]) F w) := by
  obtain ⟨S, hS⟩ : ∃ S, s.lab nm (s.L.length + 2) = S := ⟨_, rfl⟩
  have hSL : S.L.length ≤ 900 := by rw [← hS]; exact hn
  have HSS := Lib.hid hS
  have hk0 := hk
  unfold loopOk at hk0
  have hi := addi_ok (d := c) (a := 0) (n := 0) (by omega) (by decide) (by decide)
  have hi2 := addi_ok (d := l) (a := 0) (n := n) (by omega) (by decide) (by omega)
  have HI1 := Lib.hid (fun w3 F3 (h3 : RbAt B w3 x S F3) hB3 => refBIns_is B x S F3 31 c 0 0 0 w3 h3 (by omega) hB3)
  have HI2 := Lib.hid (fun w3 F3 (h3 : RbAt B w3 x (S.add [(31, c, 0, 0, 0)]) F3) hB3 => refBIns_is B x (S.add [(31, c, 0, 0, 0)]) F3 31 l 0 0 n w3 h3 (by show (S.L ++ [_]).length ≤ 1000; rw [List.length_append, List.length_singleton]; omega) hB3)
  have HE := Lib.hid (And.intro hi hi2)
  rw [hS]
  clear hi hi2 hk0 hS
  obtain ⟨cs, v, G, h1, h2, h3, h4, h5, h6, h7⟩ := h.ex
  have HD := fun w2 (k : Below w.heap.size w w2) => refDefine19o_is _ _ B x cs s.ds s.us G nm (s.L.length + 2) w2 (h1.keep k) hs hd (by have := k.size; omega)
  obtain ⟨va, ua, hbk, -⟩ := h1.ex
  obtain ⟨a1, c1, rfl, h40⟩ := h4.at
  have hlen := h40.cap
  have c0 := (hbk.cell 0).trans h3
  have H := Lib.hid h
  have H2 := Lib.hid h2
  have H3 := Lib.hid h3
  have H4 := Lib.hid h4
  have H5 := Lib.hid h5
  have H6 := Lib.hid h6
  have H7 := Lib.hid h7
  have hlt : (s.L.length : Int) ≤ 900 := by omega
  unfold loopOk at hk
  obtain ⟨k1, k2, k3, k4, k5, k6, k7⟩ := hk
  have k1 : ¬ c < 1 := by omega
  have k2 : ¬ 31 < c := by omega
  have k3 : ¬ l < 1 := by omega
  have k4 : ¬ 31 < l := by omega
  have k5 : (c == l) = false := by simpa using k5
  have k6 : ¬ n < 1 := by omega
  have k7 : ¬ 32767 < n := by omega
  clear h h1 h2 h3 h4 h5 h6 h7 hbk h40
  simp only [he] at HD
  clear he
  go_enter Tryd.func23, Tryd.ntmps23
  go_wp2
  go_still_tail 10, (by kernel_rfl)
  change wpList _ _ _ _ _ w.drew
  have HB2 := Lib.hid (show Below w.heap.size w w.drew from (Below.refl _ _).drew)
  have H := Lib.hid (H.out.keep HB2.out)
  have H4 := Lib.hid (H4.out.keep HB2.out)
  have hB : B ≤ w.drew.heap.size := hB
  have HD := Lib.hid (HD w.drew HB2.out)
  generalize w.drew = w2 at *
  clear c0
  go_wp2_with (first
    | (go_at_call 38; ((with_reducible refine (HD.out).mono ?_); rintro e w1 ⟨cs1, G1, rfl, t1, g1, z1, o1⟩); have HG := Lib.hid (RbAt.named H2.out H3.out H4.out H5.out H6.out H7.out H.out.low hB t1 g1 z1 o1); clear t1 g1 z1 o1; have hs1 := HG.out.2.keeps.size; have HS1 := Lib.hid (RbAt.re HG.out.1 HSS.out))
    | (go_at_call 19; ((with_reducible refine (HI1.out _ _ HS1.out (by omega)).mono ?_); rintro e w4 ⟨F4, rfl, h4, g4⟩); have H4' := Lib.hid ((ins_yes HE.out.1 ▸ h4 : RbAt B w4 x (S.add [(31, c, 0, 0, 0)]) F4)); have G4 := Lib.hid g4; clear h4 g4; have hs4 := G4.out.keeps.size)
    | (go_at_call 19; ((with_reducible refine (HI2.out _ _ H4'.out (by omega)).mono ?_); rintro e w5 ⟨F5, rfl, h5, g5⟩); have H5' := Lib.hid h5; have G5 := Lib.hid g5; clear h5 g5))
  have he := HE.out.2
  go_ret
  refine ⟨F5, by rw [he]; rfl, ?_, (((Grows.of_below F HB2.out).trans HG.out.2).trans G4.out).trans G5.out⟩
  have := ins_yes he ▸ H5'.out
  rw [add_add] at this
  exact this
theorem refBOpen_is (B x : Nat) (s : Bst) (F : Nat → Prop) (c l n : Int) (nm : ByteArray) (w : World) (h : RbAt B w x s F) (hs : nm.size ≤ maxLen) (hn : s.L.length ≤ 900) (hd : s.ds.length ≤ 1000) (hB : B ≤ w.heap.size) :
    Calls Tryd.prog 23 #[.pointer (some ⟨x, 0, none⟩), .int .i64 c, .int .i64 l, .int .i64 n, .string nm] w (RbTo B x (openE s c l n nm) (s.opens c l n nm) F w) := by
  unfold openE Bst.opens
  by_cases hk : loopOk c l n
  · rw [if_pos hk]
    by_cases he : defE s.ds nm = 0
    · rw [if_pos ⟨hk, he⟩, he]; exact refBOpen_yes B x s F c l n nm w h hs hn hd hB hk he
    · rw [if_neg (fun q => he q.2)]
      exact refBOpen_dup B x s F c l n _ nm w h hs hn hd hB hk rfl he fun p => by
        unfold defE at he; unfold defS
        cases hm : nameB nm
        · rfl
        · cases hp : plB s.ds nm
          · rw [hm, hp] at he; exact absurd rfl he
          · rfl
  · rw [if_neg hk, if_neg (fun q => hk q.1)]; exact refBOpen_no B x s F c l n nm w h hk
end Go.Proofs.YtgmphfagflhglaaDoor
