/- Package build: Loop; what is said of nobody's builder. Conditions: as few as 900. -/
import Derived.Test.YtgmphfagflhglaaGreatDoorBldE
import Derived.Deep.Cut
namespace Go.Proofs.YtgmphfagflhglaaGreatDoor
open Go.RowKit Go.Maps Go.IntWalk

theorem OwnEl.els {α : Type} [Inhabited α] {K : Kd α} {w : World} {base n c : Nat} {e : TypeId} {a : Option Addr} {l : List α} (h : OwnEl K w base e (.slice a n c) l) : ElAt K w a n c l := by
  obtain ⟨a', c', q, r⟩ := h.at
  simp only [Value.slice.injEq] at q
  obtain ⟨rfl, rfl, rfl⟩ := q
  exact r
section
variable {B b d : Nat} {s : Bst} {F : Nat → Prop}
theorem cntB_yes {r : Int} (h : 1 ≤ r ∧ r ≤ 31) : cntB r = true := by unfold cntB; rw [decide_eq_true h.1, decide_eq_true (by omega)]; rfl
theorem cntB_no {r : Int} (h : ¬ (1 ≤ r ∧ r ≤ 31)) : cntB r = false := by
  unfold cntB
  by_cases q : 1 ≤ r
  · rw [decide_eq_true q, decide_eq_false (show ¬ r < 32 by omega)]; rfl
  · rw [decide_eq_false q]; rfl
set_option maxRecDepth 100000 in
set_option maxHeartbeats 4000000 in
theorem bldLoop_no (c l n : Int) (nm : ByteArray) (fv : Value) (w : World) (h : BldAt B w b d s F) (hk : ¬ loopOk c l n) :
    Calls Tryz.prog 6 #[.pointer (some ⟨b, 0, none⟩), .int .i64 c, .int .i64 l, .int .i64 n, .string nm, fv] w (BldTo B b d 6 s F w) := by
  obtain ⟨G, h⟩ := h
  have HM := Lib.hid h.made.now
  have H := Lib.hid h
  have HC := Lib.hid bldCounter_is
  have hsplit : (cntB c = false) ∨ (cntB c = true ∧ cntB l = false) ∨ (cntB c = true ∧ cntB l = true ∧ (c == l) = true) ∨ (cntB c = true ∧ cntB l = true ∧ (c == l) = false ∧ n < 1) ∨ (cntB c = true ∧ cntB l = true ∧ (c == l) = false ∧ 1 ≤ n ∧ 32767 < n) := by
    by_cases h1 : 1 ≤ c ∧ c ≤ 31
    · by_cases h2 : 1 ≤ l ∧ l ≤ 31
      · by_cases h3 : c = l
        · exact .inr (.inr (.inl ⟨cntB_yes h1, cntB_yes h2, by simpa using h3⟩))
        · by_cases h4 : n < 1
          · exact .inr (.inr (.inr (.inl ⟨cntB_yes h1, cntB_yes h2, by simpa using h3, h4⟩)))
          · exact .inr (.inr (.inr (.inr ⟨cntB_yes h1, cntB_yes h2, by simpa using h3, by omega, by unfold loopOk at hk; omega⟩)))
      · exact .inr (.inl ⟨cntB_yes h1, cntB_no h2⟩)
    · exact .inl (cntB_no h1)
  clear h hk
  rcases hsplit with q1 | ⟨q1, q2⟩ | ⟨q1, q2, q3⟩ | ⟨q1, q2, q3, q4⟩ | ⟨q1, q2, q3, q4, q5⟩
  all_goals
    go_enter Tryz.func6, Tryz.ntmps6
    go_wp2_with (first
      | (go_at_call 18; ((with_reducible refine (HM.out).mono ?_); rintro e w1 ⟨rfl, rfl⟩))
      | (go_at_call 19; ((with_reducible refine (HC.out _ _).mono ?_); rintro e w1 ⟨rfl, rfl⟩)))
    go_ret
    exact ⟨F, rfl, ⟨G, H.out⟩, Grows.refl F w⟩
set_option maxRecDepth 100000 in
set_option maxHeartbeats 4000000 in
theorem bldLoop_dup (c l n z : Int) (nm : ByteArray) (fv : Value) (w : World) (h : BldAt B w b d s F) (hs : nm.size ≤ maxLen) (hn : s.L.length ≤ 900) (hd : s.ds.length ≤ 1000) (hu : s.us.length ≤ 1000) (hB : B ≤ w.heap.size) (hk : loopOk c l n) (he : defE s.ds nm = z) (hz : z ≠ 0) (hq : ∀ p, defS s.ds nm p = s.ds) :
    Calls Tryz.prog 6 #[.pointer (some ⟨b, 0, none⟩), .int .i64 c, .int .i64 l, .int .i64 n, .string nm, fv] w (BldTo B b d z s F w) := by
  have hz1 : (z != 0) = true := by simpa using hz
  clear hz
  obtain ⟨G, h⟩ := h
  obtain ⟨t, v, T, hdr⟩ := h.dr
  obtain ⟨av, cv, rfl, -⟩ := hdr.own.at
  have HM := Lib.hid h.made.now
  have H := Lib.hid h
  have HD := Lib.hid hdr
  have HC := Lib.hid bldCounter_is
  have HA := Lib.hid bldAddi_is
  have hw : wrap64 ((s.L.length : Int) + 2) = s.L.length + 2 := by unfold wrap64; omega
  obtain ⟨k1, k2, k3, k4, k5, k6, k7⟩ := hk
  have q1 := cntB_yes ⟨k1, k2⟩
  have q2 := cntB_yes ⟨k3, k4⟩
  have q3 : (c == l) = false := by simpa using k5
  clear h hdr k1 k2 k3 k4 k5
  go_enter Tryz.func6, Tryz.ntmps6
  go_wp2_with (first
    | (go_at_call 18; ((with_reducible refine (HM.out).mono ?_); rintro e w1 ⟨rfl, rfl⟩))
    | (go_at_call 19; ((with_reducible refine (HC.out _ _).mono ?_); rintro e w1 ⟨rfl, rfl⟩))
    | (go_at_call 17; ((with_reducible refine (HA.out c 0 0 _).mono ?_); rintro e w1 ⟨rfl, hb⟩); have HB1 := Lib.hid hb; clear hb)
    | (go_at_call 17; ((with_reducible refine (HA.out l 0 n _).mono ?_); rintro e w2 ⟨rfl, hb⟩); have HB2 := Lib.hid (HB1.out.trans (hb.mono HB1.out.size)); clear hb))
  have hs2 := HB2.out.size
  have HX := Lib.hid (OwnEl.lit (K := insK) (base := B) w2 29 (by omega) [(31, c, 0, 0, 0), (31, l, 0, 0, n)] (by unfold maxLen; simp) #[.int .i64 31, .int .i64 c, .int .i64 0, .int .i64 0, .int .i64 0, .int .i64 31, .int .i64 l, .int .i64 0, .int .i64 0, .int .i64 n] rfl)
  have HB3 := Lib.hid (HB2.out.alloc HB2.out.size (.cells #[.int .i64 31, .int .i64 c, .int .i64 0, .int .i64 0, .int .i64 0, .int .i64 31, .int .i64 l, .int .i64 0, .int .i64 0, .int .i64 n] 29))
  have hs3 : (w2.alloc (.cells #[.int .i64 31, .int .i64 c, .int .i64 0, .int .i64 0, .int .i64 0, .int .i64 31, .int .i64 l, .int .i64 0, .int .i64 0, .int .i64 n] 29)).heap.size = w2.heap.size + 1 := by simp
  generalize w2.alloc (.cells #[.int .i64 31, .int .i64 c, .int .i64 0, .int .i64 0, .int .i64 0, .int .i64 31, .int .i64 l, .int .i64 0, .int .i64 0, .int .i64 n] 29) = W2 at *
  generalize w2.heap.size = xb at *
  have HD2 := Lib.hid (HD.out.keep HB3.out)
  have c0 := HD2.out.blk.cell 0
  have c1 := HD2.out.blk.cell 1
  go_still_tail 13, (by kernel_rfl)
  change wpList _ _ _ _ _ W2.drew
  have hk : Below W2.heap.size W2 W2.drew := (Below.refl _ _).drew
  have HD2 := Lib.hid (HD2.out.keep hk)
  have HX := Lib.hid (HX.out.keep hk)
  have HB3 := Lib.hid (HB3.out.trans (hk.mono HB3.out.size))
  have hs3 : W2.drew.heap.size = xb + 1 := hs3
  generalize W2.drew = W at *
  clear c0 c1 hk
  have HU := Lib.hid (labDefine_is B t s.ds s.us T nm (s.L.length + 2) W HD2.out.tab hs (by omega) (by omega))
  rw [he, hq] at HU
  clear he hq
  go_wp2_with (go_at_call 20; ((with_reducible refine (HU.out).mono ?_); rintro e w3 ⟨T1, rfl, t1, g1⟩); have HG := Lib.hid (HD2.out.named (by omega) t1 g1); clear t1 g1)
  go_ret
  exact H.out.to hB ⟨_, rfl, ⟨_, _, _, HG.out.1⟩, (Grows.of_below G HB3.out).trans HG.out.2⟩
theorem shuts_goes (s : Bst) (c l : Int) (nm : ByteArray) (hc : 0 ≤ c ∧ c ≤ 31) (hl : 0 ≤ l ∧ l ≤ 31) (h : nameB nm = true) : s.shuts c l nm = ((s.add [(31, c, c, 0, 1)]).use nm (s.add [(31, c, c, 0, 1)]).L.length).add [(38, c, l, 0, 0)] := by
  unfold Bst.shuts
  exact (goes_yes (.inr (.inr (.inl rfl))) (blt_ok hc hl (by decide)) h).2.2
/-- What Loop leaves: what its inside left, and the loop's end. -/
def LoopTo (B b d : Nat) (c l : Int) (nm : ByteArray) (R : World → Bst → (Nat → Prop) → Prop) (e : Ending) (w' : World) : Prop := ∃ w2 s2 F2 F', e = .returned (.int .i64 0) ∧ R w2 s2 F2 ∧ BldAt B w' b d (s2.shuts c l nm) F' ∧ Grows F2 w2 F' w'
set_option maxRecDepth 100000 in
set_option maxHeartbeats 4000000 in
theorem bldLoop_yes {f : FuncId} {cap : Array Value} {R : World → Bst → (Nat → Prop) → Prop} (c l n : Int) (nm : ByteArray) (w : World) (h : BldAt B w b d s F) (hs : nm.size ≤ maxLen) (hn : s.L.length ≤ 900) (hd : s.ds.length ≤ 900) (hu : s.us.length ≤ 900) (hB : B ≤ w.heap.size) (hg : 1 < B) (hk : loopOk c l n) (he : defE s.ds nm = 0)
    (hf : ∀ w, Sem.run Tryz.prog (callFunc f cap) w = .ok (.enter f cap) w)
    (hdo : ∀ w1 F1, BldAt B w1 b d (s.opens c l n nm) F1 → Grows F w F1 w1 → Calls Tryz.prog f cap w1 fun e w2 => e = .returned (.tuple #[]) ∧ ∃ s2 F2, R w2 s2 F2)
    (hR : ∀ w2 s2 F2, R w2 s2 F2 → BldAt B w2 b d s2 F2 ∧ ShapesLaid w2 ∧ B ≤ w2.heap.size ∧ s2.L.length ≤ 900 ∧ s2.ds.length ≤ 900 ∧ s2.us.length ≤ 900) :
    Calls Tryz.prog 6 #[.pointer (some ⟨b, 0, none⟩), .int .i64 c, .int .i64 l, .int .i64 n, .string nm, .func (.func f) #[] cap] w (LoopTo B b d c l nm R) := by
  have HDO := Lib.hid hdo
  have HR := Lib.hid hR
  have HF := Lib.hid hf
  have hN : nameB nm = true := by
    unfold defE at he
    split at he
    · assumption
    · cases he
  have HN := Lib.hid hN
  have HO := Lib.hid (show s.opens c l n nm = (s.lab nm (s.L.length + 2)).add [(31, c, 0, 0, 0), (31, l, 0, 0, n)] by unfold Bst.opens; rw [if_pos ⟨hk, he⟩])
  have HRG := Lib.hid (show (0 ≤ c ∧ c ≤ 31) ∧ 0 ≤ l ∧ l ≤ 31 by unfold loopOk at hk; omega)
  obtain ⟨i0, hi, hz0, hz1, hz2⟩ := info_el infoInsA
  clear hdo hR hf hN
  obtain ⟨G, h⟩ := h
  obtain ⟨t, v, T, hdr⟩ := h.dr
  obtain ⟨av, cv, rfl, -⟩ := hdr.own.at
  have HM := Lib.hid h.made.now
  have H := Lib.hid h
  have HD := Lib.hid hdr
  have HC := Lib.hid bldCounter_is
  have HA := Lib.hid bldAddi_is
  have hw : wrap64 ((s.L.length : Int) + 2) = s.L.length + 2 := by unfold wrap64; omega
  obtain ⟨k1, k2, k3, k4, k5, k6, k7⟩ := hk
  have q1 := cntB_yes ⟨k1, k2⟩
  have q2 := cntB_yes ⟨k3, k4⟩
  have q3 : (c == l) = false := by simpa using k5
  clear h hdr k1 k2 k3 k4 k5
  go_enter Tryz.func6, Tryz.ntmps6
  go_wp2_with (first
    | (go_at_call 18; ((with_reducible refine (HM.out).mono ?_); rintro e w1 ⟨rfl, rfl⟩))
    | (go_at_call 19; ((with_reducible refine (HC.out _ _).mono ?_); rintro e w1 ⟨rfl, rfl⟩))
    | (go_at_call 17; ((with_reducible refine (HA.out c 0 0 _).mono ?_); rintro e w1 ⟨rfl, hb⟩); have HB1 := Lib.hid hb; clear hb)
    | (go_at_call 17; ((with_reducible refine (HA.out l 0 n _).mono ?_); rintro e w2 ⟨rfl, hb⟩); have HB2 := Lib.hid (HB1.out.trans (hb.mono HB1.out.size)); clear hb))
  have hs2 := HB2.out.size
  have HX := Lib.hid (OwnEl.lit (K := insK) (base := B) w2 29 (by omega) [(31, c, 0, 0, 0), (31, l, 0, 0, n)] (by unfold maxLen; simp) #[.int .i64 31, .int .i64 c, .int .i64 0, .int .i64 0, .int .i64 0, .int .i64 31, .int .i64 l, .int .i64 0, .int .i64 0, .int .i64 n] rfl)
  have HB3 := Lib.hid (HB2.out.alloc HB2.out.size (.cells #[.int .i64 31, .int .i64 c, .int .i64 0, .int .i64 0, .int .i64 0, .int .i64 31, .int .i64 l, .int .i64 0, .int .i64 0, .int .i64 n] 29))
  have hs3 : (w2.alloc (.cells #[.int .i64 31, .int .i64 c, .int .i64 0, .int .i64 0, .int .i64 0, .int .i64 31, .int .i64 l, .int .i64 0, .int .i64 0, .int .i64 n] 29)).heap.size = w2.heap.size + 1 := by simp
  generalize w2.alloc (.cells #[.int .i64 31, .int .i64 c, .int .i64 0, .int .i64 0, .int .i64 0, .int .i64 31, .int .i64 l, .int .i64 0, .int .i64 0, .int .i64 n] 29) = W2 at *
  generalize w2.heap.size = xb at *
  have HD2 := Lib.hid (HD.out.keep HB3.out)
  have c0 := HD2.out.blk.cell 0
  have c1 := HD2.out.blk.cell 1
  go_still_tail 13, (by kernel_rfl)
  change wpList _ _ _ _ _ W2.drew
  have hk : Below W2.heap.size W2 W2.drew := (Below.refl _ _).drew
  have HD2 := Lib.hid (HD2.out.keep hk)
  have HX := Lib.hid (HX.out.keep hk)
  have HB3 := Lib.hid (HB3.out.trans (hk.mono HB3.out.size))
  have hs3 : W2.drew.heap.size = xb + 1 := hs3
  generalize W2.drew = W at *
  clear c0 c1 hk
  have HU := Lib.hid (labDefine_is B t s.ds s.us T nm (s.L.length + 2) W HD2.out.tab hs (by omega) (by omega))
  rw [he] at HU
  have HXN := Lib.hid (show ∀ j, (Value.slice (some ⟨xb, 0, none⟩) 2 2).ownBlock = some j → ¬ T j from fun j q r => by
    have e : xb = j := by simpa [Value.ownBlock] using q
    subst e
    have := (HD.out.low _ (HD.out.fg _ r)).2
    omega)
  have HX : Hid (OwnEl insK W B 29 (.slice (some ⟨xb, 0, none⟩) 2 2) [(31, c, 0, 0, 0), (31, l, 0, 0, n)]) := Lib.hid HX.out
  clear he
  go_upto_region 14 with (go_at_call 20; ((with_reducible refine (HU.out).mono ?_); rintro e w3 ⟨T1, rfl, t1, g1⟩); have HG := Lib.hid (HD2.out.named (by omega) t1 g1); have HX3 := Lib.hid (HX.out.kept g1.keeps HXN.out); have hs4 := g1.keeps.size; have d1 := HG.out.1.blk.cell 1; clear t1 g1)
  have HG0 := Lib.hid ((Grows.of_below G HB3.out).trans HG.out.2)
  have HE3 := Lib.hid (OwnEl.els HX3.out)
  have hB3 : B ≤ w3.heap.size := by omega
  have HUX := Lib.hid (own_off_type HG.out.1.own HG.out.1.blk (by decide))
  have HMR := Lib.hid (fun (w5 : World) (v2 : Value) (q1 : OwnEl insK w5 B 29 v2 (s.L ++ [(31, c, 0, 0, 0), (31, l, 0, 0, n)])) (q2 : w3.grownBy w5 (Value.slice av s.L.length cv).ownBlock) (q3 : Nexts w3 (Value.slice av s.L.length cv) v2) => HG.out.1.more hB3 q1 (Below.refl w3.heap.size w3) q2 q3)
  have HW := Lib.hid (fun w1 F1 (k1 : BldAt B w1 b d (s.opens c l n nm) F1) (k2 : Grows F w F1 w1) => bldWithin_is HF.out (HDO.out w1 F1 k1 k2))
  have HNX := Lib.hid (fun w5 G' (k1 : DrAt B w5 d (s.opens c l n nm) G') (k2 : Grows G w G' w5) => H.out.next hB k1 k2)
  rw [HO.out] at HNX HW
  have hlen : (Value.slice av s.L.length cv) = .slice av s.L.length cv := rfl
  go_wp2_with (at_builtin; refine wpList_append_elsN rfl _ _ 44 rfl B 29 i0 _ Tryz.underlying44 hi hz0 hz1 (by omega) rfl rfl HG.out.1.own rfl HE3.out (by show s.L.length + 2 ≤ _; omega) hB3 ?_; intro v2 w4 hown2 hgrow2 hnext2; obtain ⟨a2, n2, c2, rfl⟩ := OwnEl.shape hown2; have hbk := HG.out.1.blk.kept (Keeps.of_grown (F := fun j => (Value.slice av s.L.length cv).ownBlock = some j) hgrow2 fun _ q => q) HUX.out; have q1 := hbk.cell 1; have q2 := hbk.free 1; have HM := Lib.hid (HMR.out _ _ hown2 hgrow2 hnext2); have HN5 := Lib.hid (HNX.out _ _ ⟨_, _, _, HM.out.1⟩ (HG0.out.trans HM.out.2)); clear hown2 hgrow2 hnext2 hbk)
  refine (HW.out _ _ ⟨_, HN5.out.1⟩ HN5.out.2).mono ?_
  rintro e w5 ⟨rfl, s2, F2, hR2⟩
  have HR2 := Lib.hid hR2
  obtain ⟨⟨G2, hb2⟩, l2, m2, n3, o2, p2⟩ := HR.out _ _ _ hR2
  obtain ⟨t2, v3, T2, hd2⟩ := hb2.dr
  have d2 := hd2.blk.cell 1
  have HB2 := Lib.hid hb2
  have HD2' := Lib.hid hd2
  have HL2 := Lib.hid l2
  clear hR2 hb2 hd2 l2
  go_upto_region 16 with (fail)
  have hk : Below w5.heap.size w5 w5.drew := (Below.refl _ _).drew
  have H5 := Lib.hid (HD2'.out.keep hk)
  have hx1 : d < w5.heap.size := HD2'.out.blk.lt
  have HK5 := Lib.hid hk
  have HL5 := Lib.hid (HL2.out.below hk HL2.out.lt)
  clear hk
  go_region_law (first
    | (go_simp; go_at_call 17; ((with_reducible refine (HA.out c c 1 _).mono ?_); rintro e w6 ⟨rfl, hb6⟩); have HB6 := Lib.hid hb6; have H6 := Lib.hid (H5.out.keep hb6); have d6 := H6.out.blk.cell 1; have hx6 : d < w6.heap.size := H6.out.blk.lt; have hs6 := hb6.size; have HMR6 := Lib.hid (fun (q : Obj) (w7 : World) (v7 : Value) (q1 : OwnEl insK w7 B 29 v7 (s2.L ++ [(31, c, c, 0, 1)])) (q2 : (w6.alloc q).grownBy w7 v3.ownBlock) (q3 : Nexts (w6.alloc q) v3 v7) => H6.out.more (Nat.le_trans m2 (Nat.le_trans HK5.out.size hs6)) q1 ((Below.refl w6.heap.size w6).alloc (Nat.le_refl _) q) q2 q3); have HALL := Lib.hid (fun o => H6.out.own.keep ((Below.refl w6.heap.size w6).alloc (Nat.le_refl _) o)); have HUX6 := Lib.hid (own_off_type H6.out.own H6.out.blk (by decide)); have hB6 : B ≤ w6.heap.size := Nat.le_trans m2 (Nat.le_trans HK5.out.size hs6); clear hb6)
    | (refine step_append_el1 rfl _ _ 44 rfl B 29 i0 _ Tryz.underlying44 hi hz0 hz1 (by omega) rfl rfl (HALL.out _) rfl (one_el (K := insK) (b := w6.heap.size) w6 29 (31, c, c, 0, 1) #[.int .i64 31, .int .i64 c, .int .i64 c, .int .i64 0, .int .i64 1] rfl rfl) (by omega) (by simp; omega) ?_; intro v7 w7 hown2 hgrow2 hnext2; obtain ⟨a2, n2, c2, rfl⟩ := OwnEl.shape hown2; have hbk := (H6.out.blk.keep ((Below.refl _ _).alloc (Nat.le_refl _) _)).kept (Keeps.of_grown (F := fun j => v3.ownBlock = some j) hgrow2 fun _ q => q) HUX6.out; have q1 := hbk.cell 1; have q2 := hbk.free 1; have HM6 := Lib.hid (HMR6.out _ _ _ hown2 hgrow2 hnext2); clear hown2 hgrow2 hnext2 hbk))
  all_goals
    have G7 := Lib.hid (((Grows.of_below G2 HK5.out).trans (Grows.of_below G2 HB6.out)).trans HM6.out.2)
    have HSH := Lib.hid (shuts_goes s2 c l nm HRG.out.1 HRG.out.2 HN.out)
    have hln : (s2.add [(31, c, c, 0, 1)]).L.length ≤ 1000 := by show (s2.L ++ [_]).length ≤ _; rw [List.length_append]; simp; omega
    have HAIM := Lib.hid (drAim_yes B d (s2.add [(31, c, c, 0, 1)]) _ 38 c l nm _ ⟨_, _, _, HM6.out.1⟩ (HL2.out.grow G7.out HD2'.out.low hg) hs hln (show s2.ds.length ≤ 1000 by omega) (show s2.us.length ≤ 1000 by omega) (Nat.le_trans m2 G7.out.keeps.size) (blt_ok HRG.out.1 HRG.out.2 (by decide)) HN.out)
    rw [← HSH.out] at HAIM
    go_wp2_with (go_at_call 22; ((with_reducible refine (HAIM.out).mono ?_); rintro e w8 ⟨G8, rfl, r1, g8⟩); have R8 := Lib.hid r1; have G8' := Lib.hid g8; clear r1 g8)
    go_ret
    have N := HB2.out.next m2 R8.out (G7.out.trans G8'.out)
    exact ⟨w5, s2, F2, _, rfl, HR2.out, ⟨_, N.1⟩, N.2⟩
end
end Go.Proofs.YtgmphfagflhglaaGreatDoor
