/- Package graph: Loop. Conditions: words lie in memory; no more than 60. -/
import Derived.Test.YtggiaopdgijgnaaDoorGraN
namespace Go.Proofs.YtggiaopdgijgnaaDoor
open Go.RowKit Go.IntWalk

/-- Which places lead back to a loop's head. -/
noncomputable def lastB (l : List Int) (h : Int) (p : Nat) : Bool := cameB (nxN l) (fun _ => true) (beginN l.length) p && !cameB (nxN l) (fun p => decide ((p : Int) ≠ h)) (beginN l.length) p
noncomputable def lastN (l : List Int) (h : Int) : List Nat := (backN l h.toNat).filter (lastB l h)
noncomputable def loopF (l : List Int) (h : Int) : Nat → Bool :=
  upn (cameB (backN l) (fun p => decide ((p : Int) ≠ h) && cameB (nxN l) (fun _ => true) (beginN l.length) p) (lastN l h)) h.toNat true
noncomputable def loopL (l : List Int) (h : Int) : List Int :=
  if hasB l.length (cameB (nxN l) (fun _ => true) (beginN l.length)) h = true ∧ lastN l h ≠ [] then plc (loopF l h) l.length else []
/-- What Loop has before it goes through the places that lead to the head. -/
def LoopR (l : List Int) (W : World) (n : Nat) (past : Nat → Bool) (s7 s8 : Value) (wx : World) : Prop := ∃ bp bb a m c a' c' N', s7 = .slice (some ⟨bp, 0, none⟩) (szS n) (szS n) ∧ s8 = .pointer (some ⟨bb, 0, none⟩) ∧ SetAt bp n past wx ∧
  BlkAt bb 51 #[.slice a m c, .slice a' (n + 1) c'] wx ∧ WayN wx a m c a' c' n N' ∧ (∀ p q, q ∈ N' p ↔ q ∈ backN l p) ∧ W.heap.size ≤ bp ∧ W.heap.size ≤ bb ∧ Below W.heap.size W wx
theorem WayN.keep {w w' : World} {a : Option Addr} {m c : Nat} {a' : Option Addr} {c' n : Nat} {N : Nat → List Nat} (h : WayN w a m c a' c' n N) (k : Below w.heap.size w w') : WayN w' a m c a' c' n N := by
  obtain ⟨L, h1, h2, h3⟩ := h.ex
  exact ⟨⟨L, h1.keep k, h2, h3⟩, h.ins, h.few, fun b off e => Nat.lt_of_lt_of_le (h.lt b off e) k.size⟩
theorem WayN.kept {G : Nat → Prop} {w w' : World} {a : Option Addr} {m c : Nat} {a' : Option Addr} {c' n : Nat} {N : Nat → List Nat} (h : WayN w a m c a' c' n N) (k : Keeps G w w') (ha : ∀ b off, a = some ⟨b, off, none⟩ → ¬ G b) (ha' : ∀ b off, a' = some ⟨b, off, none⟩ → ¬ G b) : WayN w' a m c a' c' n N := by
  obtain ⟨L, h1, h2, h3⟩ := h.ex
  exact ⟨⟨L, h1.kept k ha ha', h2, h3⟩, h.ins, h.few, fun b off e => Nat.lt_of_lt_of_le (h.lt b off e) k.size⟩
theorem I32At.ne {a : Option Addr} {w : World} {bb : Nat} {T : TypeId} {cs : Array Value} (h : I32At a w) (hb : BlkAt bb T cs w) (hT : 21 ≠ T) : ∀ b off, a = some ⟨b, off, none⟩ → ¬ b = bb := fun b off e q => by
  obtain ⟨cs', h1⟩ := h b off e
  exact hT (BlkAt.type_eq (q ▸ h1) hb)
theorem hasB_some {n : Nat} {F : Nat → Bool} {x : Int} (h : hasB n F x = true) : ∃ k : Nat, x = k ∧ k < n ∧ F k = true := by
  unfold hasB at h
  rw [Bool.and_eq_true, decide_eq_true_iff] at h
  exact ⟨x.toNat, by omega, by omega, h.2⟩
set_option maxRecDepth 100000 in
set_option maxHeartbeats 4000000 in
theorem graLoop_is {l : List Int} {a : Option Addr} {c : Nat} {w : World} (x : Int) (h : Ws .u32 w a l.length c l) (hn : l.length ≤ 60) (hs : ShapesLaid w) (hb : ∀ i, i < l.length → 0 ≤ byAt l i ∧ byAt l i < 4294967296) :
    Calls Tryd.prog 17 #[.slice a l.length c, .int .i64 x] w fun e w' => ∃ v, e = .returned v ∧ OwnW .i64 w' w.heap.size 3 v (loopL l x) ∧ Below w.heap.size w w' := by
  obtain ⟨v1, hv1⟩ : ∃ v, hasB l.length (cameB (nxN l) (fun _ => true) (beginN l.length)) x = v := ⟨_, rfl⟩
  have hq0 : Below w.heap.size w (w.alloc (.cells #[.int .i64 x] 3)) := (Below.refl _ _).alloc (Nat.le_refl _) _
  have HRd := Lib.hid (graRead_is (h.keep hq0) hn (hs.below hq0 hs.lt) hb)
  have HQ0 := Lib.hid hq0
  have HX0 := Lib.hid (show BlkAt w.heap.size 3 #[.int .i64 x] (w.alloc (.cells #[.int .i64 x] 3)) from BlkAt.new _ _ _)
  have HV1 := Lib.hid hv1
  have HN := Lib.hid hn
  have hf0 := trip_0
  clear h hs hb hv1 hn hq0
  go_enter Tryd.func17, Tryd.ntmps17
  go_upto_region 3 with (first
    | (go_at_call 25; ((with_reducible refine (HRd.out).mono ?_); rintro e w2 ⟨v, rfl, hv, hq⟩); obtain ⟨a1, m1, c1, a2, c2, rfl, hwa, hwn⟩ := hv.ways; have HWN := Lib.hid hwn; have HWA := Lib.hid hwa; have HQ1 := Lib.hid hq; clear hwn hwa hq hv HRd)
    | (go_at_call 26; ((with_reducible refine (graAll_is HWN.out ((Below.refl _ _).alloc (Nat.le_refl _) _) HN.out).mono ?_); rintro e w3 ⟨v, T, rfl, hv, ht, hq⟩); have HP := Lib.hid ht.came; have HQ3 := Lib.hid hq; clear ht hq; obtain ⟨bc, bf, bo, ov, rfl, hset, hord, hlo⟩ := hv; obtain ⟨ao, co, rfl, -⟩ := hord.wsn (m := T.ord.length) (by simp); rw [HP.out] at hset; have HSET := Lib.hid hset; have HLO := Lib.hid hlo.2.1; clear hset hord hlo))
  obtain ⟨W5, hW5⟩ : ∃ W5, w3.alloc (.cells #[.slice (some ⟨bc, 0, none⟩) (szS l.length) (szS l.length)] 47) = W5 := ⟨_, rfl⟩
  have k2 := (Below.refl w2.heap.size w2).alloc (Nat.le_refl _) (.cells #[.slice a1 m1 c1, .slice a2 (l.length + 1) c2] 51)
  have k5 : Below w3.heap.size w3 W5 := hW5 ▸ (Below.refl _ _).alloc (Nat.le_refl _) _
  have k25 : Below w2.heap.size w2 W5 := k2.trans ((HQ3.out.trans (k5.mono HQ3.out.size)).mono k2.size)
  have k15 := HQ1.out.trans (k25.mono HQ1.out.size)
  have k05 := HQ0.out.trans (k15.mono HQ0.out.size)
  have hx0 := HX0.out.keep k15
  have hx2 : BlkAt w2.heap.size 51 #[.slice a1 m1 c1, .slice a2 (l.length + 1) c2] W5 := (BlkAt.new w2 _ _).keep (HQ3.out.trans (k5.mono HQ3.out.size))
  have hx3 : BlkAt w3.heap.size 47 #[.slice (some ⟨bc, 0, none⟩) (szS l.length) (szS l.length)] W5 := hW5 ▸ BlkAt.new _ _ _
  have hsc := HSET.out.keep k5
  have hwn := HWN.out.keep k25
  have hwa := HWA.out.keep k25
  have hle : w.heap.size ≤ w2.heap.size ∧ w.heap.size ≤ w3.heap.size ∧ w.heap.size ≤ bc := by
    have h1 := HQ0.out.size
    have h2 := HQ1.out.size
    have h3 := HQ3.out.size
    have h4 := HLO.out
    simp only [World.size_alloc] at *
    omega
  rw [hW5]
  generalize w2.heap.size = b5 at *
  generalize w3.heap.size = b6 at *
  have HK05 := Lib.hid k05
  have HX0' := Lib.hid hx0
  have HX2 := Lib.hid hx2
  have HX3 := Lib.hid hx3
  have HSC := Lib.hid hsc
  have HWN5 := Lib.hid hwn
  have HWA5 := Lib.hid hwa
  have HLE := Lib.hid hle
  have x0 := hx0.cell 0
  have x3 := hx3.cell 0
  have y0 := hx2.cell 0
  have y1 := hx2.cell 1
  have hhas := graHas_is hsc HN.out x
  rw [HV1.out] at hhas
  have HHS := Lib.hid hhas
  clear hW5 k2 k5 k25 k15 k05 hx0 hx2 hx3 hsc hwn hwa hle hhas HQ0 HQ1 HQ3 HWN HWA HSET HLO HX0
  cases v1 with
  | false =>
    go_wp2_with (go_at_call 27; ((with_reducible refine (HHS.out).mono ?_); rintro e w6 ⟨rfl, rfl⟩))
    go_ret
    refine ⟨_, rfl, ?_, HK05.out⟩
    unfold loopL
    rw [HV1.out, if_neg (by simp)]
    exact OwnW.nil _ _ _
  | true =>
    go_upto_region 5 with (go_at_call 27; ((with_reducible refine (HHS.out).mono ?_); rintro e w6 ⟨rfl, rfl⟩))
    go_cut [7, 8] (fun s7 s8 wx => LoopR l W5 l.length (cameB (nxN l) (fun p => decide ((p : Int) ≠ x)) (beginN l.length)) s7 s8 wx)
    case first =>
      refine wp_region_free (fun _ => True) [(0, 0, 23, 32), (1, 0, 24, 8), (2, 3, 25, 12582912), (3, 4, 26, 16777216), (4, 0, 27, 32), (5, 20, 28, 67108864), (6, 0, 9, 0), (7, 111, 8, 33554432), (8, 255, 0, 134217984)] 7 [(0, 22), (1, 23), (2, 24), (3, 25), (4, 26), (5, 27), (6, 8)] [(0, []), (1, []), (2, [(0, 22), (1, 23)]), (3, [(2, 24)]), (4, []), (5, [(4, 26)]), (6, [])] [(false, 7, 255), (false, 8, 511)] []
        (fun i v w' => match i with
          | 0 => v = .agg #[.slice a1 m1 c1, .slice a2 (l.length + 1) c2]
          | 1 => v = .int .i64 x
          | 2 => ∃ T', TripV w' W5.heap.size l.length v T' ∧ PureT (fun p => decide ((p : Int) ≠ x)) (nxN l) (beginN l.length) T'
          | 3 => ∃ bp, v = .slice (some ⟨bp, 0, none⟩) (szS l.length) (szS l.length) ∧ SetAt bp l.length (cameB (nxN l) (fun p => decide ((p : Int) ≠ x)) (beginN l.length)) w' ∧ W5.heap.size ≤ bp
          | 4 => v = .agg #[.slice a1 m1 c1, .slice a2 (l.length + 1) c2]
          | 5 => ∃ a m c a' c' N', v = .agg #[.slice a m c, .slice a' (l.length + 1) c'] ∧ WayN w' a m c a' c' l.length N' ∧ (∀ p q, q ∈ N' p ↔ q ∈ backN l p) ∧ I32At a w' ∧ I32At a' w'
          | 6 => ∃ bb, v = .pointer (some ⟨bb, 0, none⟩) ∧ BlkAt bb 51 #[.slice none 0 0, .slice none 0 0] w' ∧ W5.heap.size ≤ bb
          | _ => True) (by kernel_rfl) (by kernel_rfl) (by kernel_rfl) (by kernel_rfl) (by kernel_rfl) (fun _ _ => trivial) ?_ ?_ ?_
      · intro i v w1 w2 h hb
        match i, h with
        | 0, h | 1, h | 4, h => exact h
        | 2, ⟨T, h, h'⟩ => exact ⟨T, h.keep hb, h'⟩
        | 3, ⟨b, e, h, h'⟩ => exact ⟨b, e, h.keep hb, h'⟩
        | 5, ⟨a, m, c, a', c', N', e, h1, h2, h3, h4⟩ => exact ⟨a, m, c, a', c', N', e, h1.keep hb, h2, h3.keep hb, h4.keep hb⟩
        | 6, ⟨b, e, h, h'⟩ => exact ⟨b, e, h.keep hb, h'⟩
        | _ + 7, _ => trivial
      · refine ⟨?_, ?_, ?_, ?_, ?_, ?_, ?_, trivial⟩
        · intro o ho vals w1 hb hd hne
          cases ho
          have g0 := (BlkAt.keep (w := W5.drew) HX2.out hb).cell 0
          have g1 := (BlkAt.keep (w := W5.drew) HX2.out hb).cell 1
          exact .val (v := .agg #[.slice a1 m1 c1, .slice a2 (l.length + 1) c2]) (w' := w1) (by simp [frA, execOp, Act.eval, go_sem, g0, g1]) ⟨rfl, Below.refl _ _, fun q => by simp at q⟩
        · intro o ho vals w1 hb hd hne
          cases ho
          have g0 := (BlkAt.keep (w := W5.drew) HX0'.out hb).cell 0
          exact .val (v := .int .i64 x) (w' := w1) (by simp [frA, execOp, Act.eval, go_sem, g0]) ⟨rfl, Below.refl _ _, fun q => by simp at q⟩
        · intro o ho vals w1 hb hd hne
          cases ho
          have e0 : vals 0 = _ := hd (0, 22) (.head _)
          have e1 : vals 1 = _ := hd (1, 23) (.tail _ (.head _))
          refine .call (f := 29) (vs := #[.agg #[.slice a1 m1 c1, .slice a2 (l.length + 1) c2], .int .i64 x]) (by simp [frA, execOp, Act.put, Act.eval, go_sem, e0, e1]) ((graPast_is (w := w1) HWN5.out ((Below.refl W5.heap.size W5).drew.trans hb) HN.out).mono ?_)
          rintro e w' ⟨v, T', rfl, h1, h2, hq⟩
          exact ⟨_, rfl, ⟨T', h1.mono (show W5.heap.size ≤ w1.heap.size from hb.size), h2⟩, hq, fun q => by simp at q⟩
        · intro o ho vals w1 hb hd hne
          cases ho
          obtain ⟨T', h1, h2⟩ := hd (2, 24) (.head _)
          have hc := h2.came
          obtain ⟨bp, bf', bo', ov', e2, hset, hord, -, hlo, -⟩ := h1
          obtain ⟨ao', co', rfl, -⟩ := hord.wsn (m := T'.ord.length) (by simp)
          simp only at e2
          rw [hc] at hset
          exact .val (v := .slice (some ⟨bp, 0, none⟩) (szS l.length) (szS l.length)) (w' := w1) (by simp [frA, execOp, Act.put, Act.eval, go_sem, e2, hf0]) ⟨⟨bp, rfl, hset, hlo⟩, Below.refl _ _, fun q => by simp at q⟩
        · intro o ho vals w1 hb hd hne
          cases ho
          have g0 := (BlkAt.keep (w := W5.drew) HX2.out hb).cell 0
          have g1 := (BlkAt.keep (w := W5.drew) HX2.out hb).cell 1
          exact .val (v := .agg #[.slice a1 m1 c1, .slice a2 (l.length + 1) c2]) (w' := w1) (by simp [frA, execOp, Act.eval, go_sem, g0, g1]) ⟨rfl, Below.refl _ _, fun q => by simp at q⟩
        · intro o ho vals w1 hb hd hne
          cases ho
          have e0 : vals 4 = _ := hd (4, 26) (.head _)
          have hwa := HWA5.out.keep ((Below.refl W5.heap.size W5).drew.trans hb)
          have hm := hwa.tos.len
          have hfl := wayL_flat l l.length
          have hn9 := HN.out
          refine .call (f := 34) (vs := #[.agg #[.slice a1 m1 c1, .slice a2 (l.length + 1) c2]]) (by simp [frA, execOp, Act.put, Act.eval, go_sem, e0]) ((graTurned_is (w := w1) hwa HN.out (by omega) (fun z hz => by
            obtain ⟨r, hr, hz⟩ := List.mem_flatten.1 hz
            obtain ⟨p, -, rfl⟩ := List.mem_map.1 hr
            exact nxl_in hz)).mono ?_)
          rintro e w' ⟨v, rfl, ⟨a, m, c, a', n1, c', L', rfl, g1, g2, g3, g4, g5, g6⟩, hq⟩
          obtain ⟨rfl, N', g7, g8⟩ := turned_ways g1 g2 g3 g4 g5
          exact ⟨_, rfl, ⟨a, m, c, a', c', N', rfl, g7, g8, g5, g6⟩, hq, fun q => by simp at q⟩
        · intro o ho vals w1 hb hd hne
          cases ho
          exact .val (v := .pointer (some ⟨w1.heap.size, 0, none⟩)) (by simp [execOp, go_sem]) ⟨⟨_, rfl, BlkAt.new _ _ _, hb.size⟩, (Below.refl _ _).alloc (Nat.le_refl _) _, fun q => by simp at q⟩
      · intro vals ax w1 hI
        have e := hI.frame (by kernel_rfl) (by kernel_rfl)
        subst e
        have e0 : vals 0 = _ := hI.psi 0 (by omega) (by decide)
        have e1 : vals 1 = _ := hI.psi 1 (by omega) (by decide)
        have e4 : vals 4 = _ := hI.psi 4 (by omega) (by decide)
        obtain ⟨bp, e3, h31, h32⟩ := hI.psi 3 (by omega) (by decide)
        obtain ⟨a3, m3, c3, a4, c4, N', e5, h51, h52, h53, h54⟩ := hI.psi 5 (by omega) (by decide)
        obtain ⟨bb, e6, h61, h62⟩ := hI.psi 6 (by omega) (by decide)
        have HI := Lib.hid hI
        generalize vals 2 = v2 at *
        have f0 := h61.free 0
        have f1 := h61.free 1
        have g0 := h61.cell 0
        have g1 := h61.cell 1
        have HH := Lib.hid (And.intro h31 (And.intro h32 (And.intro h51 (And.intro h52 (And.intro h53 (And.intro h54 (And.intro h61 h62)))))))
        clear h31 h32 h51 h52 h53 h54 h61 h62
        refine SeqH.step rfl rfl fun K hK => ?_
        simp only [frA, List.foldl, e0, e1, e3, e4, e5, e6]
        go_simp
        refine hK _ _ trivial ?_
        refine SeqH.step rfl rfl fun K hK => ?_
        go_simp
        refine hK _ _ trivial (SeqH.done (NoPanic.normal ?_))
        go_wp2_with fail
        go_meet
        obtain ⟨h31, h32, h51, h52, h53, h54, h61, h62⟩ := HH.out
        obtain ⟨cs, hs⟩ := h31.type
        have hb0 : Below W5.heap.size W5 w1 := (Below.refl _ _).drew.trans HI.out.below
        have hk2 : Keeps (fun j => j = bb) w1 ((w1.setCell ⟨bb, 0, none⟩ (.slice a3 m3 c3)).setCell ⟨bb, 1, none⟩ (.slice a4 (l.length + 1) c4)) := (Keeps.set1 _ _ _ _).trans (Keeps.set1 _ _ _ _)
        exact ⟨bp, bb, a3, m3, c3, a4, c4, N', rfl, rfl, h31.kept hk2 (fun e => by subst e; exact absurd (BlkAt.type_eq hs h61) (by decide)), ((h61.set 0 _).set 1 _).eq rfl, h51.kept hk2 (h53.ne h61 (by decide)) (h54.ne h61 (by decide)), h52, h32, h62, hk2.below hb0 hb0.size fun j e => by subst e; exact h62⟩
    case rest =>
      obtain ⟨bp, bb, a3, m3, c3, a4, c4, N', rfl, rfl, hP, hbb, hWN, hNm, l1, l2, hB⟩ := hcut
      obtain ⟨h, rfl, hh, hF⟩ := hasB_some HV1.out
      have HX := Lib.hid (HX0'.out.keep hB)
      have HS := Lib.hid (HX3.out.keep hB)
      have HSC2 := Lib.hid (HSC.out.keep hB)
      have HBc := Lib.hid (HK05.out.trans (hB.mono HK05.out.size))
      have HPS := Lib.hid hP
      have HBB := Lib.hid hbb
      have HWNc := Lib.hid hWN
      have HNM := Lib.hid hNm
      have x0 := HX.out.cell 0
      have x6 := HS.out.cell 0
      have y0 := hbb.cell 0
      have y1 := hbb.cell 1
      obtain ⟨L, hL1, hL2, hL3⟩ := hWN.ex
      have hn := HN.out
      have hO := graOf_is (w := wc) hL1 (Below.refl _ _) (by rw [hL2]; omega) (p := h) (by omega)
      rw [hL3 h hh] at hO
      have HO := Lib.hid hO
      have HL := Lib.hid (And.intro hL1 (And.intro hL2 hL3))
      have HHH := Lib.hid hh
      clear hP hbb hWN hNm l1 l2 hB hL1 hL2 hL3 hO hF HX0' HX2 HX3 HSC HWN5 HWA5 HHS hn hh
      go_wp2_with (go_at_call 32; ((with_reducible refine HO.out.mono ?_); rintro e w6 ⟨b, k, d, rfl, hw6, -, hq⟩); have HW6 := Lib.hid (hw6.keep hq); have HQ6 := Lib.hid hq; clear hw6 hq)
      have hkl := HW6.out.len
      rw [List.length_map] at hkl
      have hk200 : k ≤ 200 := by have := HWNc.out.few h; omega
      have hk' : (k : Int) ≤ 200 := by omega
      have HKL := Lib.hid hkl
      clear x0 x6 y0 y1 hkl
      go_loopw [32, 9, 11] (fun i v _ wr => ∃ j : Nat, j ≤ k ∧ i = .int .i64 j ∧ OwnW .i32 wr w6.heap.size 21 v ((((N' h).take j).filter (lastB l h)).map Int.ofNat) ∧ Below w6.heap.size w6 wr) (fun i _ _ _ => k - (intOf i).toNat)
      case atStart => exact ⟨0, by omega, rfl, OwnW.nil _ _ _, Below.refl _ _⟩
      case round =>
        obtain ⟨j, hj, rfl, hA, hK⟩ := hrel
        have HA := Lib.hid hA
        have HK := Lib.hid hK
        have HK6 := Lib.hid (HQ6.out.trans (hK.mono HQ6.out.size))
        by_cases hlt : j < k
        · have hlt' : (j : Int) < k := by omega
          obtain ⟨g, off, rfl, hc⟩ := (HW6.out.keep hK).lie (by omega)
          have c0 := hc j hlt
          have hjl : j < (N' h).length := by rw [HKL.out]; exact hlt
          obtain ⟨q, hq⟩ : ∃ q, (N' h)[j] = q := ⟨_, rfl⟩
          have hbq : byAt ((N' h).map Int.ofNat) j = (q : Int) := by
            rw [← byAt_eq (by rw [List.length_map]; exact hjl), List.getElem_map, hq]; rfl
          rw [hbq] at c0
          have hqn := HWNc.out.ins h q (by rw [← hq]; exact List.getElem_mem _)
          have hn := HN.out
          have hw : IntKind.i64.wrap (q : Int) = (q : Int) := IntWalk.i64_in _ (by omega)
          have x6 := (HS.out.keep HK6.out).cell 0
          have hh1 := graHas_is (HSC2.out.keep HK6.out) HN.out q
          rw [hasB_nat _ hqn] at hh1
          have hh2 := graHas_is (HPS.out.keep HK6.out) HN.out q
          rw [hasB_nat _ hqn] at hh2
          have hta : ((N' h).take (j + 1)).filter (lastB l h) = ((N' h).take j).filter (lastB l h) ++ if lastB l h q = true then [q] else [] := by
            rw [List.take_succ_eq_append_getElem hjl, List.filter_append, hq]
            congr 1
            by_cases e : lastB l h q = true <;> simp [e]
          have hlen : (((N' h).take j).filter (lastB l h)).length ≤ 200 := Nat.le_trans (List.length_filter_le _ _) (by rw [List.length_take]; omega)
          have HLEN := Lib.hid hlen
          obtain ⟨v1, e1⟩ : ∃ v, cameB (nxN l) (fun _ => true) (beginN l.length) q = v := ⟨_, rfl⟩
          obtain ⟨v2, e2⟩ : ∃ v, cameB (nxN l) (fun p => decide ((p : Int) ≠ h)) (beginN l.length) q = v := ⟨_, rfl⟩
          have hl : lastB l h q = (v1 && !v2) := by unfold lastB; rw [e1, e2]
          rw [hl] at hta
          rw [e1] at hh1
          rw [e2] at hh2
          have HH1 := Lib.hid hh1
          have HH2 := Lib.hid hh2
          have HTA := Lib.hid hta
          clear hA hK hc hlt hq hbq hqn hn hh1 hh2 hta e1 e2 hl hlen
          cases v1 with
          | false =>
            go_wp2_with (first
              | (go_at_call 27; ((with_reducible refine (HH1.out).mono ?_); rintro e w7 ⟨rfl, rfl⟩)))
            go_roundw
            case rel => exact ⟨j + 1, by omega, by go_num, by rw [HTA.out]; simpa using HA.out, HK.out⟩
            case measure => simp [intOf]; omega
          | true =>
            cases v2 with
            | true =>
              go_wp2_with (first
                | (go_at_call 27; ((with_reducible refine (HH1.out).mono ?_); rintro e w7 ⟨rfl, rfl⟩))
                | (go_at_call 27; ((with_reducible refine (HH2.out).mono ?_); rintro e w7 ⟨rfl, rfl⟩)))
              go_roundw
              case rel => exact ⟨j + 1, by omega, by go_num, by rw [HTA.out]; simpa using HA.out, HK.out⟩
              case measure => simp [intOf]; omega
            | false =>
              obtain ⟨i0, hi, hz0, hz1, hz2⟩ := info_parts infoI32
              have HIO := Lib.hid (And.intro hi (And.intro hz0 (And.intro hz1 hz2)))
              clear hi hz0 hz1 hz2
              have hsr := HK.out.size
              have HSR := Lib.hid hsr
              clear hsr
              go_wp2_with (first
                | (go_at_call 27; ((with_reducible refine (HH1.out).mono ?_); rintro e w7 ⟨rfl, rfl⟩))
                | (go_at_call 27; ((with_reducible refine (HH2.out).mono ?_); rintro e w7 ⟨rfl, rfl⟩))
                | (at_builtin; refine wpList_append_1 rfl _ _ 38 rfl w6.heap.size 21 i0 (.int .i32 0) Tryd.underlying38 HIO.out.1 HIO.out.2.1 HIO.out.2.2.1 (by have := HIO.out.2.2.2; omega) rfl rfl (HA.out.keep ((Below.refl _ _).alloc (Nat.le_refl _) _)) rfl ((BlkAt.new _ _ _).cell 0) (by have := HLEN.out; rw [List.length_map]; omega) (by have := HSR.out; simp; omega) ?_; intro v' w' hown hgr hnx; have HOWN := Lib.hid hown; have HGR := Lib.hid hgr; clear hown hgr hnx))
              go_roundw
              case rel =>
                have k1 : Below w6.heap.size wr w' := ((Below.refl _ _).alloc HSR.out _).grown HGR.out (by have := HSR.out; simp; omega) fun k e => (HA.out.lt k e).1
                refine ⟨j + 1, by omega, by go_num, ?_, HK.out.trans k1⟩
                rw [HTA.out, List.map_append]
                exact HOWN.out
              case measure => simp [intOf]; omega
        · obtain rfl : j = k := by omega
          obtain ⟨Z, hZ⟩ : ∃ Z, (N' h).filter (lastB l h) = Z := ⟨_, rfl⟩
          rw [List.take_of_length_le (by rw [HKL.out]; omega), hZ] at hA
          have hZm : ∀ p, p ∈ Z ↔ p ∈ lastN l h := fun p => by
            rw [← hZ]
            unfold lastN
            rw [List.mem_filter, List.mem_filter, HNM.out h p, Int.toNat_natCast]
          have hZl : Z.length ≤ 200 := by rw [← hZ]; exact Nat.le_trans (List.length_filter_le _ _) (HWNc.out.few h)
          have HZM := Lib.hid hZm
          have HZL := Lib.hid hZl
          have HZI := Lib.hid (show ∀ x ∈ Z, x < l.length from fun x hx => by
            rw [← hZ, List.mem_filter] at hx
            exact HWNc.out.ins h x hx.1)
          obtain ⟨mz, hmz⟩ : ∃ m, Z.length = m := ⟨_, rfl⟩
          obtain ⟨ao, co, rfl, hws⟩ := hA.wsn (m := mz) (by rw [List.length_map, hmz])
          have HAO := Lib.hid hA
          have HWS := Lib.hid hws
          have HMZ := Lib.hid hmz
          clear hA hK hlt hZ hZm hZl hws hmz HA
          by_cases hz : mz = 0
          · subst hz
            go_wp2_with fail
            go_ret
            refine ⟨_, rfl, ?_, (HBc.out.trans (HK6.out.mono HBc.out.size))⟩
            have hnil : lastN l h = [] := by
              have h0 := List.eq_nil_of_length_eq_zero HMZ.out
              apply List.eq_nil_iff_forall_not_mem.2
              intro p hp
              have := (HZM.out p).2 hp
              rw [h0] at this
              cases this
            unfold loopL
            rw [if_neg (by rw [hnil]; simp)]
            exact OwnW.nil _ _ _
          · have hz' : ¬ (mz : Int) = 0 := by omega
            have hx := HX.out.keep HK6.out
            have hs := HS.out.keep HK6.out
            have hsc := HSC2.out.keep HK6.out
            have hbb := HBB.out.keep HK6.out
            have x0 := hx.cell 0
            have y0 := hbb.cell 0
            have y1 := hbb.cell 1
            have hW := graWalk_is (w0 := wc) (w := wr) (mayLoop (n := l.length) (B := wr.heap.size) (q := (h : Int)) HN.out hx.lt hs.lt hsc.lt) HL.out.1 HK6.out HL.out.2.1 HL.out.2.2 HWNc.out.ins HWNc.out.few HN.out (fun _ h => h.elim) HWNc.out.lt HWS.out (fun b' off q => ⟨id, by
              subst q
              exact (HAO.out.lt b' (by simp [Value.ownBlock])).2⟩) HZI.out (by have := HZL.out; omega) (s := ()) ⟨hx, hs, hsc⟩
            have HW := Lib.hid hW
            have HXr := Lib.hid hx
            have hf0 := trip_0
            clear hx hs hsc hbb hW
            go_wp2_with (first
              | (go_at_call 35; ((with_reducible refine HW.out.mono ?_); rintro e w7 ⟨v, s', T, rfl, hv, hst, hgo, hJ, hKp⟩); have HP7 := Lib.hid (PureT.came (mv := fun p => decide ((p : Int) ≠ h) && cameB (nxN l) (fun _ => true) (beginN l.length) p) (N := N') (l := Z) ⟨hst, hgo⟩); have HQ7 := Lib.hid hKp.nought; have x07 := (HXr.out.keep hKp.nought).cell 0; clear hst hgo hJ hKp; obtain ⟨bc7, bf7, bo7, ov7, rfl, hset, hord, hfr, hlo, -⟩ := hv; obtain ⟨ao7, co7, rfl, -⟩ := hord.wsn (m := T.ord.length) (by simp); rw [HP7.out] at hset; have HSET := Lib.hid hset; have HLO := Lib.hid hlo; clear hset hord hfr hlo)
              | (go_at_call 37; ((with_reducible refine (graAdd_is HSET.out HN.out h HHH.out).mono ?_); rintro e w8 ⟨rfl, hset8, hk8⟩); have HSET8 := Lib.hid hset8; have HK8 := Lib.hid hk8; clear hset8 hk8)
              | (go_at_call 31; ((with_reducible refine (graPlaces_is HSET8.out HN.out).mono ?_); rintro e w9 ⟨v9, rfl, hv9, hq9⟩); have HV9 := Lib.hid hv9; have HQ9 := Lib.hid hq9; clear hv9 hq9))
            go_ret
            have s1 := HBc.out.size
            have s2 := HK6.out.size
            have s3 := HQ7.out.size
            have s4 := HK8.out.size
            have s5 := HLO.out
            have k7 : Below w.heap.size w w7 := (HBc.out.trans (HK6.out.mono s1)).trans (HQ7.out.mono (by omega))
            have k8 : Below w.heap.size w w8 := HK8.out.below k7 (by omega) fun j e => by omega
            refine ⟨_, rfl, ?_, k8.trans (HQ9.out.mono (by omega))⟩
            have hne : lastN l h ≠ [] := fun e => hz (by
              have h0 : Z = [] := List.eq_nil_iff_forall_not_mem.2 fun p hp => by
                have := (HZM.out p).1 hp
                rw [e] at this
                cases this
              rw [← HMZ.out, h0]; rfl)
            unfold loopL
            rw [if_pos ⟨HV1.out, hne⟩]
            have e9 : loopF l h = upn (cameB N' (fun p => decide ((p : Int) ≠ h) && cameB (nxN l) (fun _ => true) (beginN l.length) p) Z) h true := by
              unfold loopF
              rw [Int.toNat_natCast, cameB_congr HNM.out HZM.out]
            rw [e9]
            exact HV9.out.mono (by omega)
end Go.Proofs.YtggiaopdgijgnaaDoor
