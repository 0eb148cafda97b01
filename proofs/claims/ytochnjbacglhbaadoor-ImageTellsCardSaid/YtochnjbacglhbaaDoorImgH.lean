/- The document's own images (astrolaberef22): Get of sealed bytes. -/
import Derived.Test.YtochnjbacglhbaaDoorImgU
namespace Go.Proofs.YtochnjbacglhbaaDoor
open Go.RowKit Go.IntWalk

theorem RdAt.errs {B R : Nat} {W : World} {l : List Int} {e : Int} (h : RdAt B W R l e) (y : Int) : W.frozen? ⟨R, 1, none⟩ = false ∧ W.cell? ⟨R, 1, none⟩ = some (.int .i64 e) ∧ RdTo B W R l y (W.setCell ⟨R, 1, none⟩ (.int .i64 y)) := by
  obtain ⟨a, n, c, hb, hB, hn⟩ := h.ex
  have lo := h.low
  refine ⟨hb.free 1, hb.cell 1, ⟨⟨a, n, c, (hb.set 1 _).eq rfl, hB.on ?_, hn⟩, lo⟩, OnlyB.set _ _ _ _⟩
  intro b off e hlt
  exact (OnlyB.set R 1 W _).block b (by have := hn b off e; omega) hlt
theorem GtAt.done {V W w : World} {R M Q B0 : Nat} {s : Rs} {m : Img} {a0 a1 a2 a3 a4 : Option Addr} {n0 n1 n2 n3 n4 c0 c1 c2 c3 c4 : Nat} (h : GtAt V W R M s (.slice a0 n0 c0) (.slice a1 n1 c1) (.slice a2 n2 c2) (.slice a3 n3 c3) (.slice a4 n4 c4) m) (hb : BlkAt Q 27 #[.slice none 0 0, .slice none 0 0, .slice none 0 0, .slice none 0 0, .slice none 0 0] W) (hk : Below B0 w W) (hB : B0 ≤ Q) :
    ImIn Q (.slice a0 n0 c0) (.slice a1 n1 c1) (.slice a2 n2 c2) (.slice a3 n3 c3) (.slice a4 n4 c4) B0 w (((((W.setCell ⟨Q, 0, none⟩ (.slice a0 n0 c0)).setCell ⟨Q, 1, none⟩ (.slice a1 n1 c1)).setCell ⟨Q, 2, none⟩ (.slice a2 n2 c2)).setCell ⟨Q, 3, none⟩ (.slice a3 n3 c3)).setCell ⟨Q, 4, none⟩ (.slice a4 n4 c4)) ∧
    ImgAt (((((W.setCell ⟨Q, 0, none⟩ (.slice a0 n0 c0)).setCell ⟨Q, 1, none⟩ (.slice a1 n1 c1)).setCell ⟨Q, 2, none⟩ (.slice a2 n2 c2)).setCell ⟨Q, 3, none⟩ (.slice a3 n3 c3)).setCell ⟨Q, 4, none⟩ (.slice a4 n4 c4)) a0 n0 c0 a1 n1 c1 a2 n2 c2 a3 n3 c3 a4 n4 c4 m := by
  have k : ∀ {size n : Nat} {T : TypeId} {v : Value} {xs : List Value}, W.ownsRow V.heap.size T size v n xs → 27 ≠ T → (((((W.setCell ⟨Q, 0, none⟩ (.slice a0 n0 c0)).setCell ⟨Q, 1, none⟩ (.slice a1 n1 c1)).setCell ⟨Q, 2, none⟩ (.slice a2 n2 c2)).setCell ⟨Q, 3, none⟩ (.slice a3 n3 c3)).setCell ⟨Q, 4, none⟩ (.slice a4 n4 c4)).ownsRow V.heap.size T size v n xs :=
    fun o hT => own_setM (own_setM (own_setM (own_setM (own_setM o hb hT) (hb.set 0 _) hT) ((hb.set 0 _).set 1 _) hT) (((hb.set 0 _).set 1 _).set 2 _) hT) ((((hb.set 0 _).set 1 _).set 2 _).set 3 _) hT
  exact ⟨im_put hb hk hB _ _ _ _ _, ws_of (k h.r0 (by decide)), ws_of (k h.r1 (by decide)), els_of (k h.r2 (by decide)), ws_of (k h.r3 (by decide)), ws_of (k h.r4 (by decide))⟩
section
variable {w : World} {a : Option Addr} {n c : Nat} {l : List Int}
set_option maxRecDepth 100000 in
set_option maxHeartbeats 4000000 in
theorem refGet22_ok {o : List Int} (hB : By w a n c l) (hn : n ≤ 140737488355000) (he : openOf l = (o, 0)) (hob : Bd8 o) : Calls Tryd.prog 11 #[.slice a n c] w fun e w' => (errS o ≠ 0 ∧ e = .returned (.tuple #[.agg #[.slice none 0 0, .slice none 0 0, .slice none 0 0, .slice none 0 0, .slice none 0 0], .int .i64 (errS o)]) ∧ Below w.heap.size w w') ∨
    (errS o = 0 ∧ ∃ a0 n0 c0 a1 n1 c1 a2 n2 c2 a3 n3 c3 a4 n4 c4, e = .returned (.tuple #[.agg #[.slice a0 n0 c0, .slice a1 n1 c1, .slice a2 n2 c2, .slice a3 n3 c3, .slice a4 n4 c4], .int .i64 0]) ∧ ImgAt w' a0 n0 c0 a1 n1 c1 a2 n2 c2 a3 n3 c3 a4 n4 c4 (imgS o) ∧ Below w.heap.size w w') := by
  obtain ⟨i0, hi, hz0, hz1, hz2⟩ := info_parts infoU32G
  obtain ⟨i2, hi2, hz20, hz21, hz22⟩ := info_parts infoI32N
  obtain ⟨i3, hi3, hz30, hz31, hz32⟩ := info_parts infoBoolN
  obtain ⟨i4, hi4, hz40, hz41, hz42⟩ := info_parts infoIntG
  have al := (Below.refl w.heap.size w).alloc (Nat.le_refl _) (.cells #[.slice none 0 0, .slice none 0 0, .slice none 0 0, .slice none 0 0, .slice none 0 0] 27)
  have AL := Lib.hid al
  have K := Lib.hid (fun W (k : Below w.heap.size w W) => refCrcOpen_is a n c l W (hB.keep k (Nat.le_refl _)) hn)
  rw [he] at K
  have bz := BlkAt.new w 27 #[.slice none 0 0, .slice none 0 0, .slice none 0 0, .slice none 0 0, .slice none 0 0]
  clear al he hB
  go_enter Tryd.func11, Tryd.ntmps11
  go_upto_region 6 with (go_at_call 21; ((with_reducible refine (K.out _ AL.out).mono ?_); rintro e w1 ⟨v1, rfl, ho, hb⟩); obtain ⟨a1, c1, rfl, hB1⟩ := ho.by hob)
  have LT : ∀ b off, a1 = some ⟨b, off, none⟩ → b < w1.heap.size := fun b off e => by subst e; exact (ho.lt b rfl).2
  have G := GtAt.new w1 hB1 LT
  have BQ := Lib.hid (bz.keep hb)
  have BB := Lib.hid (AL.out.trans (hb.mono AL.out.size))
  clear bz hb ho hB1 LT K AL
  generalize (w1.alloc (.cells #[.slice a1 o.length c1, .int .i64 0] 47)).alloc (.cells #[.slice none 0 0, .slice none 0 0, .slice none 0 0, .slice none 0 0, .slice none 0 0] 27) = W0 at *
  obtain ⟨M, hM⟩ : ∃ M, w1.heap.size + 1 = M := ⟨_, rfl⟩
  obtain ⟨R, hR⟩ : ∃ R, w1.heap.size = R := ⟨_, rfl⟩
  rw [hM] at G
  simp only [hM]
  rw [show @GtAt w1 W0 w1.heap.size = GtAt w1 W0 R by rw [hR]] at G
  simp only [hR]
  clear hM hR
  go_upto_region 7 with (first
    | (go_at_call 23; ((with_reducible refine (num_is (k := 4) G.rd (by omega) (by omega) (by omega)).mono ?_); rintro e w2 ⟨rfl, t⟩); have G2 : GtAt w1 w2 R M (numS 4 (o, 0)).2 (.slice none 0 0) (.slice none 0 0) (.slice none 0 0) (.slice none 0 0) (.slice none 0 0) img0 := G.read t; clear t)
    | (go_at_call 22; ((with_reducible refine (must_is G2.rd).mono ?_); rintro e w3 ⟨rfl, t⟩); have G3 : GtAt w1 w3 R M (s1 o) (.slice none 0 0) (.slice none 0 0) (.slice none 0 0) (.slice none 0 0) (.slice none 0 0) img0 := G2.read t; clear t)
    | fail)
  go_cut [7] (fun s7 wx => s7 = .int .i64 (s2 o).1 ∧ GtAt w1 wx R M (s2 o).2 (.slice none 0 0) (.slice none 0 0) (.slice none 0 0) (.slice none 0 0) (.slice none 0 0) img0)
  case first =>
    go_wp2_with (go_at_call 23; ((with_reducible refine (num_is (k := 2) G3.rd (by omega) (by omega) (by omega)).mono ?_); rintro e w4 ⟨rfl, t⟩); have G4 : GtAt w1 w4 R M (s2 o).2 (.slice none 0 0) (.slice none 0 0) (.slice none 0 0) (.slice none 0 0) (.slice none 0 0) img0 := G3.read t; clear t)
    go_meet
    exact ⟨rfl, G4⟩
  case rest =>
    obtain ⟨rfl, G4⟩ := hcut
    refine (‹∀ (a : Act) (w : World), Code.wp Tryd.prog _ _ a w → _› : ∀ (a : Act) (w : World), _) _ _ ?_
    go_cut [] (fun wx => ∃ v0, GtAt w1 wx R M (s3 o).2 v0 (.slice none 0 0) (.slice none 0 0) (.slice none 0 0) (.slice none 0 0) ⟨(s3 o).1, [], [], [], []⟩)
    case first =>
      obtain ⟨nb0, nb1⟩ := numS_bd (k := 2) (s := s1 o) G3.rd.bd
      have nb0 : 0 ≤ (s2 o).1 := nb0
      have nb1 : (s2 o).1 < 65536 := nb1
      go_wp2
      go_loopw [7] (fun i wr => ∃ (j : Nat) (s' : Rs) (acc : List Int) (v0 : Value), i = .int .i64 (j : Int) ∧ GtAt w1 wr R M s' v0 (.slice none 0 0) (.slice none 0 0) (.slice none 0 0) (.slice none 0 0) ⟨acc, [], [], [], []⟩ ∧ numsS 4 j s' acc = s3 o ∧ acc.length + j < 65536) (fun i _ => (intOf i).toNat)
      case atStart => exact ⟨(s2 o).1.toNat, (s2 o).2, [], _, by rw [Int.toNat_of_nonneg nb0], G4, rfl, by simp; omega⟩
      case round =>
        clear G4
        obtain ⟨j, s', acc, v0, rfl, G, hs, hl⟩ := hrel
        obtain ⟨ra, rn, rc, rb, -⟩ := G.rd.ex
        have c1' := rb.cell 1
        clear rb
        by_cases hj : 0 < j ∧ s'.2 = 0
        · obtain ⟨hj, h0⟩ := hj
          obtain ⟨t, rfl⟩ : ∃ t, j = t + 1 := ⟨j - 1, by omega⟩
          have hj' : (0 : Int) < ((t + 1 : Nat) : Int) := by omega
          rw [h0] at c1'
          have hs' := hs
          unfold numsS at hs'
          rw [if_neg (by simpa using h0)] at hs'
          have HS := Lib.hid hs'
          obtain ⟨av, cv, rfl, -⟩ := G.r0.ws
          have HG := Lib.hid G
          have hacc : acc.length ≤ 65535 := by omega
          clear hs hs'
          go_upto_region 10 with (fail)
          have HD := Lib.hid (G.keep (W' := wr.drew) (Below.refl _ _).drew)
          have cd := HD.out.blk.cell 0
          obtain ⟨nx0, nx1⟩ := numS_bd (k := 4) HD.out.rd.bd
          have nx1 : (numS 4 s').1 < 4294967296 := nx1
          clear G c1'
          go_region_law (first
            | (go_simp; go_at_call 23; go_loud ((with_reducible refine (num_is (k := 4) HD.out.rd (by omega) (by omega) (by omega)).mono ?_); rintro e w5 ⟨rfl, t⟩); have G5 := HD.out.read t; have H5 := Lib.hid G5; have c5 := G5.blk.cell 0; have c8 := (fun o => ((G5.blk.keep ((Below.refl w5.heap.size w5).alloc (Nat.le_refl _) o)).cell 0)); have HALL := Lib.hid (fun o => G5.r0.keep ((Below.refl w5.heap.size w5).alloc (Nat.le_refl _) o)); have hsz5 := G5.bel.size; clear t G5)
            | (refine step_append_n rfl _ _ 22 rfl w1.heap.size 43 i0 (.int .u32 0) Tryd.underlying22 hi hz0 hz1 (by omega) rfl rfl (HALL.out _) rfl ((BlkAt.newb _ _ _ rfl).cell 0) (by show acc.length + 1 ≤ _; omega) (by simp; omega) ?_; intro v' w6 hown hgr hnx; obtain ⟨a6, c6, rfl, -⟩ := hown.wsn (m := acc.length + 1) (by simp); have hbk := ((H5.out.blk).keep ((Below.refl w5.heap.size w5).alloc (Nat.le_refl _) _)).kept (Keeps.of_grown (F := fun j => (Value.slice av acc.length cv).ownBlock = some j) hgr fun _ q => q) (own_off_type H5.out.r0 H5.out.blk (by decide)); have q1 := hbk.cell 0; have q2 := hbk.free 0; have HC := Lib.hid ((H5.out.keep ((Below.refl w5.heap.size w5).alloc (Nat.le_refl _) _)).code hown hgr); clear hown hgr hnx hbk))
          all_goals
            go_wp2
            have hc := HC.out
            rw [wrap_u32, Int.emod_eq_of_lt nx0 nx1] at hc
            exact ⟨⟨t, (numS 4 s').2, acc ++ [(numS 4 s').1], _, rfl, hc, HS.out, by rw [List.length_append]; show acc.length + 1 + t < 65536; omega⟩, by simp [intOf]⟩
        · have hx : s3 o = (acc, s') := by
            rw [← hs]
            by_cases h0 : s'.2 = 0
            · obtain rfl : j = 0 := by
                by_cases q : 0 < j
                · exact absurd ⟨q, h0⟩ hj
                · omega
              rfl
            · exact numsS_bad h0
          have hcond : (decide ((0 : Int) < (j : Int)) && (s'.2 == 0)) = false := by
            by_cases h0 : s'.2 = 0
            · have : ¬ ((0 : Int) < (j : Int)) := fun q => hj ⟨by omega, h0⟩
              rw [decide_eq_false this]; rfl
            · simp [h0]
          obtain rfl : acc = (s3 o).1 := by rw [hx]
          obtain rfl : s' = (s3 o).2 := by rw [hx]
          have HL3 := Lib.hid (show (s3 o).1.length < 65536 by omega)
          clear hx hs hj hl
          go_wp2
          all_goals first
            | (go_meet; exact ⟨_, G⟩)
            | (exfalso; simp [*] at hcond; done)
            | (exfalso; simp [*] at hcond; omega)
    case rest =>
      obtain ⟨v0, G⟩ := hcut
      clear G2 G3 G4
      refine (‹∀ (a : Act) (w : World), Code.wp Tryd.prog _ _ a w → _› : ∀ (a : Act) (w : World), _) _ _ ?_
      go_upto_region 11 with (fail)
      go_cut [8] (fun s8 wx => s8 = .int .i64 (s4 o).1 ∧ GtAt w1 wx R M (s4 o).2 v0 (.slice none 0 0) (.slice none 0 0) (.slice none 0 0) (.slice none 0 0) ⟨(s3 o).1, [], [], [], []⟩)
      case first =>
        go_wp2_with (go_at_call 23; ((with_reducible refine (num_is (k := 2) G.rd (by omega) (by omega) (by omega)).mono ?_); rintro e w4 ⟨rfl, t⟩); have G4 : GtAt w1 w4 R M (s4 o).2 v0 (.slice none 0 0) (.slice none 0 0) (.slice none 0 0) (.slice none 0 0) ⟨(s3 o).1, [], [], [], []⟩ := G.read t; clear t)
        go_meet
        exact ⟨rfl, G4⟩
      case rest =>
        obtain ⟨rfl, G4⟩ := hcut
        obtain ⟨nb0, nb1⟩ := numS_bd (k := 2) (s := (s3 o).2) G.rd.bd
        have nb0 : 0 ≤ (s4 o).1 := nb0
        have nb1 : (s4 o).1 < 65536 := nb1
        clear G
        refine (‹∀ (a : Act) (w : World), Code.wp Tryd.prog _ _ a w → _› : ∀ (a : Act) (w : World), _) _ _ ?_
        go_cut [] (fun wx => ∃ v1 v2, GtAt w1 wx R M (s5 o).2 v0 v1 v2 (.slice none 0 0) (.slice none 0 0) ⟨(s3 o).1, (s5 o).1.map (·.1), (s5 o).1.map (·.2), [], []⟩)
        case first =>
          go_wp2
          go_loopw [8] (fun i wr => ∃ (j : Nat) (s' : Rs) (acc : List (Int × Bool)) (v1 v2 : Value), i = .int .i64 (j : Int) ∧ GtAt w1 wr R M s' v0 v1 v2 (.slice none 0 0) (.slice none 0 0) ⟨(s3 o).1, acc.map (·.1), acc.map (·.2), [], []⟩ ∧ dataS j s' acc = s5 o ∧ acc.length + j < 65536) (fun i _ => (intOf i).toNat)
          case atStart => exact ⟨(s4 o).1.toNat, (s4 o).2, [], _, _, by rw [Int.toNat_of_nonneg nb0], G4, rfl, by simp; omega⟩
          case round =>
            clear G4
            obtain ⟨j, s', acc, v1, v2, rfl, G, hs, hl⟩ := hrel
            obtain ⟨ra, rn, rc, rb, -⟩ := G.rd.ex
            have c1' := rb.cell 1
            clear rb
            by_cases hj : 0 < j ∧ s'.2 = 0
            · obtain ⟨hj, h0⟩ := hj
              obtain ⟨t, rfl⟩ : ∃ t, j = t + 1 := ⟨j - 1, by omega⟩
              have hj' : (0 : Int) < ((t + 1 : Nat) : Int) := by omega
              rw [h0] at c1'
              have hs' := hs
              unfold dataS at hs'
              rw [if_neg (by simpa using h0)] at hs'
              have HS := Lib.hid hs'
              obtain ⟨av, cv, rfl, -⟩ := G.r1.ws
              have hacc : (acc.map (·.1)).length = acc.length := List.length_map _
              simp only [hacc] at *
              have hacc2 : acc.length ≤ 65535 := by omega
              clear hs hs'
              go_upto_region 14 with (fail)
              go_cut [] (fun wx => ∃ v1, GtAt w1 wx R M (numS 4 s').2 v0 v1 v2 (.slice none 0 0) (.slice none 0 0) ⟨(s3 o).1, acc.map (·.1) ++ [wrap32 (numS 4 s').1], acc.map (·.2), [], []⟩)
              case first =>
                have HD := Lib.hid (G.keep (W' := wr.drew) (Below.refl _ _).drew)
                have cd := HD.out.blk.cell 1
                obtain ⟨nx0, nx1⟩ := numS_bd (k := 4) HD.out.rd.bd
                have nx1 : (numS 4 s').1 < 4294967296 := nx1
                clear G c1'
                go_region_law (first
                  | (go_simp; go_at_call 23; ((with_reducible refine (num_is (k := 4) HD.out.rd (by omega) (by omega) (by omega)).mono ?_); rintro e w5 ⟨rfl, t⟩); have G5 := HD.out.read t; have H5 := Lib.hid G5; have c5 := G5.blk.cell 1; have c8 := (fun o => ((G5.blk.keep ((Below.refl w5.heap.size w5).alloc (Nat.le_refl _) o)).cell 1)); have HALL := Lib.hid (fun o => G5.r1.keep ((Below.refl w5.heap.size w5).alloc (Nat.le_refl _) o)); have hsz5 := G5.bel.size; clear t G5)
                  | (go_simp; go_at_call 24; (with_reducible refine (refLow_is _ _ _ rfl).mono ?_); rintro e w' ⟨rfl, rfl⟩)
                  | (refine step_append_n rfl _ _ 23 rfl w1.heap.size 21 i2 (.int .i32 0) Tryd.underlying23 hi2 hz20 hz21 (by omega) rfl rfl (HALL.out _) rfl ((BlkAt.newb _ _ _ rfl).cell 0) (by show (acc.map (·.1)).length + 1 ≤ _; rw [List.length_map]; omega) (by simp; omega) ?_; intro v' w6 hown hgr hnx; obtain ⟨a6, c6, rfl, -⟩ := hown.wsn (m := acc.length + 1) (by simp); have hbk := ((H5.out.blk).keep ((Below.refl w5.heap.size w5).alloc (Nat.le_refl _) _)).kept (Keeps.of_grown (F := fun j => (Value.slice av acc.length cv).ownBlock = some j) hgr fun _ q => q) (own_off_type H5.out.r1 H5.out.blk (by decide)); have q1 := hbk.cell 1; have q2 := hbk.free 1; have HC := Lib.hid ((H5.out.keep ((Below.refl w5.heap.size w5).alloc (Nat.le_refl _) _)).data hown hgr); clear hown hgr hnx hbk))
                all_goals
                  go_wp2_with fail
                  go_meet
                  exact ⟨_, HC.out⟩
              case rest =>
                obtain ⟨v1', G⟩ := hcut
                clear c1'
                refine (‹∀ (a : Act) (w : World), Code.wp Tryd.prog _ _ a w → _› : ∀ (a : Act) (w : World), _) _ _ ?_
                go_upto_region 17 with (first
                  | (go_at_call 23; ((with_reducible refine (num_is (k := 1) G.rd (by omega) (by omega) (by omega)).mono ?_); rintro e w7 ⟨rfl, t⟩); have G7 := G.read t; clear t)
                  | (go_at_call 22; ((with_reducible refine (must_is G7.rd).mono ?_); rintro e w8 ⟨rfl, t⟩); have G8 : GtAt w1 w8 R M (datumS s').2 v0 v1' v2 (.slice none 0 0) (.slice none 0 0) ⟨(s3 o).1, acc.map (·.1) ++ [wrap32 (numS 4 s').1], acc.map (·.2), [], []⟩ := G7.read t; clear t G7))
                obtain ⟨aw, nw, cw, rfl⟩ : ∃ a n c, v2 = .slice a n c := els_shape G8.r2
                have c2 := G8.blk.cell 2
                have H8 := Lib.hid G8
                have hs8 := G8.bel.size
                have HALL := Lib.hid (fun o => G8.r2.keep ((Below.refl w8.heap.size w8).alloc (Nat.le_refl _) o))
                have hb2 : (acc.map (·.2)).length ≤ 65535 := by rw [List.length_map]; omega
                clear G8 G
                go_wp2_with (at_builtin; refine wpList_append_el1 rfl _ _ 24 rfl w1.heap.size 4 i3 (.bool false) Tryd.underlying24 hi3 hz30 hz31 (by omega) rfl rfl (HALL.out _) rfl (ElAt.one (K := boolK) w8 4 (decide ((numS 1 (numS 4 s').2).1 = 1)) #[.bool (decide ((numS 1 (numS 4 s').2).1 = 1))] rfl) (by simp only; omega) (by simp; omega) ?_; intro v' w9 hown hgr hnx; obtain ⟨a7, n7, c7, rfl⟩ : ∃ a n c, v' = .slice a n c := els_shape hown; have hbk := ((H8.out.blk).keep ((Below.refl w8.heap.size w8).alloc (Nat.le_refl _) _)).kept (Keeps.of_grown (F := fun j => (Value.slice aw nw cw).ownBlock = some j) hgr fun _ q => q) (own_off_type H8.out.r2 H8.out.blk (by decide)); have q1 := hbk.cell 2; have q2 := hbk.free 2; have HF := Lib.hid ((H8.out.keep ((Below.refl w8.heap.size w8).alloc (Nat.le_refl _) _)).sec hown hgr); clear hown hgr hnx hbk)
                go_wp2
                have hc := HF.out
                exact ⟨⟨t, (datumS s').2, acc ++ [(datumS s').1], _, _, rfl, by rw [List.map_append, List.map_append]; exact hc, HS.out, by rw [List.length_append]; show acc.length + 1 + t < 65536; omega⟩, by simp [intOf]⟩
            · have hx : s5 o = (acc, s') := by
                rw [← hs]
                by_cases h0 : s'.2 = 0
                · obtain rfl : j = 0 := by
                    by_cases q : 0 < j
                    · exact absurd ⟨q, h0⟩ hj
                    · omega
                  rfl
                · exact dataS_bad h0
              have hcond : (decide ((0 : Int) < (j : Int)) && (s'.2 == 0)) = false := by
                by_cases h0 : s'.2 = 0
                · have : ¬ ((0 : Int) < (j : Int)) := fun q => hj ⟨by omega, h0⟩
                  rw [decide_eq_false this]; rfl
                · simp [h0]
              obtain rfl : acc = (s5 o).1 := by rw [hx]
              obtain rfl : s' = (s5 o).2 := by rw [hx]
              clear hx hs hj hl
              go_wp2
              all_goals first
                | (go_meet; exact ⟨_, _, G⟩)
                | (exfalso; simp [*] at hcond; done)
                | (exfalso; simp [*] at hcond; omega)
        case rest =>
          obtain ⟨v1, v2, G⟩ := hcut
          clear G4 nb0 nb1
          refine (‹∀ (a : Act) (w : World), Code.wp Tryd.prog _ _ a w → _› : ∀ (a : Act) (w : World), _) _ _ ?_
          go_upto_region 18 with (fail)
          go_cut [10] (fun sq wx => sq = .int .i64 (s6 o).1 ∧ GtAt w1 wx R M (s6 o).2 v0 v1 v2 (.slice none 0 0) (.slice none 0 0) ⟨(s3 o).1, (s5 o).1.map (·.1), (s5 o).1.map (·.2), [], []⟩)
          case first =>
            go_wp2_with (go_at_call 23; ((with_reducible refine (num_is (k := 1) G.rd (by omega) (by omega) (by omega)).mono ?_); rintro e w4 ⟨rfl, t⟩); have G4 : GtAt w1 w4 R M (s6 o).2 v0 v1 v2 (.slice none 0 0) (.slice none 0 0) ⟨(s3 o).1, (s5 o).1.map (·.1), (s5 o).1.map (·.2), [], []⟩ := G.read t; clear t)
            go_meet
            exact ⟨rfl, G4⟩
          case rest =>
            obtain ⟨rfl, G4⟩ := hcut
            obtain ⟨nb0, nb1⟩ := numS_bd (k := 1) (s := (s5 o).2) G.rd.bd
            have nb0 : 0 ≤ (s6 o).1 := nb0
            have nb1 : (s6 o).1 < 256 := nb1
            clear G
            refine (‹∀ (a : Act) (w : World), Code.wp Tryd.prog _ _ a w → _› : ∀ (a : Act) (w : World), _) _ _ ?_
            go_cut [] (fun wx => ∃ vx, GtAt w1 wx R M (s7 o).2 v0 v1 v2 vx (.slice none 0 0) ⟨(s3 o).1, (s5 o).1.map (·.1), (s5 o).1.map (·.2), (s7 o).1, []⟩)
            case first =>
              go_wp2
              go_loopw [10] (fun i wr => ∃ (j : Nat) (s' : Rs) (acc : List Int) (vx : Value), i = .int .i64 (j : Int) ∧ GtAt w1 wr R M s' v0 v1 v2 vx (.slice none 0 0) ⟨(s3 o).1, (s5 o).1.map (·.1), (s5 o).1.map (·.2), acc, []⟩ ∧ numsS 2 j s' acc = s7 o ∧ acc.length + j < 65536) (fun i _ => (intOf i).toNat)
              case atStart => exact ⟨(s6 o).1.toNat, (s6 o).2, [], _, by rw [Int.toNat_of_nonneg nb0], G4, rfl, by simp; omega⟩
              case round =>
                clear G4
                obtain ⟨j, s', acc, vx, rfl, G, hs, hl⟩ := hrel
                obtain ⟨ra, rn, rc, rb, -⟩ := G.rd.ex
                have c1' := rb.cell 1
                clear rb
                by_cases hj : 0 < j ∧ s'.2 = 0
                · obtain ⟨hj, h0⟩ := hj
                  obtain ⟨t, rfl⟩ : ∃ t, j = t + 1 := ⟨j - 1, by omega⟩
                  have hj' : (0 : Int) < ((t + 1 : Nat) : Int) := by omega
                  rw [h0] at c1'
                  have hs' := hs
                  unfold numsS at hs'
                  rw [if_neg (by simpa using h0)] at hs'
                  have HS := Lib.hid hs'
                  obtain ⟨av, cv, rfl, -⟩ := G.r3.ws
                  have HG := Lib.hid G
                  have hacc : acc.length ≤ 65535 := by omega
                  clear hs hs'
                  go_upto_region 21 with (fail)
                  have HD := Lib.hid (G.keep (W' := wr.drew) (Below.refl _ _).drew)
                  have cd := HD.out.blk.cell 3
                  clear G c1'
                  go_region_law (first
                    | (go_simp; go_at_call 23; go_loud ((with_reducible refine (num_is (k := 2) HD.out.rd (by omega) (by omega) (by omega)).mono ?_); rintro e w5 ⟨rfl, t⟩); have G5 := HD.out.read t; have H5 := Lib.hid G5; have c5 := G5.blk.cell 3; have c8 := (fun o => ((G5.blk.keep ((Below.refl w5.heap.size w5).alloc (Nat.le_refl _) o)).cell 3)); have HALL := Lib.hid (fun o => G5.r3.keep ((Below.refl w5.heap.size w5).alloc (Nat.le_refl _) o)); have hsz5 := G5.bel.size; clear t G5)
                    | (refine step_append_n rfl _ _ 25 rfl w1.heap.size 3 i4 (.int .i64 0) Tryd.underlying25 hi4 hz40 hz41 (by omega) rfl rfl (HALL.out _) rfl ((BlkAt.newb _ _ _ rfl).cell 0) (by show acc.length + 1 ≤ _; omega) (by simp; omega) ?_; intro v' w6 hown hgr hnx; obtain ⟨a6, c6, rfl, -⟩ := hown.wsn (m := acc.length + 1) (by simp); have hbk := ((H5.out.blk).keep ((Below.refl w5.heap.size w5).alloc (Nat.le_refl _) _)).kept (Keeps.of_grown (F := fun j => (Value.slice av acc.length cv).ownBlock = some j) hgr fun _ q => q) (own_off_type H5.out.r3 H5.out.blk (by decide)); have q1 := hbk.cell 3; have q2 := hbk.free 3; have HC := Lib.hid ((H5.out.keep ((Below.refl w5.heap.size w5).alloc (Nat.le_refl _) _)).inn hown hgr hnx); clear hown hgr hnx hbk))
                  all_goals
                    go_wp2
                    have hc := HC.out
                    exact ⟨⟨t, (numS 2 s').2, acc ++ [(numS 2 s').1], _, rfl, hc, HS.out, by rw [List.length_append]; show acc.length + 1 + t < 65536; omega⟩, by simp [intOf]⟩
                · have hx : s7 o = (acc, s') := by
                    rw [← hs]
                    by_cases h0 : s'.2 = 0
                    · obtain rfl : j = 0 := by
                        by_cases q : 0 < j
                        · exact absurd ⟨q, h0⟩ hj
                        · omega
                      rfl
                    · exact numsS_bad h0
                  have hcond : (decide ((0 : Int) < (j : Int)) && (s'.2 == 0)) = false := by
                    by_cases h0 : s'.2 = 0
                    · have : ¬ ((0 : Int) < (j : Int)) := fun q => hj ⟨by omega, h0⟩
                      rw [decide_eq_false this]; rfl
                    · simp [h0]
                  obtain rfl : acc = (s7 o).1 := by rw [hx]
                  obtain rfl : s' = (s7 o).2 := by rw [hx]
                  clear hx hs hj hl
                  go_wp2
                  all_goals first
                    | (go_meet; exact ⟨_, G⟩)
                    | (exfalso; simp [*] at hcond; done)
                    | (exfalso; simp [*] at hcond; omega)
            case rest =>
              obtain ⟨v3, G⟩ := hcut
              clear G4 nb0 nb1
              refine (‹∀ (a : Act) (w : World), Code.wp Tryd.prog _ _ a w → _› : ∀ (a : Act) (w : World), _) _ _ ?_
              go_upto_region 22 with (fail)
              go_cut [11] (fun sq wx => sq = .int .i64 (s8 o).1 ∧ GtAt w1 wx R M (s8 o).2 v0 v1 v2 v3 (.slice none 0 0) ⟨(s3 o).1, (s5 o).1.map (·.1), (s5 o).1.map (·.2), (s7 o).1, []⟩)
              case first =>
                go_wp2_with (go_at_call 23; ((with_reducible refine (num_is (k := 1) G.rd (by omega) (by omega) (by omega)).mono ?_); rintro e w4 ⟨rfl, t⟩); have G4 : GtAt w1 w4 R M (s8 o).2 v0 v1 v2 v3 (.slice none 0 0) ⟨(s3 o).1, (s5 o).1.map (·.1), (s5 o).1.map (·.2), (s7 o).1, []⟩ := G.read t; clear t)
                go_meet
                exact ⟨rfl, G4⟩
              case rest =>
                obtain ⟨rfl, G4⟩ := hcut
                obtain ⟨nb0, nb1⟩ := numS_bd (k := 1) (s := (s7 o).2) G.rd.bd
                have nb0 : 0 ≤ (s8 o).1 := nb0
                have nb1 : (s8 o).1 < 256 := nb1
                clear G
                refine (‹∀ (a : Act) (w : World), Code.wp Tryd.prog _ _ a w → _› : ∀ (a : Act) (w : World), _) _ _ ?_
                go_cut [] (fun wx => ∃ vx, GtAt w1 wx R M (s9 o).2 v0 v1 v2 v3 vx ⟨(s3 o).1, (s5 o).1.map (·.1), (s5 o).1.map (·.2), (s7 o).1, (s9 o).1⟩)
                case first =>
                  go_wp2
                  go_loopw [11] (fun i wr => ∃ (j : Nat) (s' : Rs) (acc : List Int) (vx : Value), i = .int .i64 (j : Int) ∧ GtAt w1 wr R M s' v0 v1 v2 v3 vx ⟨(s3 o).1, (s5 o).1.map (·.1), (s5 o).1.map (·.2), (s7 o).1, acc⟩ ∧ numsS 2 j s' acc = s9 o ∧ acc.length + j < 65536) (fun i _ => (intOf i).toNat)
                  case atStart => exact ⟨(s8 o).1.toNat, (s8 o).2, [], _, by rw [Int.toNat_of_nonneg nb0], G4, rfl, by simp; omega⟩
                  case round =>
                    clear G4
                    obtain ⟨j, s', acc, vx, rfl, G, hs, hl⟩ := hrel
                    obtain ⟨ra, rn, rc, rb, -⟩ := G.rd.ex
                    have c1' := rb.cell 1
                    clear rb
                    by_cases hj : 0 < j ∧ s'.2 = 0
                    · obtain ⟨hj, h0⟩ := hj
                      obtain ⟨t, rfl⟩ : ∃ t, j = t + 1 := ⟨j - 1, by omega⟩
                      have hj' : (0 : Int) < ((t + 1 : Nat) : Int) := by omega
                      rw [h0] at c1'
                      have hs' := hs
                      unfold numsS at hs'
                      rw [if_neg (by simpa using h0)] at hs'
                      have HS := Lib.hid hs'
                      obtain ⟨av, cv, rfl, -⟩ := G.r4.ws
                      have HG := Lib.hid G
                      have hacc : acc.length ≤ 65535 := by omega
                      clear hs hs'
                      go_upto_region 25 with (fail)
                      have HD := Lib.hid (G.keep (W' := wr.drew) (Below.refl _ _).drew)
                      have cd := HD.out.blk.cell 4
                      clear G c1'
                      go_region_law (first
                        | (go_simp; go_at_call 23; go_loud ((with_reducible refine (num_is (k := 2) HD.out.rd (by omega) (by omega) (by omega)).mono ?_); rintro e w5 ⟨rfl, t⟩); have G5 := HD.out.read t; have H5 := Lib.hid G5; have c5 := G5.blk.cell 4; have c8 := (fun o => ((G5.blk.keep ((Below.refl w5.heap.size w5).alloc (Nat.le_refl _) o)).cell 4)); have HALL := Lib.hid (fun o => G5.r4.keep ((Below.refl w5.heap.size w5).alloc (Nat.le_refl _) o)); have hsz5 := G5.bel.size; clear t G5)
                        | (refine step_append_n rfl _ _ 25 rfl w1.heap.size 3 i4 (.int .i64 0) Tryd.underlying25 hi4 hz40 hz41 (by omega) rfl rfl (HALL.out _) rfl ((BlkAt.newb _ _ _ rfl).cell 0) (by show acc.length + 1 ≤ _; omega) (by simp; omega) ?_; intro v' w6 hown hgr hnx; obtain ⟨a6, c6, rfl, -⟩ := hown.wsn (m := acc.length + 1) (by simp); have hbk := ((H5.out.blk).keep ((Below.refl w5.heap.size w5).alloc (Nat.le_refl _) _)).kept (Keeps.of_grown (F := fun j => (Value.slice av acc.length cv).ownBlock = some j) hgr fun _ q => q) (own_off_type H5.out.r4 H5.out.blk (by decide)); have q1 := hbk.cell 4; have q2 := hbk.free 4; have HC := Lib.hid ((H5.out.keep ((Below.refl w5.heap.size w5).alloc (Nat.le_refl _) _)).out hown hgr hnx); clear hown hgr hnx hbk))
                      all_goals
                        go_wp2
                        have hc := HC.out
                        exact ⟨⟨t, (numS 2 s').2, acc ++ [(numS 2 s').1], _, rfl, hc, HS.out, by rw [List.length_append]; show acc.length + 1 + t < 65536; omega⟩, by simp [intOf]⟩
                    · have hx : s9 o = (acc, s') := by
                        rw [← hs]
                        by_cases h0 : s'.2 = 0
                        · obtain rfl : j = 0 := by
                            by_cases q : 0 < j
                            · exact absurd ⟨q, h0⟩ hj
                            · omega
                          rfl
                        · exact numsS_bad h0
                      have hcond : (decide ((0 : Int) < (j : Int)) && (s'.2 == 0)) = false := by
                        by_cases h0 : s'.2 = 0
                        · have : ¬ ((0 : Int) < (j : Int)) := fun q => hj ⟨by omega, h0⟩
                          rw [decide_eq_false this]; rfl
                        · simp [h0]
                      obtain rfl : acc = (s9 o).1 := by rw [hx]
                      obtain rfl : s' = (s9 o).2 := by rw [hx]
                      clear hx hs hj hl
                      go_wp2
                      all_goals first
                        | (go_meet; exact ⟨_, G⟩)
                        | (exfalso; simp [*] at hcond; done)
                        | (exfalso; simp [*] at hcond; omega)
                case rest =>
                  obtain ⟨v4, G⟩ := hcut
                  clear G4 nb0 nb1
                  refine (‹∀ (a : Act) (w : World), Code.wp Tryd.prog _ _ a w → _› : ∀ (a : Act) (w : World), _) _ _ ?_
                  obtain ⟨a0, n0, c0, rfl⟩ : ∃ a n c, v0 = .slice a n c := row_shape G.r0
                  obtain ⟨a1, n1, c1, rfl⟩ : ∃ a n c, v1 = .slice a n c := row_shape G.r1
                  obtain ⟨a2, n2, c2, rfl⟩ : ∃ a n c, v2 = .slice a n c := els_shape G.r2
                  obtain ⟨a3, n3, c3, rfl⟩ : ∃ a n c, v3 = .slice a n c := row_shape G.r3
                  obtain ⟨a4, n4, c4, rfl⟩ : ∃ a n c, v4 = .slice a n c := row_shape G.r4
                  have HG := Lib.hid G
                  obtain ⟨ra, rn, rc, rb, rB, -⟩ := G.rd.ex
                  have cR := rb.cell 0
                  have e10 : mustS ((rn : Int) == 0) 5 (s9 o).2 = s10 o := by
                    unfold s10
                    rw [show ((rn : Int) == 0) = decide ((s9 o).2.1.length = 0) by rw [rB.len, Bool.eq_iff_iff]; simp]
                  have KM := Lib.hid (must_is (h0 := ((rn : Int) == 0)) (x := 5) G.rd)
                  rw [e10] at KM
                  have hlt0 : w.heap.size < w1.heap.size := cell_lt (BQ.out.cell 0)
                  have hlt1 : w.heap.size ≤ w1.heap.size := Nat.le_of_lt hlt0
                  have hRQ : ¬ R = w.heap.size := by have := G.rd.low; omega
                  have hQR : ¬ w.heap.size = R := fun e => hRQ e.symm
                  have EB := Lib.hid (show errS o = if (s10 o).2 ≠ 0 then (s10 o).2 else chkI (imgS o) from rfl)
                  clear rb rB e10 G
                  go_upto_region 27 with (go_at_call 22; ((with_reducible refine KM.out.mono ?_); rintro e w2 ⟨rfl, t⟩); have G2 : GtAt w1 w2 R M (s10 o) (.slice a0 n0 c0) (.slice a1 n1 c1) (.slice a2 n2 c2) (.slice a3 n3 c3) (.slice a4 n4 c4) (imgS o) := HG.out.read t; clear t)
                  clear cR KM HG
                  obtain ⟨sl, x, hsx⟩ : ∃ l x, s10 o = (l, x) := ⟨_, _, rfl⟩
                  rw [hsx] at G2 EB
                  obtain ⟨ra, rn, rc, rb, -⟩ := G2.rd.ex
                  have c1' := rb.cell 1
                  clear rb hsx
                  by_cases hE : x = 0
                  · subst hE
                    have im : ImgAt w2 a0 n0 c0 a1 n1 c1 a2 n2 c2 a3 n3 c3 a4 n4 c4 (imgS o) := ⟨ws_of G2.r0, ws_of G2.r1, els_of G2.r2, ws_of G2.r3, ws_of G2.r4⟩
                    have KC := Lib.hid (refCheck22_is im)
                    obtain ⟨y, hy⟩ : ∃ y, chkI (imgS o) = y := ⟨_, rfl⟩
                    rw [hy] at KC
                    have HX := Lib.hid (show errS o = y by rw [EB.out, if_neg (fun q => q rfl), hy])
                    have m0 := G2.blk.cell 0
                    have m1 := G2.blk.cell 1
                    have m2 := G2.blk.cell 2
                    have m3 := G2.blk.cell 3
                    have m4 := G2.blk.cell 4
                    have HG2 := Lib.hid G2
                    clear im hy EB G2
                    go_upto_region 29 with (go_at_call 14; ((with_reducible refine KC.out.mono ?_); rintro e w3 ⟨rfl, hb⟩); have G3 := Lib.hid (HG2.out.keep hb); have K3 := RdAt.errs G3.out.rd y; have f3 := K3.1; have e3 := K3.2.1; have E3 := Lib.hid K3.2.2; clear hb K3)
                    have G4 := G3.out.read E3.out
                    generalize w3.setCell ⟨R, 1, none⟩ (.int .i64 y) = W4 at G4 ⊢
                    obtain ⟨rd, rm, re, rf, -⟩ := G4.rd.ex
                    have c4' := rf.cell 1
                    clear rf f3 e3 E3 G3 HG2 c1' m0 m1 m2 m3 m4
                    by_cases hY : y = 0
                    · subst hY
                      have Q4 := BQ.out.keep G4.bel
                      have z0 := Q4.cell 0
                      have z1 := Q4.cell 1
                      have z2 := Q4.cell 2
                      have z3 := Q4.cell 3
                      have z4 := Q4.cell 4
                      have f0 := Q4.free 0
                      have f1 := Q4.free 1
                      have f2 := Q4.free 2
                      have f3 := Q4.free 3
                      have f4 := Q4.free 4
                      have m0 := G4.blk.cell 0
                      have m1 := G4.blk.cell 1
                      have m2 := G4.blk.cell 2
                      have m3 := G4.blk.cell 3
                      have m4 := G4.blk.cell 4
                      have HD := Lib.hid (G4.done Q4 (BB.out.trans (G4.bel.mono hlt1)) (Nat.le_refl _))
                      have c5 : W4.cell? ⟨R, 1, none⟩ = some (.int .i64 0) := c4'
                      clear Q4 G4 c4' KC hlt0 hlt1
                      go_upto_region 31 with (fail)
                      clear c5
                      go_cut [3] (fun sq wx => sq = .int .i64 0 ∧ ImIn w.heap.size (.slice a0 n0 c0) (.slice a1 n1 c1) (.slice a2 n2 c2) (.slice a3 n3 c3) (.slice a4 n4 c4) w.heap.size w wx ∧ ImgAt wx a0 n0 c0 a1 n1 c1 a2 n2 c2 a3 n3 c3 a4 n4 c4 (imgS o))
                      case first =>
                        go_wp2
                        go_meet
                        exact ⟨rfl, HD.out⟩
                      case rest =>
                        obtain ⟨rfl, ⟨⟨p0, p1, p2, p3, p4⟩, pb⟩, im⟩ := hcut
                        clear hRQ hQR
                        refine (‹∀ (a : Act) (w : World), Code.wp Tryd.prog Code.ret _ a w → _› : ∀ (a : Act) (w : World), _) _ _ ?_
                        refine wp_ret ?_
                        exact bodyPost_ret (v := .tuple #[.agg #[.slice a0 n0 c0, .slice a1 n1 c1, .slice a2 n2 c2, .slice a3 n3 c3, .slice a4 n4 c4], .int .i64 0]) (by simp [results, Tryd.results11, go_sem, p0, p1, p2, p3, p4]) rfl (.inr ⟨HX.out, _, _, _, _, _, _, _, _, _, _, _, _, _, _, _, rfl, im, pb⟩)
                    · have dY : (y != 0) = true := by simpa using hY
                      have HN0 := Lib.hid hY
                      clear hY
                      have H30 := Lib.hid G4
                      have Q30 := BQ.out.keep H30.out.bel
                      have HQ30 := Lib.hid Q30
                      have z0 := Q30.cell 0
                      have z1 := Q30.cell 1
                      have z2 := Q30.cell 2
                      have z3 := Q30.cell 3
                      have z4 := Q30.cell 4
                      have f0 := Q30.free 0
                      have f1 := Q30.free 1
                      have f2 := Q30.free 2
                      have f3 := Q30.free 3
                      have f4 := Q30.free 4
                      clear Q30 G4
                      go_upto_region 30 with (fail)
                      go_region
                      have hB := im_put HQ30.out (BB.out.trans (H30.out.bel.mono hlt1)) (Nat.le_refl _) (.slice none 0 0) (.slice none 0 0) (.slice none 0 0) (.slice none 0 0) (.slice none 0 0)
                      clear z0 z1 z2 z3 z4 f0 f1 f2 f3 f4
                      generalize ((((W4.setCell ⟨w.heap.size, 0, none⟩ (.slice none 0 0)).setCell ⟨w.heap.size, 1, none⟩ (.slice none 0 0)).setCell ⟨w.heap.size, 2, none⟩ (.slice none 0 0)).setCell ⟨w.heap.size, 3, none⟩ (.slice none 0 0)).setCell ⟨w.heap.size, 4, none⟩ (.slice none 0 0) = W5 at hB ⊢
                      obtain ⟨⟨p0, p1, p2, p3, p4⟩, pb⟩ := hB
                      have HP := Lib.hid (show ImIn w.heap.size (.slice none 0 0) (.slice none 0 0) (.slice none 0 0) (.slice none 0 0) (.slice none 0 0) w.heap.size w W5.drew from ⟨⟨p0, p1, p2, p3, p4⟩, pb.drew⟩)
                      clear p0 p1 p2 p3 p4 pb c4'
                      generalize W5.drew = W6 at HP ⊢
                      clear hRQ hQR hlt0 hlt1
                      refine (‹∀ (a : Act) (w : World), Code.wp Tryd.prog Code.ret _ a w → _› : ∀ (a : Act) (w : World), _) _ _ ?_
                      refine wp_ret ?_
                      dsimp only [Exit.then]
                      obtain ⟨⟨p0, p1, p2, p3, p4⟩, pb⟩ := HP.out
                      exact bodyPost_ret (v := .tuple #[.agg #[.slice none 0 0, .slice none 0 0, .slice none 0 0, .slice none 0 0, .slice none 0 0], .int .i64 y]) (by simp [results, Tryd.results11, go_sem, p0, p1, p2, p3, p4]) rfl (.inl ⟨by rw [HX.out]; exact HN0.out, by rw [HX.out], pb⟩)
                  · have dE : (x == 0) = false := by simpa using hE
                    have dN : (x != 0) = true := by simpa using hE
                    have HX := Lib.hid (show errS o = x by rw [EB.out, if_pos hE])
                    have HN0 := Lib.hid hE
                    clear hE EB
                    have H30 := Lib.hid G2
                    have Q30 := BQ.out.keep H30.out.bel
                    have HQ30 := Lib.hid Q30
                    have z0 := Q30.cell 0
                    have z1 := Q30.cell 1
                    have z2 := Q30.cell 2
                    have z3 := Q30.cell 3
                    have z4 := Q30.cell 4
                    have f0 := Q30.free 0
                    have f1 := Q30.free 1
                    have f2 := Q30.free 2
                    have f3 := Q30.free 3
                    have f4 := Q30.free 4
                    clear Q30 G2
                    go_upto_region 30 with (fail)
                    go_region
                    have hB := im_put HQ30.out (BB.out.trans (H30.out.bel.mono hlt1)) (Nat.le_refl _) (.slice none 0 0) (.slice none 0 0) (.slice none 0 0) (.slice none 0 0) (.slice none 0 0)
                    clear z0 z1 z2 z3 z4 f0 f1 f2 f3 f4
                    generalize ((((w2.setCell ⟨w.heap.size, 0, none⟩ (.slice none 0 0)).setCell ⟨w.heap.size, 1, none⟩ (.slice none 0 0)).setCell ⟨w.heap.size, 2, none⟩ (.slice none 0 0)).setCell ⟨w.heap.size, 3, none⟩ (.slice none 0 0)).setCell ⟨w.heap.size, 4, none⟩ (.slice none 0 0) = W5 at hB ⊢
                    obtain ⟨⟨p0, p1, p2, p3, p4⟩, pb⟩ := hB
                    have HP := Lib.hid (show ImIn w.heap.size (.slice none 0 0) (.slice none 0 0) (.slice none 0 0) (.slice none 0 0) (.slice none 0 0) w.heap.size w W5.drew from ⟨⟨p0, p1, p2, p3, p4⟩, pb.drew⟩)
                    clear p0 p1 p2 p3 p4 pb c1'
                    generalize W5.drew = W6 at HP ⊢
                    clear hRQ hQR hlt0 hlt1
                    refine (‹∀ (a : Act) (w : World), Code.wp Tryd.prog Code.ret _ a w → _› : ∀ (a : Act) (w : World), _) _ _ ?_
                    refine wp_ret ?_
                    dsimp only [Exit.then]
                    obtain ⟨⟨p0, p1, p2, p3, p4⟩, pb⟩ := HP.out
                    exact bodyPost_ret (v := .tuple #[.agg #[.slice none 0 0, .slice none 0 0, .slice none 0 0, .slice none 0 0, .slice none 0 0], .int .i64 x]) (by simp [results, Tryd.results11, go_sem, p0, p1, p2, p3, p4]) rfl (.inl ⟨by rw [HX.out]; exact HN0.out, by rw [HX.out], pb⟩)
end
end Go.Proofs.YtochnjbacglhbaaDoor
