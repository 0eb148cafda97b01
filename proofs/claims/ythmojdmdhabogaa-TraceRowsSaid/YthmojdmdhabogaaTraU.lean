/- The document's Top. Conditions: the list can be read; it is no longer than 2^19; its numbers' bound is that of 64 bits. -/
import Derived.Test.YthmojdmdhabogaaTraP
import Derived.Test.YthmojdmdhabogaaTraT
namespace Go.Proofs.Ythmojdmdhabogaa
open Go.RowKit Go.IntWalk

theorem rows_at {w : World} {B g j cr : Nat} {e : TypeId} {S : List Ht} (h : OwnHt w B e (.slice (some ⟨g, 0, none⟩) j cr) S) (hl : S.length = j) : HtAt w (some ⟨g, 0, none⟩) j cr S := by
  obtain ⟨a', c', e', hat⟩ := OwnEl.at h
  rw [hl] at e' hat
  simp only [Value.slice.injEq, true_and] at e'
  obtain ⟨rfl, rfl⟩ := e'
  exact hat
theorem from_on {w : World} {a a2 : Option Addr} {j cr p d c2 : Nat} {S : List Ht} (hs : sliced a p j cr htK.k = .slice a2 d c2) (h : HtAt w a j cr S) (hp : p ≤ j) : HtAt w a2 d c2 (S.drop p) := by
  obtain ⟨a', c', e', hat⟩ := ElAt.from h hp
  rw [hs] at e'
  simp only [Value.slice.injEq] at e'
  obtain ⟨rfl, rfl, rfl⟩ := e'
  exact hat
set_option maxRecDepth 10000 in
set_option maxHeartbeats 8000000 in
theorem refTrTop_is (a : Option Addr) (n c : Nat) (q : Int) (l : List Mk) (w : World) (h : MkAt w a n c l) (hn : n ≤ 524288) :
    Calls Try.prog 23 #[.slice a n c, .int .i64 q] w fun r w' => ∃ v, r = .returned v ∧ OwnHt w' w.heap.size 40 v (tTop l q) ∧ Below w.heap.size w w' := by
  obtain ⟨i0, hi, hz0, hz1, hz2⟩ := info_els infoHt
  have hrows := refTrRows_is a n c l w h hn
  obtain ⟨M, hM⟩ : ∃ M, (tMost l).length = M := ⟨_, rfl⟩
  have hMn : M ≤ 524288 := by have h1 := tRows_len l; have h2 := tMost_len l; have := h.len; omega
  have HM := Lib.hid hM
  have HTOP := Lib.hid (show ∀ t : Nat, (t : Int) ≤ q ∨ t = 0 → t ≤ M → (q ≤ t ∨ t = M) → (tMost l).take t = tTop l q from fun t h1 h2 h3 => by
    unfold tTop
    rw [← tMost_len, hM]
    congr 1
    omega)
  clear h hM
  have HRW := Lib.hid hrows
  clear hrows
  go_enter Try.func23, Try.ntmps23
  go_wp2_with (go_at_call 21; ((with_reducible refine (HRW.out).mono ?_); rintro r w1 ⟨v1, rfl, o1, b1⟩); have O1 := Lib.hid o1; have B1 := Lib.hid b1; clear o1 b1)
  go_loopw [5, 6] (fun rows out wr => ∃ t B : Nat, ∃ S : List Ht, OwnHt wr B 40 rows S ∧ OwnHt wr w.heap.size 40 out ((tMost l).take t) ∧ (∀ x, out.ownBlock = some x → x < B) ∧ S.Perm ((tMost l).drop t) ∧ S.Pairwise (fun a b => hLt a b = true) ∧ t ≤ M ∧ ((t : Int) ≤ q ∨ t = 0) ∧ Below w.heap.size w wr) (fun rows _ _ => lenOf rows)
  case atStart => exact ⟨0, w.heap.size, tRows l, O1.out, by rw [List.take_zero]; exact OwnEl.nil _ _ _ _, fun x e => (by cases e), most_first l, tRows_rise l, Nat.zero_le _, Or.inr rfl, B1.out⟩
  case round =>
    obtain ⟨t, B, S, hro, hou, hBl, hp, hs, htM, htq, hb⟩ := hrel
    have hsl : S.length = M - t := by have := hp.length_eq; rw [List.length_drop, HM.out] at this; exact this
    have hol : ((tMost l).take t).length = t := by rw [List.length_take, HM.out]; omega
    obtain ⟨s, hs0⟩ : ∃ s, S.length = s := ⟨_, rfl⟩
    obtain ⟨ar, cr, rfl, hatr⟩ := OwnEl.at hro
    obtain ⟨ax, cx, rfl, hatx⟩ := OwnEl.at hou
    rw [hol] at hou hatx hBl ⊢
    rw [hs0] at hro hatr hsl ⊢
    have hcr := hatr.cap
    have hcbr := hatr.big
    unfold maxLen at hcbr
    have HRO := Lib.hid hro
    have HATR := Lib.hid hatr
    have HOU := Lib.hid hou
    have HB := Lib.hid hb
    have HP := Lib.hid hp
    have HS := Lib.hid hs
    have HS0 := Lib.hid hs0
    have HOL := Lib.hid hol
    have HBL := Lib.hid hBl
    have hws := hb.size
    have HSL := Lib.hid hsl
    have hsm : s ≤ 524288 := by omega
    clear hro hou hb hp hs hs0 hol hatr hatx hBl hsl
    by_cases htq2 : (t : Int) < q
    · by_cases hs1 : 0 < s
      · have hs1' : (0 : Int) < s := by omega
        have hsM : (s : Int) ≤ 524288 := by omega
        obtain ⟨g, cap, e2, hg, hg', hcp, hcp2⟩ := OwnEl.form HRO.out HS0.out hs1
        simp only [Value.slice.injEq] at e2
        obtain ⟨rfl, -, rfl⟩ := e2
        obtain ⟨W0, hW0⟩ : ∃ W0, wr = W0 := ⟨_, rfl⟩
        go_wp2
        rw [hW0] at HRO HOU HB HATR hws hg'
        clear hW0
        go_loopw [7, 8] (fun bb i wr => ∃ j b : Nat, i = .int .i64 j ∧ bb = .int .i64 b ∧ 1 ≤ j ∧ j ≤ s ∧ b < j ∧ (∀ x, x < j → (el S x).2.2.2 ≤ (el S b).2.2.2) ∧ (∀ x, x < b → (el S x).2.2.2 < (el S b).2.2.2) ∧ Below W0.heap.size W0 wr) (fun _ i _ => s - (intOf i).toNat)
        case atStart => exact ⟨1, 0, rfl, rfl, by omega, by omega, by omega, fun x hx => by obtain rfl : x = 0 := by omega
                                                                                            exact Int.le_refl _, fun x hx => by omega, Below.refl _ _⟩
        case round =>
          obtain ⟨j, b, rfl, rfl, hj1, hj2, hbj, hle, hlt, hb⟩ := hrel
          have HLE := Lib.hid hle
          have HLT := Lib.hid hlt
          have HB2 := Lib.hid hb
          clear hle hlt
          by_cases hjs : j < s
          · have hjs' : (j : Int) < s := by omega
            have hbs' : (b : Int) < s := by omega
            obtain ⟨-, -, -, d3⟩ := OwnHt.cells (OwnEl.keep HRO.out hb) HS0.out hjs
            obtain ⟨-, -, -, f3⟩ := OwnHt.cells (OwnEl.keep HRO.out hb) HS0.out (show b < s by omega)
            obtain ⟨x, hx⟩ : ∃ x, (el S j).2.2.2 = x := ⟨_, rfl⟩
            obtain ⟨y, hy⟩ : ∃ y, (el S b).2.2.2 = y := ⟨_, rfl⟩
            rw [hx] at d3
            rw [hy] at f3
            have HX := Lib.hid hx
            have HY := Lib.hid hy
            clear hx hy hb
            by_cases hyx : y < x
            · have hd : decide (y < x) = true := decide_eq_true hyx
              have HYX := Lib.hid hyx
              clear hyx
              go_wp2
              go_quiet (fail)
              go_wp2
              go_roundw
              case rel => exact ⟨j + 1, j, by go_num, rfl, by omega, by omega, by omega, fun z hz => by
                rcases Nat.lt_succ_iff_lt_or_eq.1 hz with c | c
                · have h1 := HLE.out z c; have := HYX.out; rw [HY.out] at h1; rw [HX.out]; omega
                · subst c; exact Int.le_refl _, fun z hz => by
                have h1 := HLE.out z hz; have := HYX.out; rw [HY.out] at h1; rw [HX.out]; omega, below_drewN HB2.out _⟩
              case measure => simp [intOf]; omega
            · have hd : decide (y < x) = false := decide_eq_false hyx
              have hxy : x ≤ y := by omega
              have HYX := Lib.hid hyx
              clear hyx
              go_wp2
              go_quiet (fail)
              go_wp2
              go_roundw
              case rel => exact ⟨j + 1, b, by go_num, rfl, by omega, by omega, by omega, fun z hz => by
                rcases Nat.lt_succ_iff_lt_or_eq.1 hz with c | c
                · exact HLE.out z c
                · subst c; rw [HX.out, HY.out]; exact hxy, HLT.out, below_drewN HB2.out _⟩
              case measure => simp [intOf]; omega
          · obtain rfl : j = s := by omega
            have hS0 := HS0.out
            obtain ⟨hMt, htake, hperm, hpw⟩ := most_next HP.out HS.out (k := b) (by omega) (fun z hz => HLE.out z (by omega)) HLT.out
            rw [HM.out] at hMt
            obtain ⟨p, hpb⟩ : ∃ p, b + 1 = p := ⟨_, rfl⟩
            rw [hpb] at hperm hpw
            have hw1 : IntKind.i64.wrap ((b : Int) + 1) = p := by rw [IntWalk.i64_in _ (by omega)]; omega
            have hpj : p ≤ j := by omega
            have hbj' : (b : Int) < j := by omega
            obtain ⟨a2, c2, hs2, -⟩ := ElAt.from HATR.out (m := p) hpj
            obtain ⟨d, hd⟩ : ∃ d, j - p = d := ⟨_, rfl⟩
            rw [hd] at hs2
            have hsl1 : ∀ w, (Instr.slice 35 (.slice (some ⟨g, 0, none⟩) j cr) none (some (.int .i64 b)) none).run Try.prog w = .ok (.slice (some ⟨g, 0, none⟩) b cr) w := fun w => by rw [run_cut_to 35 Try.underlying35 (s := 4) (fun w => Try.sizeOf40 w) (some ⟨g, 0, none⟩) j cr b (by omega) w, sliced_to]
            have hsl2 : ∀ w, (Instr.slice 35 (.slice (some ⟨g, 0, none⟩) j cr) (some (.int .i64 p)) none none).run Try.prog w = .ok (.slice a2 d c2) w := fun w => by rw [run_cut_from 35 Try.underlying35 (s := 4) (fun w => Try.sizeOf40 w) (some ⟨g, 0, none⟩) j cr p hpj w]; rw [show (4 : Nat) = htK.k from rfl, hs2]
            have HS2 := Lib.hid hs2
            have hcell := OwnHt.cells (OwnEl.keep HRO.out hb) HS0.out hbj
            obtain ⟨⟨x0, x1, x2, x3⟩, hx⟩ : ∃ x, el S b = x := ⟨_, rfl⟩
            rw [hx] at hcell htake
            simp only at hcell
            obtain ⟨c0, c1, c2', c3⟩ := hcell
            have HO1 := Lib.hid (OwnEl.keep HOU.out hb)
            have HR1 := Lib.hid (OwnEl.keep HRO.out hb)
            have HB1 := Lib.hid (bel_on1 HB.out hb HB.out.size)
            have hws1 := HB1.out.size
            have HTA := Lib.hid htake
            have HPE := Lib.hid hperm
            have HPW := Lib.hid hpw
            have HL3 := Lib.hid (show (S.take b ++ S.drop p).length = j - 1 by rw [List.length_append, List.length_take, List.length_drop]; omega)
            have HLB := Lib.hid (show (S.take b).length = b by rw [List.length_take]; omega)
            have hdj : d ≤ j := by omega
            clear hs2 hx htake hperm hpw hb hS0 hpb hd
            go_wp2_with (first
              | (at_builtin; refine wpList_append_els rfl _ _ 35 rfl w.heap.size 40 i0 _ Try.underlying35 hi hz0 hz1 (by omega) rfl rfl (OwnEl.keep HO1.out ((Below.refl _ _).alloc (Nat.le_refl _) _)) rfl (ht_one (b := wr.heap.size) wr (x0, x1, x2, x3) rfl) (by rw [HOL.out]; omega) (by simp; omega) ?_; intro v1 w1 h1 g1; have r1 := kept_beside (OwnEl.keep HR1.out ((Below.refl _ _).alloc (Nat.le_refl _) _)) g1 HBL.out; have b1 := (HB1.out.alloc hws1 _).grown g1 (by simp; omega) (fun q e => (OwnEl.lt HO1.out q e).1); have s1 := b1.size; have P1 := ElAt.pre (rows_at r1 HS0.out) (show b ≤ j by omega); have P2 := from_on HS2.out (rows_at r1 HS0.out) hpj; clear g1)
              | (at_builtin; refine wpList_append_els rfl _ _ 35 rfl w1.heap.size 40 i0 _ Try.underlying35 hi hz0 hz1 (by omega) rfl rfl (OwnEl.nil _ _ _ _) rfl P1 (by simp; omega) (Nat.le_refl _) ?_; intro v2 w2 h2 g2'; have k2 := below_first g2' (fun q e => by cases e); have s2 := k2.size; rw [List.nil_append] at h2)
              | (at_builtin; refine wpList_append_els rfl _ _ 35 rfl w1.heap.size 40 i0 _ Try.underlying35 hi hz0 hz1 (by omega) rfl rfl h2 rfl (ElAt.keep P2 k2) (by rw [HLB.out]; omega) s2 ?_; intro v3 w3 h3 g3'; have k3 := k2.grown g3' s2 (fun q e => (OwnEl.lt h2 q e).1); obtain ⟨a3', c3', rfl, -⟩ := OwnEl.at h3; rw [HL3.out] at h3 ⊢))
            go_roundw
            case rel => exact ⟨t + 1, w1.heap.size, S.take b ++ S.drop p, h3, by rw [HTA.out]; exact OwnEl.keep h1 k3, fun x e => (OwnEl.lt h1 x e).2, HPE.out, HPW.out, by omega, Or.inl (by omega), bel_on1 b1 k3 s1⟩
            case measure => simp only [lenOf]; omega
      · have HFIN := Lib.hid (HTOP.out t htq htM (.inr (by have := HSL.out; omega)))
        obtain rfl : s = 0 := by omega
        go_wp2
        go_ret
        exact ⟨_, rfl, by rw [← HFIN.out]; exact HOU.out, HB.out⟩
    · have htq3 : q ≤ (t : Int) := by omega
      have HFIN := Lib.hid (HTOP.out t htq htM (.inl htq3))
      go_wp2
      go_ret
      exact ⟨_, rfl, by rw [← HFIN.out]; exact HOU.out, HB.out⟩
end Go.Proofs.Ythmojdmdhabogaa
