/- Package graph's walk, whole. Conditions: ways lie in memory; no more than 60 places; what may be asked answers by a state of its own. -/
import Derived.Test.YtggiaopdgijgnaaDoorGraJ
import Derived.Deep.LoopGhost
namespace Go.Proofs.YtggiaopdgijgnaaDoor
open Go.RowKit Go.IntWalk

/-- A walk's trip, as it is handed on. -/
def TripV (w : World) (base n : Nat) (v : Value) (T : Gra.Tr) : Prop := ∃ bc bf bo ov, v = .agg #[.slice (some ⟨bc, 0, none⟩) (szS n) (szS n), ov, .slice (some ⟨bf, 0, none⟩) n n] ∧ SetAt bc n T.came w ∧ OwnW .i32 w bo 21 ov (T.ord.map Int.ofNat) ∧ Ar .i32 21 bf n T.fr w ∧ base ≤ bc ∧ base ≤ bf ∧ bf < bo ∧ base ≤ bo
/-- What walk's first statements make. -/
def WalkR (W : World) (n : Nat) (s7 : Value) (wx : World) : Prop := ∃ bt bc bf, s7 = .pointer (some ⟨bt, 0, none⟩) ∧ BlkAt bt 49 #[.slice (some ⟨bc, 0, none⟩) (szS n) (szS n), .slice none 0 0, .slice (some ⟨bf, 0, none⟩) n n] wx ∧ SetAt bc n (fun _ => false) wx ∧ Ar .i32 21 bf n (fun _ => 0) wx ∧ W.heap.size ≤ bt ∧ W.heap.size ≤ bc ∧ W.heap.size ≤ bf ∧ Below W.heap.size W wx
theorem legNil : ∀ w : World, Sem.run Tryd.prog (binOp BinOp.neq 81 Value.nilFunc Value.nilFunc) w = .ok (.bool false) w := fun _ => by kernel_rfl
theorem legSome (fn : Fn) (caps : Array Value) : ∀ w : World, Sem.run Tryd.prog (binOp BinOp.neq 81 (Value.func fn #[] caps) Value.nilFunc) w = .ok (.bool true) w := fun _ => by kernel_rfl
/-- A walk under way: what it came to, of what it began with; the box of the answer stands. -/
def WalkL {σ : Type} (mv : σ → Nat → Bool) (ms : σ → Nat → σ) (N : Nat → List Nat) (x0 : σ × Gra.Tr) (fn : Nat) (caps : Array Value) (K : Nat → Prop) (J : σ → World → Prop) (w0 : World) (a : Option Addr) (m c : Nat) (a' : Option Addr) (n1 c' n B bt bc bf bo bs bm b9 b3 br : Nat) (W : World) (nxt : Value) (k : Nat) (v10 : Value) (wr : World) : Prop :=
  ∃ s T ov sv, Gra.GoT mv ms N x0 (s, T) ∧ WalkAt fn caps J w0 a m c a' n1 c' n B bt bc bf bo bs bm b9 b3 ov sv s T wr ∧ Gra.SizeT n 200 90000 T ∧ Gra.FromT n T ∧ Keeps K W wr ∧ BlkAt br 49 #[.slice none 0 0, .slice none 0 0, .slice none 0 0] wr ∧
    ((v10 = nxt ∧ T.st.length + Gra.uncame n T.came * 201 + 1 ≤ k) ∨ (v10 = .nilFunc ∧ T.st = []))
set_option maxRecDepth 100000 in
set_option maxHeartbeats 4000000 in
theorem graWalk_is {σ : Type} {fn : Nat} {caps : Array Value} {K : Nat → Prop} {J : σ → World → Prop} {mv : σ → Nat → Bool} {ms : σ → Nat → σ} {w0 w : World} {a : Option Addr} {m c : Nat} {a' : Option Addr} {c' n k d : Nat} {b : Option Addr} {s : σ} {L : List (List Int)} {N : Nat → List Nat} {l : List Nat}
    (hM : MayAt fn caps n w.heap.size K J mv ms) (hG : WayG w0 a m c a' (n + 1) c' L) (hold : Below w0.heap.size w0 w) (hLn : L.length = n) (hN : ∀ p, p < n → el L p = (N p).map Int.ofNat) (hNn : ∀ p q, q ∈ N p → q < n) (hD : ∀ p, (N p).length ≤ 200)
    (hn : n ≤ 60) (hK : ∀ j, K j → w0.heap.size ≤ j) (hA : ∀ b off, a = some ⟨b, off, none⟩ → b < w0.heap.size) (hl : Ws .i32 w b k d (l.map Int.ofNat)) (hlk : ∀ b' off, b = some ⟨b', off, none⟩ → ¬ K b' ∧ b' < w.heap.size) (hln : ∀ x ∈ l, x < n) (hll : l.length ≤ 1000) (hJ : J s w) :
    Calls Tryd.prog 35 #[.agg #[.slice a m c, .slice a' (n + 1) c'], .slice b k d, .func (.func fn) #[] caps] w fun e w' => ∃ v s' T, e = .returned v ∧ TripV w' w.heap.size n v T ∧ T.st = [] ∧ Gra.GoT mv ms N ((Gra.waitS mv ms (fun _ => false) (-1) l s []).1, Gra.startT (Gra.waitS mv ms (fun _ => false) (-1) l s []).2) (s', T) ∧ J s' w' ∧ Keeps K w w' := by
  obtain ⟨i0, hi, hz0, hz1, hz2⟩ := info_parts infoI32
  have hmk := run_zeros (P := Tryd.prog) 38 21 i0 Tryd.underlying38 hi hz0 hz1 n (by rw [hz2]; omega) (by unfold maxLen; omega) n rfl
  have hn' : (n : Int) ≤ 60 := by omega
  have HM := Lib.hid hM
  have HG := Lib.hid hG
  have HL := Lib.hid hl
  have HJ := Lib.hid hJ
  have HNC := Lib.hid (And.intro hLn (And.intro hN (And.intro hNn (And.intro hD (And.intro hK (And.intro hA (And.intro hlk (And.intro hln hll))))))))
  have HOLD := Lib.hid hold
  clear hM hG hold hLn hN hNn hD hK hA hl hlk hln hll hJ
  go_enter Tryd.func35, Tryd.ntmps35
  go_upto_region 1 with (fail)
  obtain ⟨W0, hW0⟩ : ∃ W0, ((w.alloc (.cells #[.slice a m c, .slice a' (n + 1) c'] 51)).alloc (.cells #[.func (.func fn) #[] caps] 65)).alloc (.cells #[.slice none 0 0, .slice none 0 0, .slice none 0 0] 49) = W0 := ⟨_, rfl⟩
  rw [hW0]
  have hx : BlkAt w.heap.size 51 #[.slice a m c, .slice a' (n + 1) c'] W0 := hW0 ▸ ((BlkAt.new w _ _).al _).al _
  have hm0 : BlkAt (w.heap.size + 1) 65 #[.func (.func fn) #[] caps] W0 := hW0 ▸ (BlkAt.newb _ _ _ (by simp)).al _
  have hr0 : BlkAt (w.heap.size + 1 + 1) 49 #[.slice none 0 0, .slice none 0 0, .slice none 0 0] W0 := hW0 ▸ BlkAt.newb _ _ _ (by simp)
  have HX := Lib.hid hx
  have HM0 := Lib.hid hm0
  have HR0 := Lib.hid hr0
  have HB0 := Lib.hid (show Below w.heap.size w W0 from hW0 ▸ (((Below.refl _ _).alloc (Nat.le_refl _) _).alloc (by simp) _).alloc (by simp; omega) _)
  clear hW0 hx hm0 hr0
  go_cut [7] (fun s7 wx => WalkR W0 n s7 wx)
  case first =>
    refine wp_region_free (fun w' => Below W0.drew.heap.size W0.drew w') [(0, 0, 12, 8), (1, 1, 13, 2048), (2, 2, 14, 4096), (3, 0, 15, 8), (4, 12, 16, 16384), (5, 16, 17, 32768), (6, 36, 18, 73728), (7, 0, 8, 0), (8, 255, 0, 131200)] 8 [(0, 11), (1, 12), (2, 13), (3, 14), (4, 15), (5, 16), (6, 17), (7, 7)] [(0, []), (1, [(0, 11)]), (2, [(1, 12)]), (3, []), (4, [(3, 14)]), (5, [(4, 15)]), (6, [(2, 13), (5, 16)]), (7, [])] [(false, 8, 511)] [2, 5, 7]
      (fun i v w' => match i with
        | 0 => v = .agg #[.slice a m c, .slice a' (n + 1) c']
        | 1 => v = .int .i64 n
        | 2 => ∃ b, v = .slice (some ⟨b, 0, none⟩) (szS n) (szS n) ∧ SetAt b n (fun _ => false) w' ∧ W0.heap.size ≤ b
        | 3 => v = .agg #[.slice a m c, .slice a' (n + 1) c']
        | 4 => v = .int .i64 n
        | 5 => ∃ b, v = .slice (some ⟨b, 0, none⟩) n n ∧ Ar .i32 21 b n (fun _ => 0) w' ∧ W0.heap.size ≤ b
        | 6 => ∃ b b', v = .agg #[.slice (some ⟨b, 0, none⟩) (szS n) (szS n), .slice none 0 0, .slice (some ⟨b', 0, none⟩) n n] ∧ SetAt b n (fun _ => false) w' ∧ Ar .i32 21 b' n (fun _ => 0) w' ∧ W0.heap.size ≤ b ∧ W0.heap.size ≤ b'
        | 7 => ∃ b, v = .pointer (some ⟨b, 0, none⟩) ∧ BlkAt b 49 #[.slice none 0 0, .slice none 0 0, .slice none 0 0] w' ∧ W0.heap.size ≤ b
        | _ => True) (by kernel_rfl) (by kernel_rfl) (by kernel_rfl) (by kernel_rfl) (by kernel_rfl) (fun _ h => h) ?_ ?_ ?_
    · intro i v w1 w2 h hb
      match i, h with
      | 0, h | 1, h | 3, h | 4, h => exact h
      | 2, ⟨b, e, h, h'⟩ => exact ⟨b, e, h.keep hb, h'⟩
      | 5, ⟨b, e, h, h'⟩ => exact ⟨b, e, h.keep hb, h'⟩
      | 6, ⟨b, b', e, h1, h2, h3⟩ => exact ⟨b, b', e, h1.keep hb, h2.keep hb, h3⟩
      | 7, ⟨b, e, h, h'⟩ => exact ⟨b, e, h.keep hb, h'⟩
      | _ + 8, _ => trivial
    · refine ⟨?_, ?_, ?_, ?_, ?_, ?_, ?_, ?_, trivial⟩
      · intro o ho vals w1 hb hd hne
        cases ho
        have g0 := (BlkAt.keep (w := W0.drew) HX.out hb).cell 0
        have g1 := (BlkAt.keep (w := W0.drew) HX.out hb).cell 1
        exact .val (v := .agg #[.slice a m c, .slice a' (n + 1) c']) (w' := w1) (by simp [frA, execOp, Act.eval, go_sem, g0, g1]) ⟨rfl, Below.refl _ _, fun q => by simp at q⟩
      · intro o ho vals w1 hb hd hne
        cases ho
        have e0 : vals 0 = _ := hd (0, 11) (.head _)
        refine .call (f := 47) (vs := #[.agg #[.slice a m c, .slice a' (n + 1) c']]) (by simp [frA, execOp, Act.put, Act.eval, go_sem, e0]) ((graSize_is (n := n) _ _ _ (by omega)).mono ?_)
        rintro e w' ⟨rfl, hq⟩
        exact ⟨_, rfl, rfl, hq, fun q => by simp at q⟩
      · intro o ho vals w1 hb hd hne
        cases ho
        have e0 : vals 1 = _ := hd (1, 12) (.head _)
        refine .call (f := 48) (vs := #[.int .i64 n]) (by simp [frA, execOp, Act.put, Act.eval, go_sem, e0]) ((graNewSet_is n w1 hn).mono ?_)
        rintro e w' ⟨rfl, hs, hq⟩
        exact ⟨_, rfl, ⟨_, rfl, hs, hb.size⟩, hq, fun _ => ⟨_, rfl, Nat.le_refl _, hs.lt⟩⟩
      · intro o ho vals w1 hb hd hne
        cases ho
        have g0 := (BlkAt.keep (w := W0.drew) HX.out hb).cell 0
        have g1 := (BlkAt.keep (w := W0.drew) HX.out hb).cell 1
        exact .val (v := .agg #[.slice a m c, .slice a' (n + 1) c']) (w' := w1) (by simp [frA, execOp, Act.eval, go_sem, g0, g1]) ⟨rfl, Below.refl _ _, fun q => by simp at q⟩
      · intro o ho vals w1 hb hd hne
        cases ho
        have e0 : vals 3 = _ := hd (3, 14) (.head _)
        refine .call (f := 47) (vs := #[.agg #[.slice a m c, .slice a' (n + 1) c']]) (by simp [frA, execOp, Act.put, Act.eval, go_sem, e0]) ((graSize_is (n := n) _ _ _ (by omega)).mono ?_)
        rintro e w' ⟨rfl, hq⟩
        exact ⟨_, rfl, rfl, hq, fun q => by simp at q⟩
      · intro o ho vals w1 hb hd hne
        cases ho
        have e0 : vals 4 = _ := hd (4, 15) (.head _)
        exact .val (v := .slice (some ⟨w1.heap.size, 0, none⟩) n n) (by simp [frA, execOp, Act.put, Act.eval, go_sem, e0, hmk]) ⟨⟨_, rfl, Ar.zeros w1 rfl, hb.size⟩, (Below.refl _ _).alloc (Nat.le_refl _) _, fun _ => ⟨_, rfl, Nat.le_refl _, by simp⟩⟩
      · intro o ho vals w1 hb hd hne
        cases ho
        obtain ⟨b1, e3, h3, g3⟩ := hd (2, 13) (.head _)
        obtain ⟨b2, e7, h7, g7⟩ := hd (5, 16) (.tail _ (.head _))
        simp only at e3 e7
        exact .val (v := .agg #[.slice (some ⟨b1, 0, none⟩) (szS n) (szS n), .slice none 0 0, .slice (some ⟨b2, 0, none⟩) n n]) (w' := w1) (by simp [frA, execOp, Act.put, Act.eval, go_sem, e3, e7]) ⟨⟨b1, b2, rfl, h3, h7, g3, g7⟩, Below.refl _ _, fun q => by simp at q⟩
      · intro o ho vals w1 hb hd hne
        cases ho
        exact .val (v := .pointer (some ⟨w1.heap.size, 0, none⟩)) (by simp [execOp, go_sem]) ⟨⟨_, rfl, BlkAt.new _ _ _, hb.size⟩, (Below.refl _ _).alloc (Nat.le_refl _) _, fun _ => ⟨_, rfl, Nat.le_refl _, by simp⟩⟩
    · intro vals a1 w1 hI
      have e := hI.frame (by kernel_rfl) (by kernel_rfl)
      subst e
      have e0 : vals 0 = _ := hI.psi 0 (by omega) (by decide)
      have e1 : vals 1 = _ := hI.psi 1 (by omega) (by decide)
      have e3 : vals 3 = _ := hI.psi 3 (by omega) (by decide)
      have e4 : vals 4 = _ := hI.psi 4 (by omega) (by decide)
      obtain ⟨b, b', e6, h1, h2, h3, h4⟩ := hI.psi 6 (by omega) (by decide)
      obtain ⟨bx, e7, h6, h7⟩ := hI.psi 7 (by omega) (by decide)
      have HI := Lib.hid hI
      generalize vals 2 = v2 at *
      generalize vals 5 = v5 at *
      have f0 := h6.free 0
      have f1 := h6.free 1
      have f2 := h6.free 2
      have c0 := h6.cell 0
      have c1 := h6.cell 1
      have c2 := h6.cell 2
      refine SeqH.step rfl rfl fun K hK => ?_
      simp only [frA, List.foldl, e0, e1, e3, e4, e6, e7]
      go_simp
      refine hK _ _ ?_ (SeqH.done (NoPanic.normal ?_))
      · exact ((HI.out.below.setCell (p := ⟨bx, 0, none⟩) h7 _).setCell (p := ⟨bx, 1, none⟩) h7 _).setCell (p := ⟨bx, 2, none⟩) h7 _
      · go_wp2_with fail
        go_meet
        obtain ⟨cs, hs⟩ := h1.type
        have hb0 : Below W0.heap.size W0 w1 := (Below.refl _ _).drew.trans HI.out.below
        have hk2 : Keeps (fun j => j = bx) w1 (((w1.setCell ⟨bx, 0, none⟩ (.slice (some ⟨b, 0, none⟩) (szS n) (szS n))).setCell ⟨bx, 1, none⟩ (.slice none 0 0)).setCell ⟨bx, 2, none⟩ (.slice (some ⟨b', 0, none⟩) n n)) := ((Keeps.set1 _ _ _ _).trans (Keeps.set1 _ _ _ _)).trans (Keeps.set1 _ _ _ _)
        exact ⟨bx, b, b', rfl, (((h6.set 0 _).set 1 _).set 2 _).eq rfl, h1.kept hk2 (fun e => by subst e; exact absurd (BlkAt.type_eq hs h6) (by decide)), h2.kept hk2 (h2.ne_blk h6 (by decide)), h7, h3, h4, hk2.below hb0 hb0.size fun j e => by subst e; exact h7⟩
  case rest =>
    obtain ⟨bt, bc, bf, rfl, hT, hC, hF, l1, l2, l3, hB⟩ := hcut
    have hW0s := HR0.out.lt
    have hx := HX.out.keep hB
    have hm := HM0.out.keep hB
    have hr := HR0.out.keep hB
    have HBc := Lib.hid (HB0.out.trans (hB.mono HB0.out.size))
    obtain ⟨bs, hbs⟩ : ∃ x, wc.heap.size = x := ⟨_, rfl⟩
    obtain ⟨cs, hcs⟩ := hC.type
    have hlt := (And.intro hT.lt (And.intro hcs.lt hF.lt))
    obtain ⟨W3, hW3⟩ : ∃ W3, (wc.alloc (.cells #[.slice none 0 0] 76)).alloc (.cells #[.func (.func 49) #[] #[.pointer (some ⟨bt, 0, none⟩), .pointer (some ⟨w.heap.size + 1, 0, none⟩), .pointer (some ⟨bs, 0, none⟩)]] 79) = W3 := ⟨_, rfl⟩
    have hb3 : Below wc.heap.size wc W3 := hW3 ▸ ((Below.refl _ _).alloc (Nat.le_refl _) _).alloc (by simp) _
    have hs3 : W3.heap.size = bs + 2 := by rw [← hW3, ← hbs]; simp
    have hbx3 : BlkAt bs 76 #[.slice none 0 0] W3 := by
      rw [← hW3, ← hbs]
      exact (BlkAt.new _ _ _).al _
    have hwt3 : BlkAt (bs + 1) 79 #[.func (.func 49) #[] #[.pointer (some ⟨bt, 0, none⟩), .pointer (some ⟨w.heap.size + 1, 0, none⟩), .pointer (some ⟨bs, 0, none⟩)]] W3 := by
      rw [← hW3, ← hbs]
      exact BlkAt.newb _ _ _ (by simp)
    have HT := Lib.hid (hT.keep hb3)
    have HC := Lib.hid (hC.keep hb3)
    have HF := Lib.hid (hF.keep hb3)
    have HXc := Lib.hid (hx.keep hb3)
    have HMc := Lib.hid (hm.keep hb3)
    have HRc := Lib.hid (hr.keep hb3)
    have HBX := Lib.hid hbx3
    have HWT := Lib.hid hwt3
    have HB3 := Lib.hid (HBc.out.trans (hb3.mono HBc.out.size))
    have HW3 := Lib.hid hW3
    have hne : bt ≠ w.heap.size + 1 := by have := HMc.out.lt; omega
    have hWt := graWait_is (w := W3) (f := -1) (bs := bs) (bt := bt) (bm := w.heap.size + 1) (bc := bc) (base := bs + 2) HM.out hn HT.out HMc.out HBX.out HC.out (HL.out.keep HB3.out) (fun b' off q => ⟨(HNC.out.2.2.2.2.2.2.1 b' off q).1, by have := (HNC.out.2.2.2.2.2.2.1 b' off q).2; omega, by have := (HNC.out.2.2.2.2.2.2.1 b' off q).2; omega⟩) HNC.out.2.2.2.2.2.2.2.1 (OwnEl.nil stpK W3 _ _) (show 0 + l.length ≤ 100000 by have := HNC.out.2.2.2.2.2.2.2.2; omega) (HM.out.keep _ _ _ HJ.out HB3.out) (by omega) (by omega) (by omega)
    have HWt := Lib.hid hWt
    have HS := Lib.hid (And.intro hbs (And.intro hs3 (And.intro hlt (And.intro l1 (And.intro l2 (And.intro l3 hW0s))))))
    clear hx hm hr hcs hlt hb3 hs3 hbx3 hwt3 hT hC hF l1 l2 l3 hB hW0s hWt hW3 hne HX HM0 HR0 HB0 HBc
    subst hbs
    have hWt := HWt.out
    rw [← HW3.out] at hWt
    have HWc := Lib.hid hWt
    clear hWt HWt
    go_wp2_with (go_at_call 49; ((with_reducible refine (HWc.out).mono ?_); rintro e w4 ⟨rfl, sv', q1, q2, q3, q4, q5⟩); rw [HW3.out] at q4; have HQ := Lib.hid (And.intro q1 (And.intro q2 (And.intro q3 q4))); clear q1 q2 q3 q4 q5)
    clear HWc HW3
    generalize wc.heap.size = bs at *
    obtain ⟨-, hs3, hlt, l1, l2, l3, hW0s⟩ := HS.out
    obtain ⟨q1, q2, q3, q4⟩ := HQ.out
    obtain ⟨r, hr⟩ : ∃ r, Gra.waitS mv ms (fun _ => false) (-1) l s [] = r := ⟨_, rfl⟩
    have hr1 := Gra.waitS_size (mv := mv) (ms := ms) (came := fun _ => false) (f := -1) l s [] HNC.out.2.2.2.2.2.2.2.1 (by simp)
    have hr2 := Gra.waitS_from (mv := mv) (ms := ms) (came := fun _ => false) (f := -1) l s []
    rw [hr] at q2 q3 hr1 hr2
    have HRE := Lib.hid hr
    have hKl := fun j (h : K j) => HM.out.lt j h
    have hno : ∀ {j : Nat}, w.heap.size ≤ j → j ≠ bs → ¬ (K j ∨ j = bs ∨ (Value.slice none 0 0).ownBlock = some j) := fun h1 h2 e => by
      rcases e with e | e | e
      · have := hKl _ e; omega
      · exact h2 e
      · cases e
    have hb4 : Keeps K w w4 := (Keeps.of_below K HB3.out).next q4 fun j hj e => by
      rcases e with e | e | e
      · exact e
      · omega
      · cases e
    have hst0 := Gra.SizeT.start (n := n) (D := 200) (st := r.2) hr1.2
    have hnm : n * 201 ≤ 60 * 201 := Nat.mul_le_mul_right _ hn
    have hW4 : WalkL mv ms N (r.1, Gra.startT r.2) fn caps K J w0 a m c a' (n + 1) c' n w.heap.size bt bc bf (bs + 2) bs (w.heap.size + 1) (bs + 1) w.heap.size (w.heap.size + 1 + 1) w (.func (.func 50) #[] #[.pointer (some ⟨bs, 0, none⟩), .pointer (some ⟨bt, 0, none⟩), .pointer (some ⟨bs + 1, 0, none⟩), .pointer (some ⟨w.heap.size, 0, none⟩)])
        (r.2.length + Gra.uncame n (fun _ => false) * 201 + 1) (.func (.func 50) #[] #[.pointer (some ⟨bs, 0, none⟩), .pointer (some ⟨bt, 0, none⟩), .pointer (some ⟨bs + 1, 0, none⟩), .pointer (some ⟨w.heap.size, 0, none⟩)]) w4 := by
      refine ⟨r.1, Gra.startT r.2, _, sv', .refl _, ⟨⟨HT.out.kept q4 (hno (by omega) (by omega)), HC.out.kept q4 (hno (by omega) (by omega)), OwnW.nil _ _ _, HF.out.kept q4 (hno (by omega) (by omega)), by omega⟩, q1, q2, HMc.out.kept q4 (hno (by omega) (by omega)), HWT.out.kept q4 (hno (by omega) (by omega)), HXc.out.kept q4 (hno (by omega) (by omega)), q3, ?_, ?_, ?_⟩, ⟨hst0.cnt, hst0.ins, ?_⟩, ?_, hb4, HRc.out.kept q4 (hno (by omega) (by omega)), .inl ⟨rfl, Nat.le_refl _⟩⟩
      · exact hb4.below HOLD.out HOLD.out.size HNC.out.2.2.2.2.1
      · have := HOLD.out.size; omega
      · have := q4.size; omega
      · have := hst0.room; have := hr1.1; have := HNC.out.2.2.2.2.2.2.2.2; simp only [List.length_nil] at *; omega
      · intro y hy
        rcases hr2 y hy with h | h
        · cases h
        · omega
    have HW4 := Lib.hid hW4
    have HN2 := Lib.hid (And.intro hs3 (And.intro hlt (And.intro l1 (And.intro l2 (And.intro l3 hW0s)))))
    clear hs3 hlt l1 l2 l3 hW0s q1 q2 q3 q4 hr1 hr2 hKl hno hb4 hst0 hW4 HQ HS HT HC HF HXc HMc HRc HBX HWT HB3 hr
    have hl1 := legNil
    have hl2 := legSome
    go_loopg [10] (r.2.length + Gra.uncame n (fun _ => false) * 201 + 1) (fun k v10 wr => WalkL mv ms N (r.1, Gra.startT r.2) fn caps K J w0 a m c a' (n + 1) c' n w.heap.size bt bc bf (bs + 2) bs (w.heap.size + 1) (bs + 1) w.heap.size (w.heap.size + 1 + 1) w (.func (.func 50) #[] #[.pointer (some ⟨bs, 0, none⟩), .pointer (some ⟨bt, 0, none⟩), .pointer (some ⟨bs + 1, 0, none⟩), .pointer (some ⟨w.heap.size, 0, none⟩)]) k v10 wr)
    case atStart => exact HW4.out
    case round =>
      obtain ⟨s', T, ov, sv, h1, h2, h3, h4, h5, h6, h7⟩ := hrel
      have H1 := Lib.hid h1
      have H2 := Lib.hid h2
      have H3 := Lib.hid h3
      have H4 := Lib.hid h4
      have H5 := Lib.hid h5
      have H6 := Lib.hid h6
      clear h1 h2 h3 h4 h5 h6 HW4
      rcases h7 with ⟨rfl, hk⟩ | ⟨rfl, hst⟩
      · have HK := Lib.hid hk
        clear hk
        rcases List.eq_nil_or_concat T.st with hst | ⟨st0, ⟨f, x⟩, hst⟩
        · have HST := Lib.hid hst
          have HE := Lib.hid (graLegEnd_is (.func (.func 50) #[] #[.pointer (some ⟨bs, 0, none⟩), .pointer (some ⟨bt, 0, none⟩), .pointer (some ⟨bs + 1, 0, none⟩), .pointer (some ⟨w.heap.size, 0, none⟩)]) H2.out hst)
          clear hst
          go_wp2_with (go_at_call 50; ((with_reducible refine (HE.out).mono ?_); rintro e w5 ⟨rfl, rfl⟩))
          go_roundg 0
          case measure => have := HK.out; omega
          case rel => exact ⟨s', T, ov, sv, H1.out, H2.out, H3.out, H4.out, H5.out, H6.out, .inr ⟨rfl, HST.out⟩⟩
        · rw [List.concat_eq_append] at hst
          have hx := H3.out.ins (f, x) (by rw [hst]; simp)
          have hf := H4.out (f, x) (by rw [hst]; simp)
          have HST := Lib.hid hst
          have HE := Lib.hid (graLeg_is (f := f) (x := x) (.func (.func 50) #[] #[.pointer (some ⟨bs, 0, none⟩), .pointer (some ⟨bt, 0, none⟩), .pointer (some ⟨bs + 1, 0, none⟩), .pointer (some ⟨w.heap.size, 0, none⟩)]) HM.out H2.out HG.out HNC.out.1 HNC.out.2.1 HNC.out.2.2.1 HNC.out.2.2.2.1 hst hn hx (by simp only at hf; omega) (by have := H3.out.cnt; omega) (by have := H3.out.room; omega) HNC.out.2.2.2.2.1 HNC.out.2.2.2.2.2.1)
          have HXF := Lib.hid (And.intro hx hf)
          clear hst hx hf
          go_wp2_with (go_at_call 50; ((with_reducible refine (HE.out).mono ?_); rintro e w5 ⟨rfl, hleg⟩); have HLEG := Lib.hid hleg; clear hleg)
          have hsz := H3.out.step (mv := mv) (ms := ms) (N := N) (s := s') HST.out HNC.out.2.2.1 HNC.out.2.2.2.1
          go_roundg ((Gra.stepT mv ms N st0 f x s' T).2.st.length + Gra.uncame n (Gra.stepT mv ms N st0 f x s' T).2.came * 201 + 1)
          case measure => have := HK.out; have := hsz.2; omega
          case rel =>
            obtain ⟨ov', sv', g1, g2⟩ := HLEG.out
            have hge := HN2.out
            have hbr := H6.out.lt
            refine ⟨_, _, ov', sv', H1.out.next HST.out, g1, hsz.1, H4.out.step HST.out HXF.out.1, H5.out.next g2 fun j hj e => ?_, H6.out.kept g2 fun e => ?_, .inl ⟨rfl, Nat.le_refl _⟩⟩
            · rcases e with e | e | e | e | e | e
              · exact e
              all_goals omega
            · rcases e with e | e | e | e | e | e
              · have := HM.out.lt _ e; omega
              all_goals omega
      · have HST := Lib.hid hst
        obtain ⟨ao, co, rfl, -⟩ := H2.out.trip.ord.wsn (m := T.ord.length) (by simp)
        have t0 := H2.out.trip.box.cell 0
        have t1 := H2.out.trip.box.cell 1
        have t2 := H2.out.trip.box.cell 2
        have g0 := H6.out.free 0
        have g1 := H6.out.free 1
        have g2 := H6.out.free 2
        have y0 := H6.out.cell 0
        have y1 := H6.out.cell 1
        have y2 := H6.out.cell 2
        clear hst
        have hge := HN2.out
        have nb1 : ¬ bt = w.heap.size + 1 + 1 := by omega
        have nb2 : ¬ w.heap.size + 1 + 1 = bt := by omega
        clear hge
        go_wp2_with fail
        refine bodyPost_ret (v := .agg #[.slice (some ⟨bc, 0, none⟩) (szS n) (szS n), .slice ao T.ord.length co, .slice (some ⟨bf, 0, none⟩) n n]) (by simp [results, Tryd.results35, go_sem, y0, y1, y2]) rfl ?_
        have hge := HN2.out
        have kx : Keeps (fun j => j = w.heap.size + 1 + 1) wr (((wr.setCell ⟨w.heap.size + 1 + 1, 0, none⟩ (.slice (some ⟨bc, 0, none⟩) (szS n) (szS n))).setCell ⟨w.heap.size + 1 + 1, 1, none⟩ (.slice ao T.ord.length co)).setCell ⟨w.heap.size + 1 + 1, 2, none⟩ (.slice (some ⟨bf, 0, none⟩) n n)) := ((Keeps.set1 _ _ _ _).trans (Keeps.set1 _ _ _ _)).trans (Keeps.set1 _ _ _ _)
        have hb : Below w.heap.size wr (((wr.setCell ⟨w.heap.size + 1 + 1, 0, none⟩ (.slice (some ⟨bc, 0, none⟩) (szS n) (szS n))).setCell ⟨w.heap.size + 1 + 1, 1, none⟩ (.slice ao T.ord.length co)).setCell ⟨w.heap.size + 1 + 1, 2, none⟩ (.slice (some ⟨bf, 0, none⟩) n n)) := kx.below (Below.refl _ _) H5.out.size fun j e => by omega
        have h1 := H1.out
        rw [← HRE.out] at h1
        refine ⟨_, s', T, rfl, ⟨bc, bf, bs + 2, _, rfl, H2.out.trip.came.kept kx (by omega), H2.out.trip.ord.kept kx fun j e q => ?_, H2.out.trip.frm.kept kx (by omega), by omega, by omega, by omega, by omega⟩, HST.out, h1, HM.out.keep _ _ _ H2.out.j hb, H5.out.next kx fun j hj e => by omega⟩
        have := (H2.out.trip.ord.lt j e).1
        omega
end Go.Proofs.YtggiaopdgijgnaaDoor
