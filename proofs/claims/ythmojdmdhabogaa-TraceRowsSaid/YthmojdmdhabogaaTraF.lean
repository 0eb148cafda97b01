/- Package trace's First and Folds. Conditions: the lists can be read; a list whose folds are asked is no longer than 2^20. -/
import Derived.Test.YthmojdmdhabogaaTraE
import Derived.Test.YthmojdmdhabogaaTraB
import Derived.Test.YthmojdmdhabogaaElsM
namespace Go.Proofs.Ythmojdmdhabogaa
open Go.RowKit Go.IntWalk Go.Shelf

attribute [local go_sem] Oper.semAt_some

theorem all_same {l l' : List Mk} {k : Nat} (h : ∀ p ∈ (l.zip l').take k, p.1 = p.2) (h1 : k ≤ l.length) (h2 : k ≤ l'.length) : ∀ j, j < k → mkAt l j = mkAt l' j := by
  intro j hj
  have hm : (mkAt l j, mkAt l' j) ∈ (l.zip l').take k := by
    rw [List.mem_take_iff_getElem]
    exact ⟨j, by simp; omega, by rw [List.getElem_zip, mkAt_eq (by omega), mkAt_eq (by omega)]⟩
  exact h _ hm
theorem pre_take {α : Type} {p t : List α} (h : p <+: t) : p = t.take p.length := (List.prefix_iff_eq_take.1 h)
theorem last_pair {l l' : List Mk} {q : List (Mk × Mk)} {x : Mk × Mk} (h : q ++ [x] <+: l.zip l') : q.length < l.length ∧ q.length < l'.length ∧ x = (mkAt l q.length, mkAt l' q.length) ∧ q = (l.zip l').take q.length := by
  have hl := h.length_le
  simp at hl
  have e := pre_take h
  have h1 : q.length < l.length := by omega
  have h2 : q.length < l'.length := by omega
  rw [List.length_append, List.length_singleton, zip_take h1 h2] at e
  obtain ⟨e1, e2⟩ := List.append_inj' e rfl
  exact ⟨h1, h2, by simpa using e2, e1⟩
theorem results_one {P : Program} {fn : Func} {p : Tmp} {ty : TypeId} (h : fn.results = #[.cell p ty]) (tmps : Array Value) (w : World) (g : Nat) (v : Value) (hp : tmps.getD p undef = .pointer (some ⟨g, 0, none⟩)) (hc : w.cell? ⟨g, 0, none⟩ = some v)
    (ha : (isAgg ty).run P w = .ok false w) : (results fn tmps).run P w = .ok v w := by
  have hp' : tmps[p]?.getD undef = .pointer (some ⟨g, 0, none⟩) := by simpa using hp
  simp [results, h, hp', asAddr, go_sem, hc, ha]

theorem eq_mkb (a b c a' b' c' : Int) (r : Bool) (hr : (a == a' && (b == b' && (c == c'))) = r) (w : World) : Sem.run Try.prog (Op.equalIn 10000 32 (.agg #[.int .i64 a, .int .i64 b, .int .i64 c]) (.agg #[.int .i64 a', .int .i64 b', .int .i64 c'])) w = .ok r w := by
  subst hr
  rw [run_equalIn_struct w 9999 32 _ _ (by kernel_rfl) (by kernel_rfl)]
  have hu := Try.underlying32
  simp only [Program.fieldsOf, hu]
  go_simp
  repeat' split
  all_goals simp_all
theorem boxed_from {X Y : World} {B b : Nat} {row : Option Nat} {t : TypeId} {v : Value} (h : Boxed X b t v) (hg : X.grownBy Y row) (hr : ∀ r, row = some r → B ≤ r ∧ ∃ o : Obj, X.heap[r]? = some o ∧ o.isCells = false) : Boxed Y b t v :=
  h.kept hg fun e => by
    obtain ⟨_, ob, h1, h2⟩ := hr _ e.symm
    rw [show X.heap[b]? = _ from h] at h1
    obtain rfl := Option.some.inj h1
    cases h2
/-- The world with both marks of a round in boxes of their own. -/
def twoV (X : World) (p : Mk × Mk) : World := (X.alloc (.cells #[.int .i64 p.1.1, .int .i64 p.1.2.1, .int .i64 p.1.2.2] 32)).alloc (.cells #[.int .i64 p.2.1, .int .i64 p.2.2.1, .int .i64 p.2.2.2] 32)
theorem twoV_grown (x : Mk × Mk) (X : World) : X.grownBy (twoV X x) none := (World.grownBy_alloc X _ none).trans (World.grownBy_alloc _ _ none)
theorem twoV_cells {V X : World} {p : Mk × Mk} (h : ∀ k, V.heap.size ≤ k → X.heap[k]? = (twoV V p).heap[k]?) :
    X.cell? ⟨V.heap.size, 0, none⟩ = some (.int .i64 p.1.1) ∧ X.cell? ⟨V.heap.size, 1, none⟩ = some (.int .i64 p.1.2.1) ∧ X.cell? ⟨V.heap.size, 2, none⟩ = some (.int .i64 p.1.2.2) ∧
    X.cell? ⟨V.heap.size + 1, 0, none⟩ = some (.int .i64 p.2.1) ∧ X.cell? ⟨V.heap.size + 1, 1, none⟩ = some (.int .i64 p.2.2.1) ∧ X.cell? ⟨V.heap.size + 1, 2, none⟩ = some (.int .i64 p.2.2.2) := by
  have h0 := h V.heap.size (Nat.le_refl _)
  have h1 := h (V.heap.size + 1) (by omega)
  refine ⟨?_, ?_, ?_, ?_, ?_, ?_⟩
  all_goals first
    | (rw [World.cell?_of_block (a := ⟨V.heap.size, _, none⟩) h0]; unfold twoV; go_cell)
    | (rw [World.cell?_of_block (a := ⟨V.heap.size + 1, _, none⟩) h1]; unfold twoV; go_cell)
set_option maxRecDepth 100000 in
set_option maxHeartbeats 1000000 in
theorem traFirst_is (a a' : Option Addr) (n c n' c' : Nat) (l l' : List Mk) (w : World) (hL : MkAt w a n c l) (hL' : MkAt w a' n' c' l') :
    Calls Try.prog 12 #[.slice a n c, .slice a' n' c'] w fun e w' => e = .returned (.int .i64 (tFirst l l')) ∧ Below w.heap.size w w' := by
  have b0 := (Boxed.new w 3 (.int .i64 0)).alloc (.cells #[.int .i64 0] 3)
  have b1 := Boxed.new (w.alloc (.cells #[.int .i64 0] 3)) 3 (.int .i64 0)
  rw [World.size_alloc] at b1
  have hb0 := ((Below.refl w.heap.size w).alloc (Nat.le_refl _) (.cells #[.int .i64 0] 3)).alloc (by simp) (.cells #[.int .i64 0] 3)
  obtain ⟨W0, hW0⟩ : ∃ W0, (w.alloc (.cells #[.int .i64 0] 3)).alloc (.cells #[.int .i64 0] 3) = W0 := ⟨_, rfl⟩
  have hs0 : W0.heap.size = w.heap.size + 2 := by rw [← hW0]; simp
  rw [hW0] at b0 b1 hb0
  have HW0 := Lib.hid hW0
  clear hW0
  refine (callsIn_wide (n := 8)).1 ?_
  refine callsIn_of_wp_marks Try.func12 rfl trivial ?_ rfl
  simp only [Try.ntmps12, List.size_toArray, List.length_cons, List.length_nil, Nat.reduceAdd, Nat.reduceSub, Array.replicate_succ, Array.replicate_zero, List.push_toArray, List.append_toArray, List.nil_append, List.cons_append]
  gi_wp2_with fail
  rw [HW0.out]
  refine ⟨trivial, (callsIn_wide.2 (traPairs_is a a' n c n' c' W0)).mono ?_⟩
  rintro e W ⟨rfl, hW⟩
  rw [hs0]
  have hb : Below w.heap.size w W := by rw [← hW]; exact (hb0.alloc (by omega) _).alloc (by simp; omega) _
  have hs : W.heap.size = w.heap.size + 4 := by rw [← hW]; simp; omega
  have c1 : W.cell? ⟨w.heap.size + 2, 0, none⟩ = some (.slice a n c) := by rw [← hW, ← hs0]; exact ((Boxed.new W0 _ _).alloc _).cell
  have c2 : W.cell? ⟨w.heap.size + 3, 0, none⟩ = some (.slice a' n' c') := by
    rw [← hW]; have := (Boxed.new (W0.alloc (.cells #[.slice a n c] 22)) 22 (.slice a' n' c')).cell; rwa [World.size_alloc, hs0] at this
  have b2 : Boxed W w.heap.size 3 (.int .i64 0) := by rw [← hW]; exact (b0.alloc _).alloc _
  have b3 : Boxed W (w.heap.size + 1) 3 (.int .i64 0) := by rw [← hW]; exact (b1.alloc _).alloc _
  have HK : ∀ k, twoM (w.heap.size + 2) (w.heap.size + 3) a n a' n' k → k < W.heap.size ∧ k ≠ w.heap.size ∧ k ≠ w.heap.size + 1 := by
    rintro q (rfl | rfl | ⟨h0, off, e⟩ | ⟨h0, off, e⟩)
    · omega
    · omega
    · have := hL.lt h0 _ _ e; omega
    · have := hL'.lt h0 _ _ e; omega
  have hLW := hL.keep (hb.mono (Nat.le_refl _))
  have hLW' := hL'.keep (hb.mono (Nat.le_refl _))
  have hlen := hL.len
  have hlen' := hL'.len
  clear hW HW0 hL hL' b0 b1 hb0
  gi_wp2
  refine wpIn_rangeA rfl (by decide) (gf := 34) (lb := #[.pointer (some ⟨w.heap.size + 2, 0, none⟩), .pointer (some ⟨w.heap.size + 3, 0, none⟩)]) rfl trivial (enters_of Try.func34 (by kernel_rfl) rfl)
    (traPairs_seq 7 _ _ n c n' c' a a' l l' W (by omega) (by omega) (by omega) c1 c2 hLW hLW') (Below.refl _ _) (fun k hk => (HK k hk).1) (fun _ => rfl)
    (fun o pre X => (o = none ∧ (∃ r, Boxed X w.heap.size 3 r) ∧ Boxed X (w.heap.size + 1) 3 (.int .i64 pre.length) ∧ ∀ p ∈ pre, p.1 = p.2) ∧ Below w.heap.size w X)
    (fun cd o pre X => (cd = .ret ∧ o = none ∧ ∃ q x, pre = q ++ [x] ∧ (∀ p ∈ q, p.1 = p.2) ∧ x.1 ≠ x.2 ∧ Boxed X w.heap.size 3 (.int .i64 q.length)) ∧ Below w.heap.size w X)
    ?hI ?hIx (fun o xs X h k hk => by rw [h.1.1] at hk; cases hk) none (fun _ _ h => by cases h) ⟨⟨rfl, ⟨_, b2⟩, b3, fun p hp => by cases hp⟩, hb⟩
    (fun x X => { tmps := #[.slice a n c, .slice a' n' c', undef, undef, .pointer (some ⟨w.heap.size, 0, none⟩), .pointer (some ⟨w.heap.size + 1, 0, none⟩), .pointer (some ⟨X.heap.size, 0, none⟩), .pointer (some ⟨X.heap.size + 1, 0, none⟩), .slice a n c, .slice a' n' c',
      .func (.func 34) #[] #[.pointer (some ⟨w.heap.size + 2, 0, none⟩), .pointer (some ⟨w.heap.size + 3, 0, none⟩)], mkG x.1, mkG x.2, undef, undef, undef, undef, undef, undef, undef, undef, undef, undef, undef, undef], defers := [] })
    (fun x X => twoV X x) twoV_grown ?assign ?body ?done ?stop
  case hI =>
    intro o s X Y row hs hg hr
    obtain ⟨⟨h1, ⟨r, h2⟩, h3, h4⟩, h5⟩ := hs
    exact ⟨⟨h1, ⟨r, boxed_from h2 hg hr⟩, boxed_from h3 hg hr, h4⟩, ownFrom_below (Nat.le_refl _) (by omega) s X Y row h5 hg hr⟩
  case hIx =>
    intro cd o s X Y row hs hg hr
    obtain ⟨⟨h1, h2, q, x, h3, h4, h5, h6⟩, h7⟩ := hs
    exact ⟨⟨h1, h2, q, x, h3, h4, h5, boxed_from h6 hg hr⟩, ownFrom_below (Nat.le_refl _) (by omega) s X Y row h7 hg hr⟩
  case assign =>
    rintro l2 ⟨⟨u0, u1, u2⟩, ⟨v0, v1, v2⟩⟩ X Kc hKc
    simp only [pkV, mkG, twoV] at hKc ⊢
    gi_wp2
    exact hKc
  case body =>
    rintro l2 o pre ⟨⟨u0, u1, u2⟩, ⟨v0, v1, v2⟩⟩ V X ⟨⟨rfl, ⟨r, d0⟩, d1, hsm⟩, hB⟩ hT hV1 hV2 hsz hnew
    have hpl := (last_pair hT).1
    have hle := hB.size
    have hbig : ((pre.length : Nat) : Int) + 1 ≤ 9223372036854775807 := by have := hLW.cap; have := hLW.big; unfold maxLen at this; omega
    have q1 := d1.cell
    have f0 := d0.frozen
    have f1 := d1.frozen
    have q0 := d0.cell
    have D0 := Lib.hid d0
    have D1 := Lib.hid d1
    obtain ⟨x0, x1, x2, y0, y1, y2⟩ := twoV_cells hnew
    simp only at x0 x1 x2 y0 y1 y2
    have hcalm : ∀ (Y : World) (u : Value) (b : Nat), (b = w.heap.size ∨ b = w.heap.size + 1) → Calm (twoM (w.heap.size + 2) (w.heap.size + 3) a n a' n') W.heap.size none none Y (Y.setCell ⟨b, 0, none⟩ u) := fun Y u b hb' =>
      Calm.of_grown (grownBy_setCell' Y b u) (fun k e _ => by
        cases e
        refine ⟨fun h => ?_, by omega⟩
        have := HK _ h
        omega)
    have HB := Lib.hid hB
    have HS := Lib.hid hsm
    clear hB d0 d1 hT hsm hpl hsz hnew hV1
    by_cases e : ((u0, u1, u2) : Mk) = (v0, v1, v2)
    · have HE := Lib.hid e
      simp only [Prod.mk.injEq] at e
      have hE := eq_mkb u0 u1 u2 v0 v1 v2 true (by simp [e])
      clear e
      simp only [mkG]
      gi_wp2
      exact ⟨none, hcalm _ _ _ (.inr rfl), ⟨rfl, ⟨r, D0.out.other (B' := w.heap.size + 1) (by omega) _⟩, by rw [List.length_append, List.length_singleton]; exact D1.out.set _, fun p hp => by
        rcases List.mem_append.1 hp with hp | hp
        · exact HS.out p hp
        · rw [List.mem_singleton.1 hp]; exact HE.out⟩, HB.out.setCell (p := ⟨w.heap.size + 1, 0, none⟩) (by simp) _⟩
    · have HE := Lib.hid e
      have hE := eq_mkb u0 u1 u2 v0 v1 v2 false (by
        simp only [Prod.mk.injEq, not_and] at e
        by_cases e0 : u0 = v0
        · by_cases e1 : u1 = v1
          · have e2 := e e0 e1
            simp [e2]
          · simp [e1]
        · simp [e0])
      clear e
      simp only [mkG]
      gi_wp2
      exact ⟨none, hcalm _ _ _ (.inl rfl), ⟨rfl, rfl, pre, _, rfl, HS.out, HE.out, D0.out.set _⟩, HB.out.setCell (p := ⟨w.heap.size, 0, none⟩) (Nat.le_refl _) _⟩
  case done =>
    rintro D o xs X hD rfl ⟨⟨rfl, ⟨r, d0⟩, d1, hsm⟩, hB⟩ hdef hne
    have q0 := d0.cell
    have q1 := d1.cell
    have f0 := d0.frozen
    have f1 := d1.frozen
    have hDR : D ≠ w.heap.size := by omega
    have hset : ∀ u, (X.setCell ⟨w.heap.size, 0, none⟩ u).heap[D]? = some (.deferred (some [])) := fun u => (Below.heap_setCell _ _ _ _ hDR).trans hdef
    have hq : ∀ u, ((X.setCell ⟨w.heap.size, 0, none⟩ u).putObj D (.deferred Option.none)).cell? ⟨w.heap.size, 0, none⟩ = some u := fun u => by
      rw [World.cell?_of_block (a := ⟨w.heap.size, 0, none⟩) (World.putObj_heap_other (by simp; omega))]
      exact (d0.set u).cell
    have hBf : ∀ u, Below w.heap.size w ((X.setCell ⟨w.heap.size, 0, none⟩ u).putObj D (.deferred Option.none)) := fun u =>
      (hB.setCell (p := ⟨w.heap.size, 0, none⟩) (Nat.le_refl _) u).trans (belowK_b (w := w) (Nat.le_refl _) _ D _ _ (by omega) (hset u) rfl rfl)
    have hall := all_same (l := l) (l' := l') (k := (l.zip l').length) (by rw [List.take_length]; exact hsm) (by simp; omega) (by simp; omega)
    have hzl : (l.zip l').length = min n n' := by simp [hlen, hlen']
    rw [hzl] at q1 hall
    have HS := Lib.hid hset
    have HQ := Lib.hid hq
    have HBF := Lib.hid hBf
    have HA := Lib.hid hall
    clear d0 d1 hsm hset hq hBf hall hzl hB hdef
    by_cases hnn : n = n'
    · subst hnn
      have HF := Lib.hid (show tFirst l l' = -1 from tFirst_ends (k := n) (by omega) (by omega) (by have := HA.out; rwa [Nat.min_self] at this))
      gi_wp2
      refine ⟨by simp, .inl ⟨_, _, rfl, run_takeDeferred (HS.out _), ?_⟩⟩
      exact ⟨_, results_one (p := 4) rfl _ _ w.heap.size _ rfl (HQ.out _) (Try.isAgg3 _), retI HF.out.symm, HBF.out _⟩
    · have hb' : ((n : Int) == n') = false := by simp; omega
      have HF := Lib.hid (show tFirst l l' = ((min n n' : Nat) : Int) from tFirst_at (by omega) (by omega) HA.out (by omega))
      gi_wp2
      refine ⟨by simp, .inl ⟨_, _, rfl, run_takeDeferred (HS.out _), ?_⟩⟩
      exact ⟨_, results_one (p := 4) rfl _ _ w.heap.size _ rfl (HQ.out _) (Try.isAgg3 _), retI HF.out.symm, HBF.out _⟩
  case stop =>
    rintro D cd o pre X hD hSp ⟨⟨rfl, rfl, q, x, rfl, h4, h5, h6⟩, hB⟩ hdef hne
    obtain ⟨h1, h2, e1, e2⟩ := last_pair hSp
    have HF := Lib.hid (show tFirst l l' = (q.length : Nat) from tFirst_at (by omega) (by omega) (all_same (by rw [← e2]; exact h4) (by omega) (by omega)) (.inr (.inr ⟨h1, h2, by rw [e1] at h5; exact h5⟩)))
    gi_wp2
    refine ⟨by simp, .inl ⟨_, _, rfl, run_takeDeferred hdef, ?_⟩⟩
    exact ⟨_, results_one (p := 4) rfl _ _ w.heap.size _ rfl (by rw [World.cell?_of_block (a := ⟨w.heap.size, 0, none⟩) (World.putObj_heap_other (by simp; omega))]; exact h6.cell) (Try.isAgg3 _), retI HF.out.symm, hB.trans (belowK_b (w := w) (Nat.le_refl _) X D _ _ (by omega) hdef rfl rfl)⟩

theorem infoI64t : (Try.prog.info? 3).map (fun i => (i.zero, i.size, i.bytes)) = some (some (.int .i64 0), 1, 8) := by kernel_rfl
theorem foldsTo_succ (l : List Mk) (k : Nat) : foldsTo l (k + 1) = if (mkAt l (k + 1)).1 = wrap64 ((mkAt l k).1 + 1) then foldsTo l k else foldsTo l k ++ [((k + 1 : Nat) : Int)] := rfl
theorem mkAt_drop (l : List Mk) (k i : Nat) : mkAt (l.drop k) i = mkAt l (k + i) := el_drop l k i
set_option maxRecDepth 100000 in
set_option maxHeartbeats 1000000 in
theorem traFolds_is (a : Option Addr) (n c : Nat) (l : List Mk) (w : World) (hL : MkAt w a n c l) (hn : n ≤ 1048576) :
    Calls Try.prog 17 #[.slice a n c] w fun e w' => RetI w 3 (tFolds l) e w' := by
  obtain ⟨N, hN⟩ : ∃ N : Nat, (N : Int) = min (1 : Int) n := ⟨min 1 n, by omega⟩
  have hmin := fun w => run_min2 (P := Try.prog) w #[3, 3] 3 .i64 1 n N hN
  have hN1 : N ≤ 1 := by omega
  have hN2 : N ≤ n := by omega
  have hN3 : n ≠ 0 → N = 1 := by omega
  obtain ⟨a', c', hs, hL'⟩ := hL.from (m := N) hN2
  have hsl : ∀ w, (Instr.slice 22 (.slice a n c) (some (.int .i64 N)) none none).run Try.prog w = .ok (.slice a' (n - N : Nat) c') w := fun w => by rw [run_cut_from 22 Try.underlying22 (s := 3) (fun w => Try.sizeOf32 w) a n c N hN2 w, hs]
  have hcap := hL.cap
  have hbig := hL.big
  unfold maxLen at hbig
  have b0 := (Boxed.new w 28 (.slice none 0 0)).alloc (.cells #[.int .i64 0] 3)
  have b1 := Boxed.new (w.alloc (.cells #[.slice none 0 0] 28)) 3 (.int .i64 0)
  rw [World.size_alloc] at b1
  have hb0 := ((Below.refl w.heap.size w).alloc (Nat.le_refl _) (.cells #[.slice none 0 0] 28)).alloc (by simp) (.cells #[.int .i64 0] 3)
  obtain ⟨W0, hW0⟩ : ∃ W0, (w.alloc (.cells #[.slice none 0 0] 28)).alloc (.cells #[.int .i64 0] 3) = W0 := ⟨_, rfl⟩
  have hs0 : W0.heap.size = w.heap.size + 2 := by rw [← hW0]; simp
  rw [hW0] at b0 b1 hb0
  have HW0 := Lib.hid hW0
  have HN := Lib.hid hN
  have HS := Lib.hid hs
  have HN3 := Lib.hid hN3
  clear hW0 hN hs hN3
  obtain ⟨i0, hi, hz0, hz1, hz2⟩ := info_parts infoI64t
  refine (callsIn_wide (n := 8)).1 ?_
  refine callsIn_of_wp_marks Try.func17 rfl trivial ?_ rfl
  simp only [Try.ntmps17, List.size_toArray, List.length_cons, List.length_nil, Nat.reduceAdd, Nat.reduceSub, Array.replicate_succ, Array.replicate_zero, List.push_toArray, List.append_toArray, List.nil_append, List.cons_append]
  gi_wp2_with fail
  rw [HW0.out]
  refine ⟨trivial, (callsIn_wide.2 (traPairs_is a a' n c (n - N) c' W0)).mono ?_⟩
  rintro e W ⟨rfl, hW⟩
  rw [hs0]
  have hb : Below w.heap.size w W := by rw [← hW]; exact (hb0.alloc (by omega) _).alloc (by simp; omega) _
  have hsz : W.heap.size = w.heap.size + 4 := by rw [← hW]; simp; omega
  have c1 : W.cell? ⟨w.heap.size + 2, 0, none⟩ = some (.slice a n c) := by rw [← hW, ← hs0]; exact ((Boxed.new W0 _ _).alloc _).cell
  have c2 : W.cell? ⟨w.heap.size + 3, 0, none⟩ = some (.slice a' (n - N : Nat) c') := by
    rw [← hW]; have := (Boxed.new (W0.alloc (.cells #[.slice a n c] 22)) 22 (.slice a' (n - N : Nat) c')).cell; rwa [World.size_alloc, hs0] at this
  have b2 : Boxed W w.heap.size 28 (.slice none 0 0) := by rw [← hW]; exact (b0.alloc _).alloc _
  have b3 : Boxed W (w.heap.size + 1) 3 (.int .i64 0) := by rw [← hW]; exact (b1.alloc _).alloc _
  have HK : ∀ k, twoM (w.heap.size + 2) (w.heap.size + 3) a n a' (n - N) k → k < W.heap.size ∧ k ≠ w.heap.size ∧ k ≠ w.heap.size + 1 := by
    rintro q (rfl | rfl | ⟨h0, off, e⟩ | ⟨h0, off, e⟩)
    · omega
    · omega
    · have := hL.lt h0 _ _ e; omega
    · have := hL'.lt h0 _ _ e; omega
  have hLW := hL.keep (hb.mono (Nat.le_refl _))
  have hLW' := hL'.keep (hb.mono (Nat.le_refl _))
  have hlen := hL.len
  have hlen' := hL'.len
  clear hW HW0 hL hL' b0 b1 hb0
  gi_wp2
  refine wpIn_rangeA rfl (by decide) (gf := 34) (lb := #[.pointer (some ⟨w.heap.size + 2, 0, none⟩), .pointer (some ⟨w.heap.size + 3, 0, none⟩)]) rfl trivial (enters_of Try.func34 (by kernel_rfl) rfl)
    (traPairs_seq 7 _ _ n c (n - N) c' a a' l (l.drop N) W (by omega) (by omega) (by omega) c1 c2 hLW hLW') (Below.refl _ _) (fun k hk => (HK k hk).1) (fun _ => rfl)
    (fun o pre X => ((∃ v, Boxed X w.heap.size 28 v ∧ X.ownsRow (w.heap.size + 2) 3 1 v (foldsTo l pre.length).length ((foldsTo l pre.length).map (Value.int .i64)) ∧ o = v.ownBlock) ∧ Boxed X (w.heap.size + 1) 3 (.int .i64 pre.length)) ∧ Below w.heap.size w X)
    (fun _ _ _ _ => False)
    ?hI (fun _ _ _ _ _ _ hs _ _ => hs) (fun o xs X ⟨⟨⟨v, _, hrow, ho⟩, _⟩, _⟩ k hk => (World.ownsRow.lt hrow k (by rw [← ho]; exact hk)).2) none (fun _ _ h => by cases h) ⟨⟨⟨_, b2, World.ownsRow_nil _ _ _ _, rfl⟩, b3⟩, hb⟩
    (fun x X => { tmps := #[.slice a n c, undef, .slice none 0 0, .pointer (some ⟨w.heap.size, 0, none⟩), .pointer (some ⟨w.heap.size + 1, 0, none⟩), .pointer (some ⟨X.heap.size, 0, none⟩), .pointer (some ⟨X.heap.size + 1, 0, none⟩), .slice a n c, .slice a n c, .slice a n c, .int .i64 n, .int .i64 N, .slice a' (n - N : Nat) c',
      .func (.func 34) #[] #[.pointer (some ⟨w.heap.size + 2, 0, none⟩), .pointer (some ⟨w.heap.size + 3, 0, none⟩)], mkG x.1, mkG x.2, undef, undef, undef, undef, undef, undef, undef, undef, undef, undef, undef, undef, undef], defers := [] })
    (fun x X => twoV X x) twoV_grown ?assign ?body ?done ?stop
  case hI =>
    exact fun o => OwnFrom.and (OwnFrom.and (Own.from (holdsRow_own (w.heap.size + 2) w.heap.size 28 3 1 (fun pre : List (Mk × Mk) => (foldsTo l pre.length).length) (fun pre => (foldsTo l pre.length).map (Value.int .i64)) (fun _ v => o = v.ownBlock)) _)
      (fun s A B row hs hg hr => boxed_from hs hg hr)) (ownFrom_below (Nat.le_refl _) (by omega))
  case assign =>
    rintro l2 ⟨⟨u0, u1, u2⟩, ⟨v0, v1, v2⟩⟩ X Kc hKc
    simp only [pkV, mkG, twoV] at hKc ⊢
    gi_wp2
    exact hKc
  case body =>
    rintro l2 o pre ⟨⟨u0, u1, u2⟩, ⟨v0, v1, v2⟩⟩ V X ⟨⟨⟨v, d0, hrow, rfl⟩, d1⟩, hB⟩ hT hV1 hV2 hsz2 hnew
    obtain ⟨hp1, hp2, e1, -⟩ := last_pair hT
    have hle := hB.size
    have hXs : w.heap.size + 2 ≤ X.heap.size := by omega
    obtain ⟨k, hk⟩ : ∃ k, pre.length = k := ⟨_, rfl⟩
    rw [hk] at hp1 hp2 e1 d1 hrow
    have hNe : N = 1 := HN3.out (by omega)
    have hbig1 : (k : Int) + 1 ≤ 9223372036854775807 := by omega
    obtain ⟨x0, x1, x2, y0, y1, y2⟩ := twoV_cells hnew
    simp only at x0 x1 x2 y0 y1 y2
    have HF := Lib.hid (show foldsTo l (pre ++ [((u0, u1, u2), (v0, v1, v2))]).length = if v0 = wrap64 (u0 + 1) then foldsTo l k else foldsTo l k ++ [((k + 1 : Nat) : Int)] by
      rw [List.length_append, List.length_singleton, hk, foldsTo_succ]
      have q := Prod.mk.inj e1
      rw [mkAt_drop, hNe, Nat.add_comm 1 k] at q
      rw [← q.1, ← q.2])
    have HPL := Lib.hid (show (pre ++ [(((u0, u1, u2) : Mk), ((v0, v1, v2) : Mk))]).length = k + 1 by rw [List.length_append, List.length_singleton, hk])
    have hfl := foldsTo_len l k
    have hcalm : ∀ (o : Option Nat) (Y : World) (u : Value) (b : Nat), (b = w.heap.size ∨ b = w.heap.size + 1) → Calm (twoM (w.heap.size + 2) (w.heap.size + 3) a n a' (n - N)) W.heap.size o o Y (Y.setCell ⟨b, 0, none⟩ u) := fun o Y u b hb' =>
      Calm.of_grown (grownBy_setCell' Y b u) (fun k e _ => by
        cases e
        refine ⟨fun h => ?_, by omega⟩
        have := HK _ h
        omega)
    have hob := World.ownsRow.lt hrow
    have hobn : ∀ q, v.ownBlock = some q → q ≠ w.heap.size := fun q e => by have := (hob _ e).1; omega
    have hobm : ∀ q, v.ownBlock = some q → q ≠ w.heap.size + 1 := fun q e => by have := (hob _ e).1; omega
    have q0 := d0.cell
    have q1 := d1.cell
    have f1 := d1.frozen
    have hX1 := Lib.hid (d0.other (B' := w.heap.size + 1) (by omega) (.int .i64 (k + 1 : Int)))
    have hR1 := Lib.hid (hrow.kept (grownBy_setCell' X (w.heap.size + 1) (.int .i64 (k + 1 : Int))) (.inr fun e => by have := (hob _ e).1; omega))
    have hN1b := Lib.hid (d1.set (.int .i64 (k + 1 : Int)))
    have hB1 := Lib.hid (hB.setCell (p := ⟨w.heap.size + 1, 0, none⟩) (by simp) (.int .i64 (k + 1 : Int)))
    have HC1 := Lib.hid (hcalm v.ownBlock X (.int .i64 (k + 1 : Int)) (w.heap.size + 1) (.inr rfl))
    have hcx := hX1.out.cell
    have hfx := hX1.out.frozen
    have hnx := hN1b.out.cell
    have hx0 : ∀ {i : Nat} {u : Value}, X.cell? ⟨V.heap.size, i, none⟩ = some u → (X.setCell ⟨w.heap.size + 1, 0, none⟩ (.int .i64 (k + 1 : Int))).cell? ⟨V.heap.size, i, none⟩ = some u := fun h => by
      rw [World.cell?_of_block (a := ⟨V.heap.size, _, none⟩) (Below.heap_setCell _ _ _ _ (by simp; omega))]; exact h
    have hy0 : ∀ {i : Nat} {u : Value}, X.cell? ⟨V.heap.size + 1, i, none⟩ = some u → (X.setCell ⟨w.heap.size + 1, 0, none⟩ (.int .i64 (k + 1 : Int))).cell? ⟨V.heap.size + 1, i, none⟩ = some u := fun h => by
      rw [World.cell?_of_block (a := ⟨V.heap.size + 1, _, none⟩) (Below.heap_setCell _ _ _ _ (by simp; omega))]; exact h
    have xa := hx0 x0
    have ya := hy0 y0
    clear hB d0 d1 hT hnew hrow e1 x1 x2 y1 y2 x0 y0 hx0 hy0 hsz2 hV1
    by_cases e : v0 = wrap64 (u0 + 1)
    · have et : (v0 != wrap64 (u0 + 1)) = false := by simp [e]
      have HE := Lib.hid e
      clear e
      simp only [mkG]
      gi_wp2
      exact ⟨_, HC1.out, ⟨⟨v, hX1.out, by rw [HF.out, if_pos HE.out]; exact hR1.out, rfl⟩, by rw [HPL.out]; exact hN1b.out⟩, hB1.out⟩
    · have et : (v0 != wrap64 (u0 + 1)) = true := by simp [e]
      have HE := Lib.hid e
      clear e
      simp only [mkG]
      gi_wp2_with (gi_at_builtin; refine wpListIn_append_next _ rfl _ _ 28 rfl (w.heap.size + 2) 3 i0 (.int .i64 0) 8 Try.underlying28 hi hz0 hz1 hz2 rfl _ _ _ rfl (hR1.out.alloc _) ⟨X.heap.size, 0, none⟩ 1 (.int .i64 (k + 1 : Int)) rfl (by first | exact (Boxed.new _ _ _).cell | go_cell) (by simp [Value.oneCell']) (by unfold maxLen; omega) (by omega) (by simp; omega) ?_; intro v' w1 hown' hgrow hnext; obtain ⟨g', cap', rfl⟩ := ownsRow_succ hown'; have hv1 := (hX1.out.alloc _).kept hgrow (fun e => hobn _ e.symm rfl); have hc1 := hv1.cell; have hf1 := hv1.frozen)
      have hg2 := hgrow
      have hob' := World.ownsRow.lt hown'
      have hvb : (Value.slice (some ⟨g', 0, none⟩) ((foldsTo l k).length + 1) cap').ownBlock = some g' := rfl
      have hgb := (hob' _ hvb).1
      refine ⟨_, HC1.out.trans (calm_appended (b := w.heap.size) hgrow hnext ⟨fun h => (HK _ h).2.1 rfl, by omega⟩), ⟨⟨_, hv1.set _, ?_, rfl⟩, ?_⟩, ?_⟩
      · rw [HF.out, if_neg HE.out, List.length_append, List.length_singleton, List.map_append]
        exact hown'.kept (grownBy_setCell' w1 w.heap.size _) (.inr fun e => by have := Option.some.inj (hvb.symm.trans e); omega)
      · rw [HPL.out]
        exact ((hN1b.out.alloc _).kept hgrow (fun e => hobm _ e.symm rfl)).other (B' := w.heap.size) (by omega) _
      · exact ((hB1.out.alloc (by simp; omega) _).grown hgrow (by simp; omega) fun j ej => by have := (hob _ ej).1; omega).setCell (p := ⟨w.heap.size, 0, none⟩) (Nat.le_refl _) _
  case done =>
    rintro D o xs X hD rfl ⟨⟨⟨v, d0, hrow, rfl⟩, d1⟩, hB⟩ hdef hne
    have hc0 := d0.cell
    have hzl : (l.zip (l.drop N)).length = l.length - 1 := by
      have := HN3.out
      by_cases q : n = 0
      · simp; omega
      · have := this q
        simp; omega
    rw [hzl] at hrow
    gi_wp2
    refine ⟨by simp, .inl ⟨_, _, rfl, run_takeDeferred hdef, ?_⟩⟩
    exact ⟨v, results_tmp (t := 2) rfl _ _ _, v, rfl, OwnI.mono (base := w.heap.size + 2) (ownsRow_putObj hrow _ hdef rfl) (by omega), hB.trans (belowK_b (w := w) (Nat.le_refl _) X D _ _ (by omega) hdef rfl rfl)⟩
  case stop =>
    rintro D cd o pre X _ _ h _
    exact h.elim
end Go.Proofs.Ythmojdmdhabogaa
