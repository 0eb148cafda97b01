/- What burst.Flip answers. Conditions: the slice's cells are bytes; the text is no longer than 2^30 bytes; the numbers are of their kinds. -/
import Derived.Test.YthmndfgafkpgdaaBurB
import Derived.Test.YthmndfgafkpgdaaRnd
namespace Go.Proofs.Ythmndfgafkpgdaa
open Go.RowKit Go.Shelf

attribute [local go_sem] Oper.semAt_some

/-- In box b lies v, which owns the bytes m. -/
def ToAt (X : World) (b base : Nat) (t e : TypeId) (v0 : Value) (m : List Int) : Prop := ∃ v, Boxed X b t v ∧ X.ownsRow base e 1 v m.length (m.map (Value.int .u8)) ∧ v = v0
theorem toAt_own (B b base : Nat) (t e : TypeId) (v0 : Value) (f : List Int → List Int) : OwnFrom B (fun (s : List Int) X => ToAt X b base t e v0 (f s)) :=
  Own.from (holdsRow_own base b t e 1 (fun s : List Int => (f s).length) (fun s => (f s).map (Value.int .u8)) (fun _ v => v = v0)) B

theorem Own.grown {w : World} {base g cap n : Nat} {e : TypeId} {l : List Int} (h : Own w base e (.slice (some ⟨g, 0, none⟩) n cap) l) (hl : l.length = n) (j : Nat) (u : Value) : w.grownBy (w.setCell ⟨g, j, none⟩ u) (some g) := by
  subst hl
  exact (World.ownsRow.stored h j u).2

set_option maxRecDepth 100000 in
set_option maxHeartbeats 1000000 in
theorem burstFlip_is (a : Option Addr) (n c : Nat) (q x : Int) (l : List Int) (w : World) (hB : By w a n c l) (hn : n ≤ 1073741824) (hq1 : -9223372036854775808 ≤ q) (hq2 : q ≤ 9223372036854775807) (hx0 : 0 ≤ x) (hx1 : x < 65536) :
    Calls Try.prog 11 #[.slice a n c, .int .i64 q, .int .u16 x] w fun e w' => RetOwn w 5 (flipOf l q x) e w' := by
  have hl := hB.len
  have b0 := Boxed.new w 3 (.int .i64 q)
  have hb0 := (Below.refl w.heap.size w).alloc (Nat.le_refl _) (.cells #[.int .i64 q] 3)
  have hB0 := hB.keep hb0 (Nat.le_refl _)
  obtain ⟨W0, hW0⟩ : ∃ W0, w.alloc (.cells #[.int .i64 q] 3) = W0 := ⟨_, rfl⟩
  have hs0 : W0.heap.size = w.heap.size + 1 := by rw [← hW0]; simp
  rw [hW0] at b0 hb0 hB0
  have HW0 := Lib.hid hW0
  clear hW0
  refine (callsIn_wide (n := 8)).1 ?_
  refine callsIn_of_wp_marks Try.func11 rfl trivial ?_ rfl
  simp only [Try.ntmps11, List.size_toArray, List.length_cons, List.length_nil, Nat.reduceAdd, Nat.reduceSub, Array.replicate_succ, Array.replicate_zero, List.push_toArray, List.append_toArray, List.nil_append, List.cons_append]
  gi_wp2_with fail
  rw [HW0.out]
  refine ⟨trivial, (callsIn_wide.2 (bytesClone_is a n c l W0 hB0 (by omega))).mono ?_⟩
  rintro e W1 ⟨v, rfl, ho1, hb1⟩
  have b1 : Boxed W1 w.heap.size 3 (.int .i64 q) := (hb1.block _ (by omega)).trans b0
  have hbw1 := hb0.trans (hb1.mono (by omega))
  have hsz1 := hb1.size
  have hl1 := hB0.bd
  obtain ⟨av, nn, cv, rfl, hnn, hBv⟩ := ho1.byn hl1
  obtain rfl : nn = n := by omega
  have hcapv := hBv.cap
  have hbigv := hBv.big
  unfold maxLen at hbigv
  gi_wp2_with fail
  refine ⟨trivial, (callsIn_wide.2 (burstOnes_is x _)).mono ?_⟩
  rintro e W3 ⟨rfl, hW3⟩
  have t1 := (Boxed.new W1 22 (.slice av nn cv)).alloc (.cells #[.int .u16 x] 23)
  have t2 := Boxed.new (W1.alloc (.cells #[.slice av nn cv] 22)) 23 (.int .u16 x)
  have t3 := (b1.alloc (.cells #[.slice av nn cv] 22)).alloc (.cells #[.int .u16 x] 23)
  have t4 := ((hbw1.alloc hbw1.size (.cells #[.slice av nn cv] 22)).alloc (by have := hbw1.size; simp; omega) (.cells #[.int .u16 x] 23))
  have t5 := (World.ownsRow.alloc (World.ownsRow.alloc (ho1.mono (base' := w.heap.size) (by omega)) (.cells #[.slice av nn cv] 22)) (.cells #[.int .u16 x] 23))
  rw [hW3] at t1 t2 t3 t4 t5
  have hs3 : W3.heap.size = W1.heap.size + 2 := by rw [← hW3]; simp
  rw [World.size_alloc] at t2 ⊢
  have HL := Lib.hid hl
  clear hW3 ho1 b1 hbw1 hb1 b0 hb0 HW0 hB0 hBv hB
  gi_wp2
  refine wpIn_rangeR rfl (by decide) (gf := 20) (lb := #[.pointer (some ⟨W1.heap.size + 1, 0, none⟩)]) rfl trivial (enters_of Try.func20 (by kernel_rfl) rfl)
    (burstOnes_seq 7 (W1.heap.size + 1) x W3 (by decide) hx0 hx1 (by omega) t2.cell) (Below.refl _ _) (fun _ h => h.elim) rfl
    (fun o pre X => ((o = none ∧ Boxed X w.heap.size 3 (.int .i64 q)) ∧ ToAt X W1.heap.size w.heap.size 22 5 (.slice av nn cv) (flipTo q l pre)) ∧ Below w.heap.size w X)
    (fun _ _ _ _ => False)
    (fun o => OwnFrom.and (OwnFrom.and (OwnFrom.and (ownFrom_pure _ (fun _ => o = none)) (Own.from (boxed_own _ _ _) _))
      (toAt_own _ _ _ _ _ _ (flipTo q l))) (ownFrom_below (Nat.le_refl _) (by omega)))
    (fun _ _ _ _ _ _ hs _ _ => hs)
    (fun o xs X h k hk => by rw [h.1.1.1] at hk; cases hk) none (fun _ h => h.elim) ⟨⟨⟨rfl, t3⟩, ⟨_, t1, t5, rfl⟩⟩, t4⟩
    (fun i => { tmps := #[.slice a nn c, .int .i64 q, .int .u16 x, undef, .pointer (some ⟨w.heap.size, 0, none⟩), undef, .slice none 0 0, .pointer (some ⟨W1.heap.size, 0, none⟩), .int .i64 i, undef, .slice a nn c, .slice av nn cv, .int .u16 x,
      .func (.func 20) #[] #[.pointer (some ⟨W1.heap.size + 1, 0, none⟩)], .int .i64 i, undef, undef, undef, undef, undef, undef, undef, undef, undef, undef, undef, undef, undef, undef, undef, undef, undef, undef, undef, undef, undef, undef, undef], defers := [] }) ?assign ?body ?done ?stop
  case assign =>
    intro l2 i X Kc hKc
    gi_wp2
    exact hKc
  case body =>
    rintro l2 o pre i X ⟨⟨⟨rfl, d0⟩, ⟨_, d1, hrow, rfl⟩⟩, hB⟩ hT
    have hi := onesOf_bd (mem_pre hT)
    have hle := hB.size
    have q0 := d0.cell
    have q1 := d1.cell
    have hml := flipTo_len q pre l
    have hmb := flipTo_bd q pre hl1
    have hsn := flipTo_snoc q l pre i
    have hbl := HL.out
    by_cases hin : 0 ≤ q + i ∧ q + i < 8 * nn
    · obtain ⟨k, hk⟩ : ∃ k : Nat, q + i = k := ⟨(q + i).toNat, by omega⟩
      obtain ⟨g, cap, ev, hg, hgl, -⟩ := Own.form (e := 5) (l := flipTo q l pre) hrow (n := nn) (by omega) (by omega)
      simp only [Value.slice.injEq, true_and] at ev
      obtain ⟨rfl, rfl⟩ := ev
      have hgB := (World.ownsRow.lt t5 g rfl).2
      have ho : Own X w.heap.size 5 (.slice (some ⟨g, 0, none⟩) nn cv) (flipTo q l pre) := by have := hrow; unfold Own; rwa [show (flipTo q l pre).length = nn by omega] at this ⊢
      have q2 := ho.cell (j := k / 8) (by omega) (by omega)
      have q3 := ho.free (by omega) (k / 8)
      obtain ⟨Y, hY⟩ : ∃ Y, X.drew = Y := ⟨_, rfl⟩
      have hoY : Own Y w.heap.size 5 (.slice (some ⟨g, 0, none⟩) nn cv) (flipTo q l pre) := by rw [← hY]; exact ho
      have hS := hoY.set (by omega) (k / 8) (x8 (byAt (flipTo q l pre) (k / 8)) (128 / 2 ^ (k % 8)))
      have hgY : X.grownBy Y none := by rw [← hY]; exact ⟨rfl, rfl, rfl, Nat.le_refl _, fun _ _ _ => rfl⟩
      have hgS := hoY.grown (by omega) (k / 8) (.int .u8 (x8 (byAt (flipTo q l pre) (k / 8)) (128 / 2 ^ (k % 8))))
      have n0 := d0.not_row (by decide) hrow
      have n1 := d1.not_row (by decide) hrow
      have E := Lib.hid (show flipTo q l (pre ++ [i]) = (flipTo q l pre).set (k / 8) (x8 (byAt (flipTo q l pre) (k / 8)) (128 / 2 ^ (k % 8))) by
        rw [hsn]; unfold flip1; rw [if_pos (by rw [hml, hbl]; exact hin), hk, Int.toNat_natCast]; rfl)
      have hy := hmb.at (i := k / 8) (by omega)
      have HS := Lib.hid hS
      have HB := Lib.hid hB
      have HML := Lib.hid hml
      have HGY := Lib.hid hgY
      have HGS := Lib.hid hgS
      clear hgY hgS
      have D := Lib.hid (And.intro d0 d1)
      have hx : bits .xor .u8 (byAt (flipTo q l pre) (k / 8)) (128 / 2 ^ (k % 8)) = x8 (byAt (flipTo q l pre) (k / 8)) (128 / 2 ^ (k % 8)) := bits_u8_xor
      have k1 : 0 ≤ q + i := by omega
      have k2 : q + i < 8 * nn := by omega
      have k3 : (k : Int) < 8 * nn := by omega
      clear hS hB hrow ho hoY hsn hmb hml d0 d1 hin hT
      generalize byAt (flipTo q l pre) (k / 8) = y at *
      rw [hk] at k1 k2
      have hmo : Try.prog.follows .mixedOrders = true := by kernel_rfl
      have m1 : (k : Int).tdiv 8 = (k : Int) / 8 := Int.tdiv_eq_ediv_of_nonneg (by omega)
      have m2 : (k : Int).tmod 8 = (k : Int) % 8 := Int.tmod_eq_emod_of_nonneg (by omega)
      have m3 : ((k : Int) / 8).toNat = k / 8 := by omega
      have m4 : ((k : Int) % 8).toNat = k % 8 := by omega
      have m5 : 0 ≤ (k : Int) % 8 := by omega
      have m6 : 0 ≤ (k : Int) / 8 := by omega
      have m7 : (k : Int) / 8 < nn := by omega
      have m8 : (k : Int) % 8 < 8 := by omega
      have m9 : IntKind.i64.wrap ((k : Int) / 8) = (k : Int) / 8 := IntWalk.i64_in _ (by omega)
      have m10 : IntKind.i64.wrap ((k : Int) % 8) = (k : Int) % 8 := IntWalk.i64_in _ (by omega)
      gi_wp2
      refine wpIn_round_tail 9 hmo (by kernel_rfl) (by kernel_rfl) ?_
      have q4 : Y.cell? ⟨W1.heap.size, 0, none⟩ = some (.slice (some ⟨g, 0, none⟩) nn cv) := by rw [← hY]; exact q1
      have q5 : Y.cell? ⟨g, k / 8, none⟩ = some (.int .u8 y) := by rw [← hY]; exact q2
      have q6 : Y.frozen? ⟨g, k / 8, none⟩ = false := by rw [← hY]; exact q3
      have HY := Lib.hid hY
      rw [hY]
      clear hY
      simp only [List.take_succ_cons, List.take_zero, List.drop_succ_cons, List.drop_zero]
      repeat still_step
      refine wpStill_nil ?_
      gi_wp2
      have c1 := Calm.of_grown (K := fun _ => False) (B := W3.heap.size) (o := none) HGY.out (fun _ e => by cases e)
      have c2 := Calm.of_grown (K := fun _ => False) (B := W3.heap.size) (o := none) HGS.out (fun r e _ => by cases e; exact ⟨fun h => h, hgB⟩)
      refine ⟨none, c1.trans c2, ⟨⟨rfl, (D.out.1.kept HGY.out (by simp)).kept HGS.out n0⟩, ⟨_, (D.out.2.kept HGY.out (by simp)).kept HGS.out n1, ?_, rfl⟩⟩, (HB.out.grown HGY.out hle (fun _ e => by cases e)).grown HGS.out (by have := HGY.out.size; omega) (fun r e => by cases e; exact hg)⟩
      rw [E.out]
      have := HS.out
      unfold Own at this
      rwa [show ((flipTo q l pre).set (k / 8) (x8 y (128 / 2 ^ (k % 8)))).length = nn by rw [List.length_set, HML.out]; exact HL.out] at this ⊢
    · have E := Lib.hid (show flipTo q l (pre ++ [i]) = flipTo q l pre by rw [hsn]; unfold flip1; rw [if_neg (by rw [hml, hbl]; exact hin)])
      have D := Lib.hid (And.intro d0 d1)
      have HB := Lib.hid hB
      have HR := Lib.hid hrow
      clear d0 d1 hB hrow hsn hmb hml hT
      by_cases h1 : q + i < 0
      · have h2 : ¬ 0 ≤ q + i := by omega
        gi_wp2
        exact ⟨none, Calm.refl _ _ _ _, ⟨⟨rfl, D.out.1⟩, ⟨_, D.out.2, by rw [E.out]; exact HR.out, rfl⟩⟩, HB.out⟩
      · by_cases h2 : q + i ≤ 9223372036854775807
        · have h3 : 8 * (nn : Int) ≤ q + i := by omega
          have h4 : 0 ≤ q + i := by omega
          clear hin h1
          gi_wp2
          exact ⟨none, Calm.refl _ _ _ _, ⟨⟨rfl, D.out.1⟩, ⟨_, D.out.2, by rw [E.out]; exact HR.out, rfl⟩⟩, HB.out⟩
        · have h3 : wrap64 (q + i) < 0 := by unfold wrap64; omega
          gi_wp2
          exact ⟨none, Calm.refl _ _ _ _, ⟨⟨rfl, D.out.1⟩, ⟨_, D.out.2, by rw [E.out]; exact HR.out, rfl⟩⟩, HB.out⟩
  case done =>
    rintro D o xs X hD rfl ⟨⟨⟨rfl, d0⟩, ⟨_, d1, hrow, rfl⟩⟩, hB⟩ hdef hne
    have q1 := d1.cell
    gi_wp2
    refine ⟨by simp, .inl ⟨_, _, rfl, run_takeDeferred hdef, ?_⟩⟩
    exact ⟨_, results_tmp (t := 6) rfl _ _ _, _, rfl, ownsRow_putObj hrow _ hdef rfl, hB.trans (belowK_b (w := w) (Nat.le_refl _) X D _ _ (by omega) hdef rfl rfl)⟩
  case stop =>
    rintro D cd o pre X _ _ h _
    exact h.elim
end Go.Proofs.Ythmndfgafkpgdaa
