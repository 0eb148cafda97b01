/- The document's own plans of memory: what Alloc leaves, what Secret, Same, Bools answer. Conditions: as few regions as 1000. -/
import Derived.Test.YtpgjdbnhbkggpaaPlaR
namespace Go.Proofs.Ytpgjdbnhbkggpaa
open Go.RowKit Go.IntWalk

theorem infoRg : (Try.prog.info? 37).map (fun i => (i.zero, i.size, i.bytes)) = some (some (.agg #[.string ⟨#[]⟩, .int .i64 0, .int .i64 0, .bool false]), 4, 40) := by kernel_rfl
section
variable {B x n : Nat} {size : Int} {rs : Rgs} {F : Nat → Prop}
/-- The list has grown, its header is stored. -/
theorem RefPn.grown {w w1 : World} {v v' : Value} {rs' : Rgs} {cs : Array Value}
    (h1 : BlkAt x 31 #[.int .i64 size, v] w) (h2 : OwnEl rgK w B 37 v rs) (h5 : ∀ j, v.ownBlock = some j → F j) (hF : F x) (hl : ∀ j, F j → B ≤ j ∧ j < w.heap.size)
    (hB : B ≤ w.heap.size) (o1 : OwnEl rgK w1 B 37 v' rs') (hg : (w.alloc (.cells cs 37)).grownBy w1 v.ownBlock) (hx : Nexts (w.alloc (.cells cs 37)) v v') :
    RefPn B (w1.setCell ⟨x, 1, none⟩ v') x size rs' (Wide F w (w1.setCell ⟨x, 1, none⟩ v')) ∧ Grows F w (Wide F w (w1.setCell ⟨x, 1, none⟩ v')) (w1.setCell ⟨x, 1, none⟩ v') := by
  have hvx : v.ownBlock ≠ some x := own_off_type h2 h1 (by decide)
  have k0 : Keeps F w (w.alloc (.cells cs 37)) := Keeps.of_below F ((Below.refl _ _).alloc (Nat.le_refl _) _)
  have k1 : Keeps F (w.alloc (.cells cs 37)) w1 := Keeps.of_grown hg h5
  have k2 : Keeps F w1 (w1.setCell ⟨x, 1, none⟩ v') := Keeps.set hF _ _ _
  have K := (k0.trans k1).trans k2
  have b1 : BlkAt x 31 #[.int .i64 size, v] w1 := by
    have kx : Keeps (fun j => v.ownBlock = some j) (w.alloc (.cells cs 37)) w1 := Keeps.of_grown hg fun _ q => q
    exact (h1.keep ((Below.refl _ _).alloc (Nat.le_refl _) _)).kept kx hvx
  have hv'x : v'.ownBlock ≠ some x := own_off_type o1 b1 (by decide)
  refine ⟨⟨⟨v', (b1.set 1 v').eq rfl, o1.kept (Keeps.set1 w1 x 1 v') fun j q e => hv'x (e ▸ q), ?_⟩, .inl hF, ?_⟩, Wide.grows K⟩
  · intro j q
    rcases hx j q with r | r
    · exact .inl (h5 j r)
    · refine .inr ⟨by simp at r; omega, ?_⟩
      have := (o1.lt j q).2
      simpa using this
  · rintro j (q | q)
    · exact ⟨(hl j q).1, Nat.lt_of_lt_of_le (hl j q).2 K.size⟩
    · exact ⟨by omega, q.2⟩
/-- What Alloc leaves. -/
def RefPTo (B x : Nat) (size v k : Int) (rs : Rgs) (F : Nat → Prop) (w : World) (e : Ending) (w' : World) : Prop := ∃ F', e = .returned (.tuple #[.int .i64 v, .int .i64 k]) ∧ RefPn B w' x size rs F' ∧ Grows F w F' w'
set_option maxRecDepth 100000 in
set_option maxHeartbeats 4000000 in
theorem refAlloc20_is (w : World) (s : ByteArray) (m : Int) (sec : Bool) (h : RefPn B w x size rs F) (hS : Sides size rs) (hs : s.size ≤ maxLen) (hn : rs.length ≤ 1000) (hB : B ≤ w.heap.size) :
    Calls Try.prog 8 #[.pointer (some ⟨x, 0, none⟩), .string s, .int .i64 m, .bool sec] w (RefPTo B x size (allV size rs s m) (allE size rs s m) (allS size rs s m sec) F w) := by
  have C1 := Lib.hid fun w => refIs19_is s w hs
  have C2 := fun w h => refFind20_is (B := B) (x := x) (size := size) (rs := rs) (F := F) w s h (by omega)
  obtain ⟨fr, hfr⟩ : ∃ r, fV rs s = r := ⟨_, rfl⟩
  obtain ⟨f0, f1, f2, f3⟩ := fr
  rw [hfr] at C2
  simp only [rgV] at C2
  have C2' := Lib.hid C2
  clear C2 hfr
  have C3 := Lib.hid fun w h => refUsed20_is (B := B) (x := x) (size := size) (rs := rs) (F := F) w h hS (by omega)
  obtain ⟨i0, hi, hz0, hz1, hz2⟩ := info_el infoRg
  have H := Lib.hid h
  have hu := hS.upto (Nat.le_refl _)
  rw [List.take_length] at hu
  have hfit := hS.fits
  have hbig := hS.big
  clear h hs hS
  obtain ⟨u, hue⟩ : ∃ u, usedR rs = u := ⟨_, rfl⟩
  rcases all_ways size rs s m with q | ⟨q, q2 | ⟨q2, q3 | ⟨q3, q4 | q4⟩⟩⟩
  · obtain ⟨e1, e2, e3⟩ := all_name (size := size) (rs := rs) (n := m) (k := sec) q
    rw [e1, e2, e3]
    have Q := Lib.hid q
    clear e1 e2 e3 q
    go_enter Try.func8, Try.ntmps8
    go_wp2_with (go_at_call 25; ((with_reducible refine (C1.out _).mono ?_); rintro e w1 ⟨rfl, rfl⟩); have hb := Q.out)
    go_ret2
    exact ⟨F, rfl, H.out, Grows.refl _ _⟩
  · obtain ⟨e1, e2, e3⟩ := all_twice (size := size) (rs := rs) (n := m) (k := sec) q q2
    rw [e1, e2, e3]
    have Q := Lib.hid q
    have Q2 := Lib.hid q2
    clear e1 e2 e3 q q2
    go_enter Try.func8, Try.ntmps8
    go_wp2_with (first
      | (go_at_call 25; ((with_reducible refine (C1.out _).mono ?_); rintro e w1 ⟨rfl, rfl⟩); have hb := Q.out)
      | (go_at_call 10; ((with_reducible refine (C2'.out _ H.out).mono ?_); rintro e w2 ⟨rfl, hb2⟩); have hb := Q2.out; have HB2 := Lib.hid hb2; clear hb2))
    go_ret2
    exact ⟨F, rfl, H.out.keep (HB2.out.alloc HB2.out.size _), Grows.of_below F (HB2.out.alloc HB2.out.size _)⟩
  · obtain ⟨e1, e2, e3⟩ := all_arg (size := size) (k := sec) q q2 q3
    rw [e1, e2, e3]
    have Q := Lib.hid q
    have Q2 := Lib.hid q2
    clear e1 e2 e3 q q2
    go_enter Try.func8, Try.ntmps8
    go_wp2_with (first
      | (go_at_call 25; ((with_reducible refine (C1.out _).mono ?_); rintro e w1 ⟨rfl, rfl⟩); have hb := Q.out)
      | (go_at_call 10; ((with_reducible refine (C2'.out _ H.out).mono ?_); rintro e w2 ⟨rfl, hb2⟩); have hb := Q2.out; have HB2 := Lib.hid hb2; clear hb2))
    go_ret2
    exact ⟨F, rfl, H.out.keep (HB2.out.alloc HB2.out.size _), Grows.of_below F (HB2.out.alloc HB2.out.size _)⟩
  · obtain ⟨e1, e2, e3⟩ := all_full (k := sec) q q2 q3 q4
    rw [e1, e2, e3]
    have Q := Lib.hid q
    have Q2 := Lib.hid q2
    rw [hue] at C3 q4 hu hfit
    clear e1 e2 e3 q q2 hue
    go_enter Try.func8, Try.ntmps8
    go_wp2_with (first
      | (go_at_call 25; ((with_reducible refine (C1.out _).mono ?_); rintro e w1 ⟨rfl, rfl⟩); have hb := Q.out)
      | (go_at_call 10; ((with_reducible refine (C2'.out _ H.out).mono ?_); rintro e w2 ⟨rfl, hb2⟩); have hb := Q2.out; have HB2 := Lib.hid (hb2.alloc hb2.size (.cells #[.string f0, .int .i64 f1, .int .i64 f2, .bool f3] 37)); obtain ⟨a1, c1, k0, -, -⟩ := (H.out.keep HB2.out).at rfl; clear hb2)
      | (go_at_call 14; ((with_reducible refine (C3.out _ (H.out.keep HB2.out)).mono ?_); rintro e w3 ⟨rfl, rfl⟩)))
    go_ret2
    exact ⟨F, rfl, H.out.keep HB2.out, Grows.of_below F HB2.out⟩
  · obtain ⟨e1, e2, e3⟩ := all_yes (k := sec) q q2 q3 q4
    rw [e1, e2, e3]
    have Q := Lib.hid q
    have Q2 := Lib.hid q2
    rw [hue] at C3 q4 hu hfit
    rw [hue]
    clear e1 e2 e3 q q2 hue
    go_enter Try.func8, Try.ntmps8
    go_wp2_with (first
      | (go_at_call 25; ((with_reducible refine (C1.out _).mono ?_); rintro e w1 ⟨rfl, rfl⟩); have hb := Q.out)
      | (go_at_call 10; ((with_reducible refine (C2'.out _ H.out).mono ?_); rintro e w2 ⟨rfl, hb2⟩); have hb := Q2.out; have HBW := Lib.hid hb2.size; have HBQ := Lib.hid (hb2.alloc hb2.size (.cells #[.string f0, .int .i64 f1, .int .i64 f2, .bool f3] 37)); clear hb2; obtain ⟨W2, hW2⟩ : ∃ W2, w2.alloc (.cells #[.string f0, .int .i64 f1, .int .i64 f2, .bool f3] 37) = W2 := ⟨_, rfl⟩; rw [hW2] at HBQ; obtain ⟨v, k1, k2, k3⟩ := (H.out.keep HBQ.out).ex; have HK1 := Lib.hid k1; have HK2 := Lib.hid k2; have HK3 := Lib.hid k3; clear k1 k2 k3; have c0 : W2.cell? ⟨x, 0, none⟩ = some (.int .i64 size) := HK1.out.cell 0; have c1 : W2.cell? ⟨x, 1, none⟩ = some v := HK1.out.cell 1; have HUX := Lib.hid (own_off_type HK2.out HK1.out (by decide)); have hbw2 := Lib.hid HBQ.out.size)
      | (go_at_call 14; ((with_reducible refine (C3.out _ (H.out.keep HBQ.out)).mono ?_); rintro e w3 ⟨rfl, rfl⟩))
      | (at_builtin; refine wpList_append_el1 rfl _ _ 29 rfl B 37 i0 _ Try.underlying29 hi hz0 hz1 (by omega) rfl rfl (HK2.out.keep ((Below.refl _ _).alloc (Nat.le_refl _) _)) rfl (one_el (K := rgK) (b := W2.heap.size) W2 37 (s, u, m, sec) #[.string s, .int .i64 u, .int .i64 m, .bool sec] rfl rfl) (by omega) (by have := hbw2.out; simp; omega) ?_; intro v2 w5 hown2 hgrow2 hnext2; obtain ⟨a2, n2, c2, rfl⟩ := OwnEl.shape hown2; have hbk : BlkAt x 31 #[.int .i64 size, v] w5 := (HK1.out.keep ((Below.refl _ _).alloc (Nat.le_refl _) _)).kept (Keeps.of_grown (F := fun j => v.ownBlock = some j) hgrow2 fun _ q => q) HUX.out; have q1 := hbk.cell 1; have q2 := hbk.free 1; have HG := Lib.hid (RefPn.grown HK1.out HK2.out HK3.out H.out.own (H.out.keep HBQ.out).low (by have := hbw2.out; omega) hown2 hgrow2 hnext2); clear hown2 hgrow2 hnext2 hbk))
    go_ret2
    exact ⟨_, rfl, HG.out.1, (Grows.of_below F HBQ.out).trans HG.out.2⟩
end
end Go.Proofs.Ytpgjdbnhbkggpaa
