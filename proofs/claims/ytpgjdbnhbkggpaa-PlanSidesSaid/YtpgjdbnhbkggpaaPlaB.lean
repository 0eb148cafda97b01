/- Package plan: the places where a name, an address are sought. Conditions: lists as short as 100000. -/
import Derived.Test.YtpgjdbnhbkggpaaPlaA
namespace Go.Proofs.Ytpgjdbnhbkggpaa
open Go.RowKit Go.IntWalk

/-- What the search of a name finds in memory: the boxes of its closures, the plan's own list. -/
structure SeekN (W : World) (pb nb t n c : Nat) (a : Option Addr) (s : ByteArray) (rs : Rgs) : Prop where
  hp : W.cell? ⟨pb, 0, none⟩ = some (.pointer (some ⟨t, 0, none⟩))
  hs : W.cell? ⟨nb, 0, none⟩ = some (.string s)
  hr : W.cell? ⟨t, 1, none⟩ = some (.slice a n c)
  hE : ElAt rgK W a n c rs
theorem SeekN.keep {W W' : World} {pb nb t n c : Nat} {a : Option Addr} {s : ByteArray} {rs : Rgs} (h : SeekN W pb nb t n c a s rs) (k : Below W.heap.size W W') : SeekN W' pb nb t n c a s rs :=
  ⟨(k.cell (p := ⟨pb, 0, none⟩) (cell_lt h.hp)).trans h.hp, (k.cell (p := ⟨nb, 0, none⟩) (cell_lt h.hs)).trans h.hs, (k.cell (p := ⟨t, 1, none⟩) (cell_lt h.hr)).trans h.hr, h.hE.keep k⟩
theorem box_keep {W W' : World} {b : Nat} {v : Value} (h : W.cell? ⟨b, 0, none⟩ = some v) (k : Below W.heap.size W W') : W'.cell? ⟨b, 0, none⟩ = some v := (k.cell (p := ⟨b, 0, none⟩) (cell_lt h)).trans h
section
variable {W : World} {sb pb nb ab t n c nn cn : Nat} {a an : Option Addr} {s : ByteArray} {rs : Rgs} {ns : List Int} {x0 size : Int}
set_option maxHeartbeats 1000000 in
theorem plaCmpN_is (h : SeekN W pb nb t n c a s rs) (hb : W.cell? ⟨sb, 0, none⟩ = some (.func (.func 34) #[] #[.pointer (some ⟨pb, 0, none⟩), .pointer (some ⟨nb, 0, none⟩)])) {k : Nat} (hk : k < n) :
    Calls Try.prog 43 #[.int .i64 k, .int .i64 0, .pointer (some ⟨sb, 0, none⟩)] W fun e w' => e = .returned (.int .i64 (cmpB (el rs k).1 s)) ∧ Below W.heap.size W w' := by
  have C0 := plaSideN_is h.hp h.hs h.hr h.hE hk
  have hbd := cmp_bd (el rs k).1 s
  obtain ⟨z, hz⟩ : ∃ z, cmpB (el rs k).1 s = z := ⟨_, rfl⟩
  rw [hz] at C0 hbd ⊢
  obtain ⟨b1, b2⟩ := hbd
  have C := Lib.hid C0
  clear C0 hz h hk
  go_enter Try.func43, Try.ntmps43
  go_wp2_with (go_at_call 34; ((with_reducible refine (C.out).mono ?_); rintro e w3 ⟨rfl, hb3⟩); have HB3 := Lib.hid hb3; clear hb3)
  go_ret
  exact ⟨retI (by omega), HB3.out⟩
set_option maxHeartbeats 1000000 in
theorem plaSeekInt_is (h : SeekN W pb nb t n c a s rs) (hA : ElAt (numK .i64) W an nn cn ns) (hN : NsOk rs ns) (hn : n ≤ 100000) :
    Calls Try.prog 33 #[.slice an nn cn, .func (.func 34) #[] #[.pointer (some ⟨pb, 0, none⟩), .pointer (some ⟨nb, 0, none⟩)]] W (BsTo nn (fun j => cmpB (nmA rs (el ns j)) s) W) := by
  have hal := (Below.refl W.heap.size W).alloc (Nat.le_refl _) (.cells #[.func (.func 34) #[] #[.pointer (some ⟨pb, 0, none⟩), .pointer (some ⟨nb, 0, none⟩)]] 65)
  have hbx := BlkAt.new W 65 #[.func (.func 34) #[] #[.pointer (some ⟨pb, 0, none⟩), .pointer (some ⟨nb, 0, none⟩)]]
  obtain ⟨W1, hW1⟩ : ∃ W1, W.alloc (.cells #[.func (.func 34) #[] #[.pointer (some ⟨pb, 0, none⟩), .pointer (some ⟨nb, 0, none⟩)]] 65) = W1 := ⟨_, rfl⟩
  obtain ⟨sb, hsb⟩ : ∃ sb, W.heap.size = sb := ⟨_, rfl⟩
  rw [hW1] at hal hbx
  rw [hsb] at hbx
  have h1 := h.keep hal
  have hc : W1.cell? ⟨sb, 0, none⟩ = some (.func (.func 34) #[] #[.pointer (some ⟨pb, 0, none⟩), .pointer (some ⟨nb, 0, none⟩)]) := hbx.cell 0
  have hl := hN.len
  have hln := hA.len
  have hrn := h.hE.len
  have C := Lib.hid (bsInt_is (sb := sb) (f := fun j => cmpB (nmA rs (el ns j)) s) (hA.keep hal) (by omega) (fun k hk W' hW' => by
    have hbd := hN.bd k (by omega)
    obtain ⟨m, hm⟩ := Int.eq_ofNat_of_zero_le hbd.1
    have := plaCmpN_is (h1.keep hW') (box_keep hc hW') (k := m) (by omega)
    rw [hm]
    exact this) (fun i j hij hj q => hN.mono hij (by omega) q))
  have HAL := Lib.hid hal
  have HSB := Lib.hid hsb
  clear h hA hN hal hbx h1 hc hl hln hrn
  go_enter Try.func33, Try.ntmps33
  go_wp2_with (go_at_call 42; ((with_reducible refine (C.out).mono ?_); rintro e w3 ⟨p, p1, p2, p3, rfl, hb3⟩); have HB3 := Lib.hid (HAL.out.trans (hb3.mono HAL.out.size)); have P2 := Lib.hid p2; have P3 := Lib.hid p3; clear hb3 p2 p3)
  go_ret2
  exact ⟨p, p1, P2.out, P3.out, rfl, HB3.out⟩
set_option maxHeartbeats 1000000 in
theorem plaCmpA_is (hx : W.cell? ⟨ab, 0, none⟩ = some (.int .i64 x0)) (hb : W.cell? ⟨sb, 0, none⟩ = some (.func (.func 28) #[] #[.pointer (some ⟨ab, 0, none⟩)])) {r : Rg} (h0 : 0 ≤ r.2.1) (h1 : 0 ≤ r.2.2.1) (h2 : r.2.1 + r.2.2.1 ≤ 2048) :
    Calls Try.prog 40 #[rgV r, .int .i64 0, .pointer (some ⟨sb, 0, none⟩)] W fun e w' => e = .returned (.int .i64 (sidA x0 r)) ∧ Below W.heap.size W w' := by
  have hbd := sid_bd x0 r
  have C0 := fun W' (k : W'.cell? ⟨ab, 0, none⟩ = some (.int .i64 x0)) => plaSideA_is W' (r := r) k h0 h1 h2
  obtain ⟨z, hz⟩ : ∃ z, sidA x0 r = z := ⟨_, rfl⟩
  simp only [hz] at C0 hbd ⊢
  obtain ⟨b1, b2⟩ := hbd
  obtain ⟨r0, r1, r2, r3⟩ := r
  simp only [rgV] at C0 ⊢
  have C := Lib.hid C0
  have hal := (Below.refl W.heap.size W).alloc (Nat.le_refl _) (.cells #[.string r0, .int .i64 r1, .int .i64 r2, .bool r3] 37)
  have hbx := BlkAt.new W 37 #[.string r0, .int .i64 r1, .int .i64 r2, .bool r3]
  obtain ⟨W1, hW1⟩ : ∃ W1, W.alloc (.cells #[.string r0, .int .i64 r1, .int .i64 r2, .bool r3] 37) = W1 := ⟨_, rfl⟩
  obtain ⟨q, hq⟩ : ∃ q, W.heap.size = q := ⟨_, rfl⟩
  have HX := Lib.hid (box_keep hx hal)
  have e0 := box_keep hb hal
  have HAL := Lib.hid hal
  rw [hW1] at HX e0 HAL hbx
  rw [hq] at hbx
  have d0 : W1.cell? ⟨q, 0, none⟩ = some (.string r0) := hbx.cell 0
  have d1 : W1.cell? ⟨q, 1, none⟩ = some (.int .i64 r1) := hbx.cell 1
  have d2 : W1.cell? ⟨q, 2, none⟩ = some (.int .i64 r2) := hbx.cell 2
  have d3 : W1.cell? ⟨q, 3, none⟩ = some (.bool r3) := hbx.cell 3
  have HQ := Lib.hid hq
  clear C0 hz h0 h1 h2 hal hx hb hbx
  go_enter Try.func40, Try.ntmps40
  go_wp2_with (go_at_call 28; ((with_reducible refine (C.out _ HX.out).mono ?_); rintro e w3 ⟨rfl, hb3⟩); have HB3 := Lib.hid (HAL.out.trans (hb3.mono HAL.out.size)); clear hb3)
  go_ret
  exact ⟨retI (by omega), by first | exact HB3.out | (rw [← HQ.out]; exact HB3.out)⟩
set_option maxHeartbeats 1000000 in
theorem plaSeekRg_is (hx : W.cell? ⟨ab, 0, none⟩ = some (.int .i64 x0)) (hE : ElAt rgK W a n c rs) (hS : Sides size rs) (hn : n ≤ 100000) :
    Calls Try.prog 27 #[.slice a n c, .func (.func 28) #[] #[.pointer (some ⟨ab, 0, none⟩)]] W (BsTo n (fun j => sidA x0 (el rs j)) W) := by
  have hal := (Below.refl W.heap.size W).alloc (Nat.le_refl _) (.cells #[.func (.func 28) #[] #[.pointer (some ⟨ab, 0, none⟩)]] 59)
  have hbx := BlkAt.new W 59 #[.func (.func 28) #[] #[.pointer (some ⟨ab, 0, none⟩)]]
  obtain ⟨W1, hW1⟩ : ∃ W1, W.alloc (.cells #[.func (.func 28) #[] #[.pointer (some ⟨ab, 0, none⟩)]] 59) = W1 := ⟨_, rfl⟩
  obtain ⟨sb, hsb⟩ : ∃ sb, W.heap.size = sb := ⟨_, rfl⟩
  rw [hW1] at hal hbx
  rw [hsb] at hbx
  have h1 := box_keep hx hal
  have hc : W1.cell? ⟨sb, 0, none⟩ = some (.func (.func 28) #[] #[.pointer (some ⟨ab, 0, none⟩)]) := hbx.cell 0
  have hl := hE.len
  have C := Lib.hid (bsRg_is (sb := sb) (f := fun j => sidA x0 (el rs j)) (hE.keep hal) hn (fun k hk W' hW' => by
    have hbd := hS.one (i := k) (by omega)
    exact plaCmpA_is (box_keep h1 hW') (box_keep hc hW') hbd.1 (by omega) (by omega)) (fun i j hij hj q => hS.mono hij (by omega) q))
  have HAL := Lib.hid hal
  have HSB := Lib.hid hsb
  clear hx hE hS hal hbx h1 hc hl
  go_enter Try.func27, Try.ntmps27
  go_wp2_with (go_at_call 39; ((with_reducible refine (C.out).mono ?_); rintro e w3 ⟨p, p1, p2, p3, rfl, hb3⟩); have HB3 := Lib.hid (HAL.out.trans (hb3.mono HAL.out.size)); have P2 := Lib.hid p2; have P3 := Lib.hid p3; clear hb3 p2 p3)
  go_ret2
  exact ⟨p, p1, P2.out, P3.out, rfl, HB3.out⟩
end
end Go.Proofs.Ytpgjdbnhbkggpaa
