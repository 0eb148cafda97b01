/- Package plan: a plan in memory; what its searches, Used, Find, At answer. Conditions: as few regions as 1000; texts as short as any can be. -/
import Derived.Test.YtpgjdbnhbkggpaaPlaB
namespace Go.Proofs.Ytpgjdbnhbkggpaa
open Go.RowKit Go.IntWalk

theorem plaSelf (a : Addr) (w : World) : Sem.run Try.prog (binOp .eql 24 (.pointer (some a)) (.pointer (some a))) w = .ok (.bool true) w := by
  have hj : (Try.prog.info? 52).isSome = true := by kernel_rfl
  obtain ⟨j, hj⟩ := Option.isSome_iff_exists.1 hj
  exact run_eql_ptr_same w a Try.underlying24 hj
theorem plaOther (a : Addr) (w : World) : Sem.run Try.prog (binOp .eql 24 (.pointer none) (.pointer (some a))) w = .ok (.bool false) w := by
  have h : ∀ d : Nat, (Op.equalIn (d + 1) 24 (.pointer none) (.pointer (some a))).run Try.prog w = .ok false w := fun d => by
    simp [Op.equalIn, run_underlying Try.underlying24]
  simp only [binOp]
  simp [Op.equal, Op.maxDepth, h 9999]
/-- Whether p is a plan that New made. -/
def MadeP (p : Value) (w : World) (z : Bool) : Prop := ∀ w1, Below w.heap.size w w1 → Calls Try.prog 20 #[p] w1 fun e w' => e = .returned (.bool z) ∧ w1 = w'
theorem MadeP.keep {p : Value} {z : Bool} {w w' : World} (h : MadeP p w z) (hb : Below w.heap.size w w') : MadeP p w' z := fun w1 h1 => h w1 (hb.trans (h1.mono hb.size))
theorem MadeP.now {p : Value} {z : Bool} {w : World} (h : MadeP p w z) : Calls Try.prog 20 #[p] w fun e w' => e = .returned (.bool z) ∧ w = w' := h w (Below.refl _ _)
theorem madeP_nil (w : World) : MadeP (.pointer none) w false := by
  intro w1 _
  go_enter Try.func20, Try.ntmps20
  go_wp2
  go_ret
  exact ⟨rfl, rfl⟩
theorem madeP_odd {b : Nat} {w : World} (h : w.cell? ⟨b, 3, none⟩ = some (.pointer none)) : MadeP (.pointer (some ⟨b, 0, none⟩)) w false := by
  intro w1 hb
  have c1 := (hb.cell (p := ⟨b, 3, none⟩) (cell_lt h)).trans h
  have q0 := plaSelf
  have q1 := plaOther
  clear h hb
  go_enter Try.func20, Try.ntmps20
  go_wp2
  go_ret
  exact ⟨rfl, rfl⟩
theorem madeP_is {b : Nat} {w : World} (h : w.cell? ⟨b, 3, none⟩ = some (.pointer (some ⟨b, 0, none⟩))) : MadeP (.pointer (some ⟨b, 0, none⟩)) w true := by
  intro w1 hb
  have c1 := (hb.cell (p := ⟨b, 3, none⟩) (cell_lt h)).trans h
  have q0 := plaSelf
  have q1 := plaOther
  clear h hb
  go_enter Try.func20, Try.ntmps20
  go_wp2
  go_ret
  exact ⟨rfl, rfl⟩

/-- A plan in memory: t's block, the regions' list, the names' index; F: its blocks. -/
structure PlaIn (B : Nat) (w : World) (t : Nat) (size : Int) (rs : Rgs) (F : Nat → Prop) (ns : List Int) (v1 v2 : Value) : Prop where
  blk : BlkAt t 52 #[.int .i64 size, v1, v2, .pointer (some ⟨t, 0, none⟩)] w
  reg : OwnEl rgK w B 37 v1 rs
  nam : OwnEl (numK .i64) w B 3 v2 ns
  idx : NsOk rs ns
  sid : Sides size rs
  ft : F t
  f1 : ∀ j, v1.ownBlock = some j → F j
  f2 : ∀ j, v2.ownBlock = some j → F j
  low : ∀ j, F j → B ≤ j ∧ j < w.heap.size
def PlaAt (B : Nat) (w : World) (t : Nat) (size : Int) (rs : Rgs) (F : Nat → Prop) : Prop := ∃ ns v1 v2, PlaIn B w t size rs F ns v1 v2
/-- What held answers of p: these regions. -/
structure HeldP (p : Value) (w : World) (a : Option Addr) (n c : Nat) (rs : Rgs) : Prop where
  call : ∀ w1, Below w.heap.size w w1 → Calls Try.prog 26 #[p] w1 fun e w' => e = .returned (.slice a n c) ∧ w1 = w'
  els : ElAt rgK w a n c rs
theorem HeldP.keep {p : Value} {w w' : World} {a : Option Addr} {n c : Nat} {rs : Rgs} (h : HeldP p w a n c rs) (k : Below w.heap.size w w') : HeldP p w' a n c rs := ⟨fun w1 h1 => h.call w1 (k.trans (h1.mono k.size)), h.els.keep k⟩
theorem HeldP.nobody {p : Value} {w : World} (h : MadeP p w false) : HeldP p w none 0 0 [] := by
  refine ⟨fun w1 h1 => ?_, ElAt.emp _ _⟩
  have H := Lib.hid (h w1 h1)
  clear h h1
  go_enter Try.func26, Try.ntmps26
  go_wp2_with (go_at_call 20; ((with_reducible refine (H.out).mono ?_); rintro e w2 ⟨rfl, rfl⟩))
  go_ret
  exact ⟨rfl, rfl⟩
section
variable {B t : Nat} {w w' : World} {size : Int} {rs : Rgs} {F G : Nat → Prop} {ns : List Int} {v1 v2 : Value}
theorem PlaIn.kept (h : PlaIn B w t size rs F ns v1 v2) (k : Keeps G w w') (hn : ∀ j, F j → ¬ G j) : PlaIn B w' t size rs F ns v1 v2 :=
  ⟨h.blk.kept k (hn _ h.ft), h.reg.kept k fun j q => hn j (h.f1 j q), h.nam.kept k fun j q => hn j (h.f2 j q), h.idx, h.sid, h.ft, h.f1, h.f2, fun j q => ⟨(h.low j q).1, Nat.lt_of_lt_of_le (h.low j q).2 k.size⟩⟩
theorem PlaIn.keep (h : PlaIn B w t size rs F ns v1 v2) (k : Below w.heap.size w w') : PlaIn B w' t size rs F ns v1 v2 := h.kept (Keeps.of_below (fun _ => False) k) fun _ _ q => q
theorem PlaAt.kept (h : PlaAt B w t size rs F) (k : Keeps G w w') (hn : ∀ j, F j → ¬ G j) : PlaAt B w' t size rs F := by
  obtain ⟨ns, v1, v2, h⟩ := h
  exact ⟨ns, v1, v2, h.kept k hn⟩
theorem PlaAt.keep (h : PlaAt B w t size rs F) (k : Below w.heap.size w w') : PlaAt B w' t size rs F := h.kept (Keeps.of_below (fun _ => False) k) fun _ _ q => q
theorem PlaAt.low (h : PlaAt B w t size rs F) : ∀ j, F j → B ≤ j ∧ j < w.heap.size := by obtain ⟨ns, v1, v2, h⟩ := h; exact h.low
theorem PlaAt.sid (h : PlaAt B w t size rs F) : Sides size rs := by obtain ⟨ns, v1, v2, h⟩ := h; exact h.sid
theorem PlaIn.made (h : PlaIn B w t size rs F ns v1 v2) : MadeP (.pointer (some ⟨t, 0, none⟩)) w true := madeP_is (h.blk.cell 3)
theorem PlaIn.held (h : PlaIn B w t size rs F ns v1 v2) {n : Nat} (hn : rs.length = n) : ∃ a c, v1 = .slice a n c ∧ w.cell? ⟨t, 1, none⟩ = some (.slice a n c) ∧ HeldP (.pointer (some ⟨t, 0, none⟩)) w a n c rs := by
  obtain ⟨a, c, rfl, hE⟩ := h.reg.at
  subst hn
  have c1 : w.cell? ⟨t, 1, none⟩ = some (.slice a rs.length c) := h.blk.cell 1
  refine ⟨a, c, rfl, c1, fun w1 h1 => ?_, hE⟩
  have H := Lib.hid (h.made w1 h1)
  have d1 := (h1.cell (p := ⟨t, 1, none⟩) (cell_lt c1)).trans c1
  clear h h1 c1 hE
  go_enter Try.func26, Try.ntmps26
  go_wp2_with (go_at_call 20; ((with_reducible refine (H.out).mono ?_); rintro e w2 ⟨rfl, rfl⟩))
  go_ret
  exact ⟨rfl, rfl⟩
theorem PlaAt.held (h : PlaAt B w t size rs F) {n : Nat} (hn : rs.length = n) : ∃ a c, HeldP (.pointer (some ⟨t, 0, none⟩)) w a n c rs := by
  obtain ⟨ns, v1, v2, h⟩ := h
  obtain ⟨a, c, -, -, h⟩ := h.held hn
  exact ⟨a, c, h⟩
set_option maxHeartbeats 1000000 in
theorem plaSeekName_is (h : PlaIn B w t size rs F ns v1 v2) (s : ByteArray) (hn : rs.length ≤ 2048) :
    Calls Try.prog 22 #[.pointer (some ⟨t, 0, none⟩), .string s] w (BsTo ns.length (fun j => cmpB (nmA rs (el ns j)) s) w) := by
  obtain ⟨n, hnl⟩ : ∃ n, rs.length = n := ⟨_, rfl⟩
  have k1 := (Below.refl w.heap.size w).alloc (Nat.le_refl _) (.cells #[.pointer (some ⟨t, 0, none⟩)] 24)
  have b1 := BlkAt.new w 24 #[.pointer (some ⟨t, 0, none⟩)]
  obtain ⟨W1, hW1⟩ : ∃ W1, w.alloc (.cells #[.pointer (some ⟨t, 0, none⟩)] 24) = W1 := ⟨_, rfl⟩
  rw [hW1] at k1 b1
  have k2 := k1.alloc k1.size (.cells #[.string s] 9)
  have b2 := BlkAt.new W1 9 #[.string s]
  have b1' := b1.keep ((Below.refl W1.heap.size W1).alloc (Nat.le_refl _) (.cells #[.string s] 9))
  obtain ⟨W2, hW2⟩ : ∃ W2, W1.alloc (.cells #[.string s] 9) = W2 := ⟨_, rfl⟩
  rw [hW2] at k2 b2 b1'
  obtain ⟨nb, hnb⟩ : ∃ nb, W1.heap.size = nb := ⟨_, rfl⟩
  rw [hnb] at b2
  have h2 := h.keep k2
  obtain ⟨a, c, e1, r1, hH⟩ := h2.held hnl
  obtain ⟨a2, c2, e2, hA⟩ := h2.nam.at
  obtain ⟨pb, hpb⟩ : ∃ pb, w.heap.size = pb := ⟨_, rfl⟩
  rw [hpb] at b1'
  have p0 : W2.cell? ⟨pb, 0, none⟩ = some (.pointer (some ⟨t, 0, none⟩)) := b1'.cell 0
  have q2 : W2.cell? ⟨t, 2, none⟩ = some (.slice a2 ns.length c2) := by rw [← e2]; exact h2.blk.cell 2
  have C := Lib.hid (plaSeekInt_is (pb := pb) (nb := nb) (t := t) (s := s) ⟨p0, b2.cell 0, r1, hH.els⟩ hA h2.idx (by omega))
  have HK := Lib.hid k2
  have HPB := Lib.hid hpb
  clear h k1 b1 k2 b2 b1' h2 e1 e2 r1 hH hA
  go_enter Try.func22, Try.ntmps22
  go_wp2_with (go_at_call 33; ((with_reducible refine (C.out).mono ?_); rintro e w3 ⟨p, p1, p2, p3, rfl, hb3⟩); have HB3 := Lib.hid (HK.out.trans (hb3.mono HK.out.size)); have P2 := Lib.hid p2; have P3 := Lib.hid p3; clear hb3 p2 p3)
  go_ret2
  exact ⟨p, p1, P2.out, P3.out, rfl, HB3.out⟩
end
end Go.Proofs.Ytpgjdbnhbkggpaa
