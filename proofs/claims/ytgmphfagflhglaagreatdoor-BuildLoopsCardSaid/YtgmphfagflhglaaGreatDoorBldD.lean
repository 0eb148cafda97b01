/- Package build: a builder in memory; New, Ins, Label, Go, Len, Finish; of nobody's builder. Conditions: as few as 900. -/
import Derived.Test.YtgmphfagflhglaaGreatDoorBldC
namespace Go.Proofs.YtgmphfagflhglaaGreatDoor
open Go.RowKit Go.Maps Go.IntWalk

/-- A builder in memory: its block, its draft's (G). -/
structure BldIn (B : Nat) (w : World) (b d : Nat) (s : Bst) (F G : Nat → Prop) : Prop where
  blk : BlkAt b 48 #[.pointer (some ⟨d, 0, none⟩), .pointer (some ⟨b, 0, none⟩)] w
  dr : DrAt B w d s G
  sub : ∀ j, G j → F j
  fb : F b
  gb : ¬ G b
  low : ∀ j, F j → B ≤ j ∧ j < w.heap.size
def BldAt (B : Nat) (w : World) (b d : Nat) (s : Bst) (F : Nat → Prop) : Prop := ∃ G, BldIn B w b d s F G
/-- What a call that tells leaves. -/
def BldTo (B b d : Nat) (k : Int) (s : Bst) (F : Nat → Prop) (w : World) (e : Ending) (w' : World) : Prop := ∃ F', e = .returned (.int .i64 k) ∧ BldAt B w' b d s F' ∧ Grows F w F' w'
/-- What made answers, from w on. -/
def MadeB (p : Value) (w : World) (ro : Option Addr) : Prop := ∀ w1, Below w.heap.size w w1 → Calls Tryz.prog 18 #[p] w1 fun e w' => e = .returned (.pointer ro) ∧ w1 = w'
theorem MadeB.keep {p : Value} {ro : Option Addr} {w w' : World} (h : MadeB p w ro) (hb : Below w.heap.size w w') : MadeB p w' ro := fun w1 h1 => h w1 (hb.trans (h1.mono hb.size))
theorem MadeB.now {p : Value} {ro : Option Addr} {w : World} (h : MadeB p w ro) : Calls Tryz.prog 18 #[p] w fun e w' => e = .returned (.pointer ro) ∧ w = w' := h w (Below.refl _ _)
theorem bldSelf (a : Addr) (w : World) : Sem.run Tryz.prog (binOp .neq 22 (.pointer (some a)) (.pointer (some a))) w = .ok (.bool false) w := by
  have hj : (Tryz.prog.info? 48).isSome = true := by kernel_rfl
  obtain ⟨j, hj⟩ := Option.isSome_iff_exists.1 hj
  exact Lib.run_neq_ptr_same w a Tryz.underlying22 hj
theorem bldOther (a : Addr) (w : World) : Sem.run Tryz.prog (binOp .neq 22 (.pointer none) (.pointer (some a))) w = .ok (.bool true) w := by
  have h : ∀ d : Nat, (Op.equalIn (d + 1) 22 (.pointer none) (.pointer (some a))).run Tryz.prog w = .ok false w := fun d => by
    simp [Op.equalIn, run_underlying Tryz.underlying22]
  simp only [binOp]
  simp [Op.equal, Op.maxDepth, h 9999]
theorem madeB_nil (w : World) : MadeB (.pointer none) w none := by
  intro w1 _
  go_enter Tryz.func18, Tryz.ntmps18
  go_wp2
  go_ret
  exact ⟨rfl, rfl⟩
set_option maxRecDepth 100000 in
theorem madeB_odd {w : World} {b : Nat} (h : BlkAt b 48 #[.pointer none, .pointer none] w) : MadeB (.pointer (some ⟨b, 0, none⟩)) w none := by
  intro w1 hb
  have c1 := (h.keep hb).cell 1
  have q0 := bldSelf
  have q1 := bldOther
  clear h hb
  go_enter Tryz.func18, Tryz.ntmps18
  go_wp2
  go_ret
  exact ⟨rfl, rfl⟩
set_option maxRecDepth 100000 in
theorem madeB_is {w : World} {b d : Nat} (h : BlkAt b 48 #[.pointer (some ⟨d, 0, none⟩), .pointer (some ⟨b, 0, none⟩)] w) : MadeB (.pointer (some ⟨b, 0, none⟩)) w (some ⟨d, 0, none⟩) := by
  intro w1 hb
  have c0 := (h.keep hb).cell 0
  have c1 := (h.keep hb).cell 1
  have q0 := bldSelf
  have q1 := bldOther
  clear h hb
  go_enter Tryz.func18, Tryz.ntmps18
  go_wp2
  go_ret
  exact ⟨rfl, rfl⟩
section
variable {B b d : Nat} {w w' w1 : World} {s s' : Bst} {F G H : Nat → Prop}
theorem BldIn.made (h : BldIn B w b d s F G) : MadeB (.pointer (some ⟨b, 0, none⟩)) w (some ⟨d, 0, none⟩) := madeB_is h.blk
theorem BldIn.kept (h : BldIn B w b d s F G) (k : Keeps H w w') (hn : ∀ j, F j → ¬ H j) : BldIn B w' b d s F G :=
  ⟨h.blk.kept k (hn _ h.fb), h.dr.kept k fun j q => hn j (h.sub j q), h.sub, h.fb, h.gb, fun j q => ⟨(h.low j q).1, Nat.lt_of_lt_of_le (h.low j q).2 k.size⟩⟩
theorem BldIn.keep (h : BldIn B w b d s F G) (k : Below w.heap.size w w') : BldIn B w' b d s F G := h.kept (Keeps.of_below (fun _ => False) k) fun _ _ q => q
theorem BldAt.kept (h : BldAt B w b d s F) (k : Keeps H w w') (hn : ∀ j, F j → ¬ H j) : BldAt B w' b d s F := by
  obtain ⟨G, h⟩ := h
  exact ⟨G, h.kept k hn⟩
theorem BldAt.keep (h : BldAt B w b d s F) (k : Below w.heap.size w w') : BldAt B w' b d s F := h.kept (Keeps.of_below (fun _ => False) k) fun _ _ q => q
theorem BldAt.low (h : BldAt B w b d s F) : ∀ j, F j → B ≤ j ∧ j < w.heap.size := by
  obtain ⟨G, h⟩ := h
  exact h.low
/-- A call on the draft. -/
theorem BldIn.next {G' : Nat → Prop} (h : BldIn B w b d s F G) (hB : B ≤ w.heap.size) (h1 : DrAt B w' d s' G') (g : Grows G w G' w') : BldIn B w' b d s' (Wide F w w') G' ∧ Grows F w (Wide F w w') w' := by
  have hs := g.keeps.size
  have K : Keeps F w w' := g.keeps.mono fun j _ q => h.sub j q
  refine ⟨⟨h.blk.kept g.keeps h.gb, h1, fun j q => ?_, .inl h.fb, fun r => ?_, fun j q => ?_⟩, Wide.grows K⟩
  · rcases g.new j q with r | r
    · exact .inl (h.sub j r)
    · exact .inr ⟨r, (h1.low j q).2⟩
  · rcases g.new b r with e | e
    · exact h.gb e
    · have := (h.low b h.fb).2; omega
  · rcases q with r | r
    · exact ⟨(h.low j r).1, Nat.lt_of_lt_of_le (h.low j r).2 hs⟩
    · exact ⟨by omega, r.2⟩
theorem BldIn.to {k : Int} {e : Ending} (h : BldIn B w b d s F G) (hB : B ≤ w.heap.size) (hr : DrTo B d k s' G w e w') : BldTo B b d k s' F w e w' := by
  obtain ⟨G', e1, h1, g1⟩ := hr
  have q := h.next hB h1 g1
  exact ⟨_, e1, ⟨_, q.1⟩, q.2⟩
end
/-- What New answers: a builder of its own. -/
def BldNew (B : Nat) (w : World) (e : Ending) (w' : World) : Prop := ∃ b d F, e = .returned (.pointer (some ⟨b, 0, none⟩)) ∧ BldAt B w' b d ⟨[], [], []⟩ F ∧ (∀ j, F j → w.heap.size ≤ j) ∧ Below w.heap.size w w'
set_option maxRecDepth 100000 in
set_option maxHeartbeats 2000000 in
theorem bldNew_is (B : Nat) (w : World) (hB : B ≤ w.heap.size) : Calls Tryz.prog 4 #[] w (BldNew B w) := by
  have C := Lib.hid (labNew_is B w hB)
  go_enter Tryz.func4, Tryz.ntmps4
  go_wp2_with (go_at_call 16; ((with_reducible refine (C.out).mono ?_); rintro e w1 ⟨t, G, rfl, hI, hG, hb⟩); have HI := Lib.hid hI; have HG := Lib.hid hG; have HB := Lib.hid hb; clear hI hG hb)
  go_ret
  have hs := HB.out.size
  have b1 := (Below.refl w1.heap.size w1).alloc (Nat.le_refl _) (.cells #[.pointer (some ⟨t, 0, none⟩), .slice none 0 0] 46)
  have bd := BlkAt.new w1 46 #[.pointer (some ⟨t, 0, none⟩), .slice none 0 0]
  have hd : DrIn B (w1.alloc (.cells #[.pointer (some ⟨t, 0, none⟩), .slice none 0 0] 46)) w1.heap.size t (.slice none 0 0) ⟨[], [], []⟩ (fun j => G j ∨ j = w1.heap.size) G := by
    refine ⟨bd, HI.out.keep b1, OwnEl.nil _ _ _ _, .inr rfl, fun j q => .inl q, ?_, ?_, fun q => Nat.lt_irrefl _ (HI.out.low _ q).2, ?_⟩
    · intro j q; cases q
    · intro j q; cases q
    · rintro j (q | q)
      · have := HI.out.low j q; simp; omega
      · subst q; simp; omega
  generalize hW : w1.alloc (.cells #[.pointer (some ⟨t, 0, none⟩), .slice none 0 0] 46) = W at *
  have hWs : W.heap.size = w1.heap.size + 1 := by rw [← hW]; simp
  have b2 := (Below.refl W.heap.size W).alloc (Nat.le_refl _) (.cells #[.pointer (some ⟨w1.heap.size, 0, none⟩), .pointer (some ⟨w1.heap.size + 1, 0, none⟩)] 48)
  have bb := BlkAt.new W 48 #[.pointer (some ⟨w1.heap.size, 0, none⟩), .pointer (some ⟨w1.heap.size + 1, 0, none⟩)]
  rw [hWs] at bb
  refine ⟨w1.heap.size + 1, w1.heap.size, fun j => (G j ∨ j = w1.heap.size) ∨ j = w1.heap.size + 1, rfl, ⟨_, bb, ⟨_, _, _, hd.keep b2⟩, fun j q => .inl q, .inr rfl, ?_, ?_⟩, ?_, ?_⟩
  · rintro (q | q)
    · have := (HI.out.low _ q).2; omega
    · omega
  · rintro j (q | q)
    · have := hd.low j q; simp; omega
    · subst q; simp; omega
  · rintro j ((q | q) | q)
    · exact HG.out j q
    · omega
    · omega
  · exact (HB.out.trans (b1.mono hs)).trans (b2.mono (by omega))
section
variable {B b d : Nat} {s : Bst} {F : Nat → Prop}
set_option maxRecDepth 100000 in
set_option maxHeartbeats 2000000 in
theorem bldIns_is (o x a c n : Int) (w : World) (h : BldAt B w b d s F) (hL : ShapesLaid w) (hn : s.L.length ≤ 1000) (hB : B ≤ w.heap.size) :
    Calls Tryz.prog 9 #[.pointer (some ⟨b, 0, none⟩), .agg #[.int .i64 o, .int .i64 x, .int .i64 a, .int .i64 c, .int .i64 n]] w (BldTo B b d (insE (o, x, a, c, n)) (s.ins (o, x, a, c, n)) F w) := by
  obtain ⟨G, h⟩ := h
  have ba := (Below.refl w.heap.size w).alloc (Nat.le_refl _) (.cells #[.int .i64 o, .int .i64 x, .int .i64 a, .int .i64 c, .int .i64 n] 29)
  have HM := Lib.hid (h.made.keep ba).now
  have HA := Lib.hid (drAdd_is B d s G o x a c n _ (h.dr.keep ba) (hL.below ba hL.lt) hn (Nat.le_trans hB ba.size))
  have H := Lib.hid h
  have HB := Lib.hid ba
  clear h hL ba
  go_enter Tryz.func9, Tryz.ntmps9
  go_wp2_with (first
    | (go_at_call 18; ((with_reducible refine (HM.out).mono ?_); rintro e w1 ⟨rfl, rfl⟩))
    | (go_at_call 23; ((with_reducible refine (HA.out).mono ?_); rintro e w1 ⟨G', rfl, h1, g1⟩); have H1 := Lib.hid h1; have G1 := Lib.hid g1; clear h1 g1))
  go_ret
  exact H.out.to hB ⟨G', rfl, H1.out, (Grows.of_below G HB.out).trans G1.out⟩
set_option maxRecDepth 100000 in
set_option maxHeartbeats 2000000 in
theorem bldLabel_is (nm : ByteArray) (w : World) (h : BldAt B w b d s F) (hs : nm.size ≤ maxLen) (hd : s.ds.length ≤ 1000) (hu : s.us.length ≤ 1000) (hB : B ≤ w.heap.size) :
    Calls Tryz.prog 32 #[.pointer (some ⟨b, 0, none⟩), .string nm] w (BldTo B b d (defE s.ds nm) (s.lab nm s.L.length) F w) := by
  obtain ⟨G, h⟩ := h
  obtain ⟨t, v, T, hdr⟩ := h.dr
  obtain ⟨av, cv, rfl, -⟩ := hdr.own.at
  have HM := Lib.hid h.made.now
  have c0 := hdr.blk.cell 0
  have c1 := hdr.blk.cell 1
  have H := Lib.hid h
  have HD := Lib.hid hdr
  clear h hdr
  go_enter Tryz.func32, Tryz.ntmps32
  go_wp2_with (go_at_call 18; ((with_reducible refine (HM.out).mono ?_); rintro e w1 ⟨rfl, rfl⟩))
  go_still_tail 10, (by kernel_rfl)
  change wpList _ _ _ _ _ w.drew
  have HK := Lib.hid (show Below w.heap.size w w.drew from (Below.refl _ _).drew)
  have HD := Lib.hid (HD.out.keep HK.out)
  have hB2 := HK.out.size
  generalize w.drew = w2 at *
  clear c0 c1
  have HU := Lib.hid (labDefine_is B t s.ds s.us T nm s.L.length w2 HD.out.tab hs (by omega) (by omega))
  go_wp2_with (go_at_call 20; ((with_reducible refine (HU.out).mono ?_); rintro e w3 ⟨T1, rfl, t1, g1⟩); have HG := Lib.hid (HD.out.named (by omega) t1 g1); clear t1 g1)
  go_ret
  exact H.out.to hB ⟨_, rfl, ⟨_, _, _, HG.out.1⟩, (Grows.of_below G HK.out).trans HG.out.2⟩
set_option maxHeartbeats 1000000 in
theorem bldLen_is (w : World) (h : BldAt B w b d s F) : Calls Tryz.prog 34 #[.pointer (some ⟨b, 0, none⟩)] w fun e w' => e = .returned (.int .i64 s.L.length) ∧ w = w' := by
  obtain ⟨G, h⟩ := h
  obtain ⟨t, v, T, hdr⟩ := h.dr
  obtain ⟨av, cv, rfl, -⟩ := hdr.own.at
  have HM := Lib.hid h.made.now
  have c1 := hdr.blk.cell 1
  clear h hdr
  go_enter Tryz.func34, Tryz.ntmps34
  go_wp2_with (go_at_call 18; ((with_reducible refine (HM.out).mono ?_); rintro e w1 ⟨rfl, rfl⟩))
  go_ret
  exact ⟨rfl, rfl⟩
end
end Go.Proofs.YtgmphfagflhglaaGreatDoor
