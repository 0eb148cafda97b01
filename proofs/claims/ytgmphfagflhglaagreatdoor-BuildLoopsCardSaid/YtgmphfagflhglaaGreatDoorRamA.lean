/- What package ram answers: of a memory that New made, and of one that has no words. Conditions: the slices' cells are words; no more words than the run-time allows. -/
import Derived.Test.YtgmphfagflhglaaGreatDoorRamR
import Derived.Lib.Builder
import Derived.Lib.SliceRun
namespace Go.Proofs.YtgmphfagflhglaaGreatDoor
open Go.RowKit

theorem ramSelf (a : Addr) (w : World) : Sem.run Tryz.prog (binOp .neq 63 (.pointer (some a)) (.pointer (some a))) w = .ok (.bool false) w := by
  have hj : (Tryz.prog.info? 102).isSome = true := by kernel_rfl
  obtain ⟨j, hj⟩ := Option.isSome_iff_exists.1 hj
  exact Lib.run_neq_ptr_same w a Tryz.underlying63 hj
theorem ramOther (a : Addr) (w : World) : Sem.run Tryz.prog (binOp .neq 63 (.pointer none) (.pointer (some a))) w = .ok (.bool true) w := by
  have h : ∀ d : Nat, (Op.equalIn (d + 1) 63 (.pointer none) (.pointer (some a))).run Tryz.prog w = .ok false w := fun d => by
    simp [Op.equalIn, run_underlying Tryz.underlying63]
  simp only [binOp]
  simp [Op.equal, Op.maxDepth, h 9999]
theorem wordsNil (a : Option Addr) (n c n' c' : Nat) (w : World) : Sem.run Tryz.prog (binOp .eql 62 (.slice a n c) (.slice none n' c')) w = .ok (.bool a.isNone) w := Lib.run_eql_slice_nil w _ _ a n c n' c' Tryz.underlying62
set_option maxRecDepth 100000 in
set_option maxHeartbeats 1000000 in
theorem sliceClone_is (a : Option Addr) (n c : Nat) (l : List Int) (w : World) (h : Ws .i32 w a n c l) (hn : n ≤ 1048576) :
    Calls Tryz.prog 45 #[.slice a n c] w fun e w' => ∃ v, e = .returned v ∧ OwnW .i32 w' w.heap.size 21 v l ∧ Below w.heap.size w w' := by
  have hcap := h.cap
  have hbig := h.big
  unfold maxLen at hbig
  have q := wordsNil
  cases a with
  | none =>
    obtain ⟨rfl, rfl, rfl⟩ := h.none_eq
    clear h
    go_enter Tryz.func45, Tryz.ntmps45
    go_wp2
    go_ret
    exact ⟨_, rfl, OwnW.nil _ _ _, Below.refl _ _⟩
  | some ad =>
    obtain ⟨i0, hi, hz0, hz1, hz2⟩ := info_parts infoI32
    have HB := Lib.hid (h.keep ((Below.refl w.heap.size w).alloc (Nat.le_refl _) (.cells #[] 21)))
    have HO := Lib.hid (OwnW.lit (κ := .i32) w 21 (Nat.le_refl _) [] (by simp) #[] rfl)
    have HA := Lib.hid ((Below.refl w.heap.size w).alloc (Nat.le_refl _) (.cells #[] 21))
    have HS := Lib.hid (show w.heap.size ≤ (w.alloc (.cells #[] 21)).heap.size from HA.out.size)
    clear h
    go_enter Tryz.func45, Tryz.ntmps45
    go_wp2_with (at_builtin; refine wpList_append_ws rfl _ _ 62 rfl w.heap.size 21 i0 (.int .i32 0) Tryz.underlying62 hi hz0 hz1 hz2 rfl rfl HO.out rfl HB.out (by simpa using (by omega : n * 4 ≤ 140737488355328)) HS.out HA.out ?_; intro v' w1 hown hb1 hs1; rw [List.nil_append] at hown; have HW := Lib.hid hown; have HB1 := Lib.hid hb1; clear hown hb1)
    go_ret
    exact ⟨_, rfl, HW.out, HB1.out⟩

/-- What m holds: the slice v, and writes nothing to tell it. -/
def Held (m : Value) (w : World) (v : Value) : Prop := ∀ w1, Below w.heap.size w w1 → Calls Tryz.prog 94 #[m] w1 fun e w' => e = .returned v ∧ w1 = w'
theorem Held.keep {m v : Value} {w w' : World} (h : Held m w v) (hb : Below w.heap.size w w') : Held m w' v := fun w1 h1 => h w1 (hb.trans (h1.mono hb.size))
theorem Held.now {m v : Value} {w : World} (h : Held m w v) : Calls Tryz.prog 94 #[m] w fun e w' => e = .returned v ∧ w = w' := h w (Below.refl _ _)
theorem held_nil (w : World) : Held (.pointer none) w (.slice none 0 0) := by
  intro w1 _
  go_enter Tryz.func94, Tryz.ntmps94
  go_wp2
  go_ret
  exact ⟨rfl, rfl⟩
theorem held_odd {b : Nat} {w : World} (h : BlkAt b 102 #[.slice none 0 0, .pointer none] w) : Held (.pointer (some ⟨b, 0, none⟩)) w (.slice none 0 0) := by
  intro w1 hb
  have hk := h.keep hb
  have c1 : w1.cell? ⟨b, 1, none⟩ = some (.pointer none) := hk.cell 1
  have q0 := ramSelf
  have q1 := ramOther
  clear h hk hb
  go_enter Tryz.func94, Tryz.ntmps94
  go_wp2
  go_ret
  exact ⟨rfl, rfl⟩
theorem held_is {base b : Nat} {v : Value} {L : List Int} {w : World} (h : RamAt 102 21 w base b v L) : Held (.pointer (some ⟨b, 0, none⟩)) w v := by
  intro w1 hb
  have hk := h.blk.keep hb
  have c0 : w1.cell? ⟨b, 0, none⟩ = some v := hk.cell 0
  have c1 : w1.cell? ⟨b, 1, none⟩ = some (.pointer (some ⟨b, 0, none⟩)) := hk.cell 1
  have q0 := ramSelf
  have q1 := ramOther
  clear h hk hb
  go_enter Tryz.func94, Tryz.ntmps94
  go_wp2
  go_ret
  exact ⟨rfl, rfl⟩

/-- No such address: nothing is done. -/
theorem ramAt_out {m : Value} {a : Option Addr} {n c : Nat} {x : Int} {f : Value} {w : World} (h : Held m w (.slice a n c)) (hx : -2147483648 ≤ x ∧ x ≤ 2147483647) (hin : ¬ (0 ≤ x ∧ x < n)) (_hn : n ≤ 1048576) :
    Calls Tryz.prog 86 #[m, .int .i32 x, f] w fun e w' => e = .returned (.bool false) ∧ w = w' := by
  obtain ⟨x0, x1⟩ := hx
  have HH := Lib.hid h
  clear h
  by_cases hn : x < 0
  · clear hin
    go_enter Tryz.func86, Tryz.ntmps86
    go_wp2_with (go_at_call 94; ((with_reducible refine (HH.out.now).mono ?_); rintro e w1 ⟨rfl, rfl⟩))
    go_ret
    exact ⟨rfl, rfl⟩
  · have hge : (n : Int) ≤ x := by omega
    have h0 : 0 ≤ x := by omega
    clear hin hn
    go_enter Tryz.func86, Tryz.ntmps86
    go_wp2_with (go_at_call 94; ((with_reducible refine (HH.out.now).mono ?_); rintro e w1 ⟨rfl, rfl⟩))
    go_ret
    exact ⟨rfl, rfl⟩
/-- What is done on a word's place: it is told, it is another one. -/
theorem ramTell_is {g k p : Nat} {y : Int} {w w0 : World} (hc : w.cell? ⟨g, k, none⟩ = some (.int .i32 y)) {z : Value} (hp : w.cell? ⟨p, 0, none⟩ = some z) (hf : w.frozen? ⟨p, 0, none⟩ = false) (hb : Below p w0 w) :
    Calls Tryz.prog 87 #[.pointer (some ⟨g, k, none⟩), .pointer (some ⟨p, 0, none⟩)] w fun e w' => e = .returned (.tuple #[]) ∧ w'.cell? ⟨p, 0, none⟩ = some (.int .i32 y) ∧ Below p w0 w' := by
  have HB := Lib.hid (fun u => hb.setCell (p := ⟨p, 0, none⟩) (Nat.le_refl _) u)
  have HC := Lib.hid (fun v => World.cell?_setCell_same w ⟨p, 0, none⟩ v hp)
  clear hb
  go_enter Tryz.func87, Tryz.ntmps87
  go_wp2
  go_end0
  exact ⟨rfl, HC.out _, HB.out _⟩
theorem ramTurn_is {g k p : Nat} {u : Int} {w : World} {z : Value} (hc : w.cell? ⟨g, k, none⟩ = some z) (hf : w.frozen? ⟨g, k, none⟩ = false) (hp : w.cell? ⟨p, 0, none⟩ = some (.int .i32 u)) :
    Calls Tryz.prog 88 #[.pointer (some ⟨g, k, none⟩), .pointer (some ⟨p, 0, none⟩)] w fun e w' => e = .returned (.tuple #[]) ∧ w.setCell ⟨g, k, none⟩ (.int .i32 u) = w' := by
  go_enter Tryz.func88, Tryz.ntmps88
  go_wp2
  go_end0
  exact ⟨rfl, rfl⟩
theorem ramAt_tell {m : Value} {g n c k p : Nat} {y : Int} {w w0 : World} (h : Held m w (.slice (some ⟨g, 0, none⟩) n c)) (hk : k < n) (_hn : n ≤ 1048576) (_hnc : n ≤ c) (_hcm : c ≤ 9223372036854775807) (hc : w.cell? ⟨g, k, none⟩ = some (.int .i32 y)) {z : Value} (hp : w.cell? ⟨p, 0, none⟩ = some z) (hf : w.frozen? ⟨p, 0, none⟩ = false) (hb : Below p w0 w) :
    Calls Tryz.prog 86 #[m, .int .i32 (k : Int), .func (.func 87) #[] #[.pointer (some ⟨p, 0, none⟩)]] w fun e w' => e = .returned (.bool true) ∧ w'.cell? ⟨p, 0, none⟩ = some (.int .i32 y) ∧ Below p w0 w' := by
  have HH := Lib.hid h
  have HT := Lib.hid (ramTell_is hc hp hf hb)
  clear h hp hf hb
  go_enter Tryz.func86, Tryz.ntmps86
  go_wp2_with (first
    | (go_at_call 94; ((with_reducible refine (HH.out.now).mono ?_); rintro e w1 ⟨rfl, rfl⟩))
    | (go_at_call 87; ((with_reducible refine HT.out.mono ?_); rintro e w2 ⟨rfl, hq, hb2⟩); have HQ := Lib.hid hq; have HB2 := Lib.hid hb2; clear hq hb2))
  go_ret
  exact ⟨rfl, HQ.out, HB2.out⟩
theorem ramAt_turn {m : Value} {g n c k p : Nat} {u : Int} {w : World} (h : Held m w (.slice (some ⟨g, 0, none⟩) n c)) (hk : k < n) (_hn : n ≤ 1048576) (_hnc : n ≤ c) (_hcm : c ≤ 9223372036854775807) {z : Value} (hc : w.cell? ⟨g, k, none⟩ = some z) (hf : w.frozen? ⟨g, k, none⟩ = false) (hp : w.cell? ⟨p, 0, none⟩ = some (.int .i32 u)) :
    Calls Tryz.prog 86 #[m, .int .i32 (k : Int), .func (.func 88) #[] #[.pointer (some ⟨p, 0, none⟩)]] w fun e w' => e = .returned (.bool true) ∧ w.setCell ⟨g, k, none⟩ (.int .i32 u) = w' := by
  have HH := Lib.hid h
  have HT := Lib.hid (ramTurn_is hc hf hp)
  clear h hp hf
  go_enter Tryz.func86, Tryz.ntmps86
  go_wp2_with (first
    | (go_at_call 94; ((with_reducible refine (HH.out.now).mono ?_); rintro e w1 ⟨rfl, rfl⟩))
    | (go_at_call 88; ((with_reducible refine HT.out.mono ?_); rintro e w2 ⟨rfl, rfl⟩)))
  go_ret
  exact ⟨rfl, rfl⟩

theorem ramLoad_out {m : Value} {a : Option Addr} {n c : Nat} {x : Int} {w : World} (h : Held m w (.slice a n c)) (hx : -2147483648 ≤ x ∧ x ≤ 2147483647) (hin : ¬ (0 ≤ x ∧ x < n)) (hn : n ≤ 1048576) :
    Calls Tryz.prog 80 #[m, .int .i32 x] w fun e w' => e = .returned (.tuple #[.int .i32 0, .bool false]) ∧ Below w.heap.size w w' := by
  have HA := Lib.hid (fun o => (Below.refl w.heap.size w).alloc (Nat.le_refl _) o)
  have HH := Lib.hid (fun f o => ramAt_out (f := f) (h.keep (HA.out o)) hx hin hn)
  clear h hx hin hn
  go_enter Tryz.func80, Tryz.ntmps80
  go_wp2_with (go_at_call 86; ((with_reducible refine (HH.out _ _).mono ?_); rintro e w1 ⟨rfl, rfl⟩))
  go_ret2
  exact ⟨rfl, HA.out _⟩
theorem ramStore_out {m : Value} {a : Option Addr} {n c : Nat} {x u : Int} {w : World} (h : Held m w (.slice a n c)) (hx : -2147483648 ≤ x ∧ x ≤ 2147483647) (hin : ¬ (0 ≤ x ∧ x < n)) (hn : n ≤ 1048576) :
    Calls Tryz.prog 81 #[m, .int .i32 x, .int .i32 u] w fun e w' => e = .returned (.bool false) ∧ Below w.heap.size w w' := by
  have HA := Lib.hid (fun o => (Below.refl w.heap.size w).alloc (Nat.le_refl _) o)
  have HH := Lib.hid (fun f o => ramAt_out (f := f) (h.keep (HA.out o)) hx hin hn)
  clear h hx hin hn
  go_enter Tryz.func81, Tryz.ntmps81
  go_wp2_with (go_at_call 86; ((with_reducible refine (HH.out _ _).mono ?_); rintro e w1 ⟨rfl, rfl⟩))
  go_ret
  exact ⟨rfl, HA.out _⟩

theorem ramNew_long (a : Option Addr) (n c : Nat) (w : World) (h : 2048 < n) :
    Calls Tryz.prog 26 #[.slice a n c] w fun e w' => e = .returned (.tuple #[.pointer none, .int .i64 5]) ∧ Below w.heap.size w w' := by
  have h' : (2048 : Int) < n := by omega
  go_enter Tryz.func26, Tryz.ntmps26
  go_wp2
  go_ret2
  exact ⟨rfl, Below.refl _ _⟩
theorem ramNew_is (a : Option Addr) (n c : Nat) (l : List Int) (w : World) (h : Ws .i32 w a n c l) (hn : n ≤ 2048) :
    Calls Tryz.prog 26 #[.slice a n c] w fun e w' => ∃ b v, e = .returned (.tuple #[.pointer (some ⟨b, 0, none⟩), .int .i64 0]) ∧ RamAt 102 21 w' w.heap.size b v l ∧ Below w.heap.size w w' := by
  have hn' : ¬ (2048 : Int) < n := by omega
  have HW := Lib.hid h
  have HN := Lib.hid (show n ≤ 1048576 by omega)
  clear h
  go_enter Tryz.func26, Tryz.ntmps26
  go_wp2_with (go_at_call 45; ((with_reducible refine (sliceClone_is a n c l _ HW.out HN.out).mono ?_); rintro e w1 ⟨v, rfl, ho, hb⟩); obtain ⟨a2, c2, rfl, hws⟩ := ho.ws; have HO := Lib.hid ho; have HB := Lib.hid hb; clear ho hb hws)
  go_ret2
  refine ⟨_, _, rfl, ⟨BlkAt.new w1 _ _, own_keep HO.out ((Below.refl _ _).alloc (Nat.le_refl _) _), HB.out.size, fun e => ?_⟩, HB.out.alloc HB.out.size _⟩
  have := (HO.out.lt _ e).2
  omega
set_option maxHeartbeats 1000000 in
theorem ramLoad_is {base b : Nat} {v : Value} {L : List Int} {w : World} (x : Int) (h : RamAt 102 21 w base b v L) (hL : L.length ≤ 1048576) (hx : -2147483648 ≤ x ∧ x ≤ 2147483647) :
    Calls Tryz.prog 80 #[.pointer (some ⟨b, 0, none⟩), .int .i32 x] w fun e w' => e = .returned (.tuple #[.int .i32 (ldV L x), .bool (ldB L x)]) ∧ Below w.heap.size w w' := by
  by_cases hin : 0 ≤ x ∧ x < L.length
  · obtain ⟨k, rfl⟩ : ∃ k : Nat, x = k := ⟨x.toNat, by omega⟩
    have hk : k < L.length := by omega
    obtain ⟨g, cap, rfl, hg1, hg2, hg3, hg4⟩ := h.own.form rfl (by omega)
    have hcl := h.own.cell rfl hk
    obtain ⟨e1, e2, -⟩ := ld_in hk
    rw [e1, e2]
    unfold maxLen at hg4
    have HA := Lib.hid ((Below.refl w.heap.size w).alloc (Nat.le_refl _) (.cells #[.int .i32 0] 21))
    have hbx := Boxed.new w 21 (.int .i32 0)
    have HT := Lib.hid (ramAt_tell ((held_is h).keep HA.out) hk hL hg3 (by omega) ((HA.out.cell (p := ⟨g, _, none⟩) hg2).trans hcl) hbx.cell (BlkAt.free hbx 0) HA.out)
    generalize byAt L k = y at *
    clear h e1 e2 hin hx hbx hcl
    go_enter Tryz.func80, Tryz.ntmps80
    go_wp2_with (go_at_call 86; ((with_reducible refine HT.out.mono ?_); rintro e w1 ⟨rfl, hq, hb⟩); have HB := Lib.hid hb; clear hb)
    go_ret2
    exact ⟨rfl, HB.out⟩
  · obtain ⟨a2, c2, rfl, -⟩ := h.own.ws
    obtain ⟨e1, e2, -⟩ := ld_out hin
    rw [e1, e2]
    exact ramLoad_out (held_is h) hx hin hL
theorem grown_set (w : World) (g k : Nat) (u : Value) : w.grownBy (w.setCell ⟨g, k, none⟩ u) (some g) :=
  ⟨rfl, rfl, rfl, by simp [World.setCell], fun j _ hne => Below.heap_setCell _ _ _ _ (fun e => hne (by rw [e]))⟩
theorem grown_next {w w' w'' : World} {r : Option Nat} (h : w.grownBy w' r) (h' : w'.grownBy w'' r) : w.grownBy w'' r :=
  ⟨h'.os.trans h.os, h'.tape.trans h.tape, h'.output.trans h.output, Nat.le_trans h.size h'.size, fun j hj hne => (h'.block j (Nat.lt_of_lt_of_le hj h.size) hne).trans (h.block j hj hne)⟩
theorem RamAt.put {T e : TypeId} {w : World} {base b g cap : Nat} {L : List Int} (h : RamAt T e w base b (.slice (some ⟨g, 0, none⟩) L.length cap) L) (k : Nat) (u : Int) :
    RamAt T e (w.setCell ⟨g, k, none⟩ (.int .i32 u)) base b (.slice (some ⟨g, 0, none⟩) L.length cap) (L.set k u) := by
  refine ⟨?_, h.own.set rfl k u, h.ge, h.ne⟩
  unfold BlkAt
  rw [Below.heap_setCell _ _ _ _ (fun e => h.ne (by rw [e]; rfl))]
  exact h.blk
set_option maxHeartbeats 1000000 in
theorem ramStore_is {base b : Nat} {v : Value} {L : List Int} {w : World} (x u : Int) (h : RamAt 102 21 w base b v L) (hL : L.length ≤ 1048576) (hx : -2147483648 ≤ x ∧ x ≤ 2147483647) :
    Calls Tryz.prog 81 #[.pointer (some ⟨b, 0, none⟩), .int .i32 x, .int .i32 u] w fun e w' => e = .returned (.bool (ldB L x)) ∧ RamAt 102 21 w' base b v (stL L x u) ∧ w.grownBy w' v.ownBlock := by
  by_cases hin : 0 ≤ x ∧ x < L.length
  · obtain ⟨k, rfl⟩ : ∃ k : Nat, x = k := ⟨x.toNat, by omega⟩
    have hk : k < L.length := by omega
    obtain ⟨g, cap, rfl, hg1, hg2, hg3, hg4⟩ := h.own.form rfl (by omega)
    have hcl := h.own.cell rfl hk
    obtain ⟨e1, -, e3⟩ := ld_in hk
    rw [e1, e3]
    unfold maxLen at hg4
    have HA := Lib.hid ((Below.refl w.heap.size w).alloc (Nat.le_refl _) (.cells #[.int .i32 u] 21))
    have HR := Lib.hid (h.keep HA.out)
    have hbx := Boxed.new w 21 (.int .i32 u)
    have HT := Lib.hid (ramAt_turn ((held_is h).keep HA.out) hk hL hg3 (by omega) ((HA.out.cell (p := ⟨g, _, none⟩) hg2).trans hcl) (HR.out.own.free rfl k) hbx.cell)
    have HR0 := Lib.hid h
    clear h e1 e3 hin hx hbx hcl
    go_enter Tryz.func81, Tryz.ntmps81
    go_wp2_with (go_at_call 86; ((with_reducible refine HT.out.mono ?_); rintro e w1 ⟨rfl, rfl⟩))
    go_ret
    exact ⟨rfl, (HR0.out.put k u).keep ((Below.refl _ _).alloc (Nat.le_refl _) _), grown_next (grown_set w g k _) (World.grownBy_alloc _ _ _)⟩
  · have hh := held_is h
    obtain ⟨a2, c2, rfl, -⟩ := h.own.ws
    obtain ⟨e1, -, e3⟩ := ld_out hin
    rw [e1, e3]
    have HR := Lib.hid h
    have HA := Lib.hid (fun o => (Below.refl w.heap.size w).alloc (Nat.le_refl _) o)
    have HH := Lib.hid (fun f o => ramAt_out (f := f) (hh.keep (HA.out o)) hx hin hL)
    clear h e1 e3 hin hx hh
    go_enter Tryz.func81, Tryz.ntmps81
    go_wp2_with (go_at_call 86; ((with_reducible refine (HH.out _ _).mono ?_); rintro e w1 ⟨rfl, rfl⟩))
    go_ret
    exact ⟨rfl, HR.out.keep (HA.out _), World.grownBy_alloc w _ _⟩
end Go.Proofs.YtgmphfagflhglaaGreatDoor
