/- Package graph: ways that walks go; Ahead, Reached; Loop; Cyclic. Conditions: words lie in memory; no more than 60. -/
import Derived.Test.YtggiaopdgijgnaaGreatDoorGraH
import Derived.Test.YtggiaopdgijgnaaGreatDoorGraP
import Derived.Test.YtggiaopdgijgnaaGreatDoorFree
namespace Go.Proofs.YtggiaopdgijgnaaGreatDoor
open Go.RowKit

open Go.RowKit Go.IntWalk

/-- Ways in memory that walks may go. -/
structure WayN (w : World) (a : Option Addr) (m c : Nat) (a' : Option Addr) (c' n : Nat) (N : Nat → List Nat) : Prop where
  ex : ∃ L, WayG w a m c a' (n + 1) c' L ∧ L.length = n ∧ ∀ p, p < n → el L p = (N p).map Int.ofNat
  ins : ∀ p q, q ∈ N p → q < n
  few : ∀ p, (N p).length ≤ 200
  lt : ∀ b off, a = some ⟨b, off, none⟩ → b < w.heap.size
/-- Where each place leads. -/
def nxN (l : List Int) (p : Nat) : List Nat := if p < l.length then (nxl l p).map Int.toNat else []
theorem nxN_back {l : List Int} {p : Nat} (h : p < l.length) : (nxN l p).map Int.ofNat = nxl l p := by
  unfold nxN
  rw [if_pos h, List.map_map]
  conv => rhs; rw [← List.map_id (nxl l p)]
  apply List.map_congr_left
  intro q hq
  have := nxl_in hq
  simp only [Function.comp, id]
  show ((q.toNat : Nat) : Int) = q
  omega
theorem nxN_in {l : List Int} {p q : Nat} (h : q ∈ nxN l p) : q < l.length := by
  unfold nxN at h
  split at h
  · obtain ⟨x, hx, rfl⟩ := List.mem_map.1 h
    have := nxl_in hx
    omega
  · cases h
theorem nxN_mem {l : List Int} {p q : Nat} : q ∈ nxN l p ↔ p < l.length ∧ (q : Int) ∈ nxl l p := by
  constructor
  · intro h
    unfold nxN at h
    split at h
    · rename_i hp
      obtain ⟨x, hx, rfl⟩ := List.mem_map.1 h
      have := nxl_in hx
      exact ⟨hp, by rw [Int.toNat_of_nonneg this.1]; exact hx⟩
    · cases h
  · rintro ⟨hp, h⟩
    unfold nxN
    rw [if_pos hp]
    exact List.mem_map.2 ⟨_, h, by simp⟩
theorem wayL_el (l : List Int) {n p : Nat} (h : p < n) : el (wayL l n) p = nxl l p := by
  unfold el wayL
  rw [List.getD_eq_getElem?_getD, List.getElem?_map, List.getElem?_range h]
  rfl
theorem WaysV.ways {w : World} {v : Value} {l : List Int} (h : WaysV w v (wayL l l.length)) : ∃ a m c a' c', v = .agg #[.slice a m c, .slice a' (l.length + 1) c'] ∧ WaysAt w a m c a' (l.length + 1) c' (wayL l l.length) ∧ WayN w a m c a' c' l.length (nxN l) := by
  obtain ⟨a, m, c, a', n1, c', rfl, hw, hlt⟩ := h
  have hn := hw.len
  rw [wayL_len] at hn
  subst hn
  refine ⟨a, m, c, a', c', rfl, hw, ⟨_, hw.g, wayL_len _ _, fun p hp => ?_⟩, fun p q h => nxN_in h, fun p => ?_, hlt⟩
  · rw [wayL_el l hp, nxN_back hp]
  · unfold nxN
    split
    · have := nxl_len l p
      rw [List.length_map]; omega
    · simp
/-- What a walk comes to that asks always the same. -/
def PureT (mv : Nat → Bool) (N : Nat → List Nat) (l : List Nat) (T : Gra.Tr) : Prop :=
  T.st = [] ∧ Gra.GoT (σ := Unit) (fun _ p => mv p) (fun _ _ => ()) N ((), Gra.startT (Gra.waitS (σ := Unit) (fun _ p => mv p) (fun _ _ => ()) (fun _ => false) (-1) l () []).2) ((), T)
def beginN (n : Nat) : List Nat := List.replicate (min n 1) 0
theorem beginN_is (n : Nat) : beginL n = (beginN n).map Int.ofNat := by simp [beginL, beginN]
theorem TripV.keep {w w' : World} {base n : Nat} {v : Value} {T : Gra.Tr} (h : TripV w base n v T) (k : Below w.heap.size w w') : TripV w' base n v T := by
  obtain ⟨bc, bf, bo, ov, e, h1, h2, h3, h4⟩ := h
  exact ⟨bc, bf, bo, ov, e, h1.keep k, h2.keep k, h3.keep k, h4⟩
theorem TripV.mono {w : World} {base base' n : Nat} {v : Value} {T : Gra.Tr} (h : TripV w base n v T) (k : base' ≤ base) : TripV w base' n v T := by
  obtain ⟨bc, bf, bo, ov, e, h1, h2, h3, h4, h5, h6, h7⟩ := h
  exact ⟨bc, bf, bo, ov, e, h1, h2, h3, by omega, by omega, h6, by omega⟩
theorem TripV.kept {F : Nat → Prop} {w w' : World} {base n : Nat} {v : Value} {T : Gra.Tr} (h : TripV w base n v T) (k : Keeps F w w') (hF : ∀ j, F j → j < base) : TripV w' base n v T := by
  obtain ⟨bc, bf, bo, ov, e, h1, h2, h3, h4, h5, h6, h7⟩ := h
  exact ⟨bc, bf, bo, ov, e, h1.kept k fun q => by have := hF _ q; omega, h2.kept k fun j e q => by have := (h2.lt j e).1; have := hF _ q; omega, h3.kept k fun q => by have := hF _ q; omega, h4, h5, h6, h7⟩
/-- What is asked of each place to which a way leads, when all may be come to. -/
theorem mayAll (n B : Nat) : MayAt 43 #[] n B (fun _ => False) (fun (_ : Unit) _ => True) (fun _ _ => true) (fun _ _ => ()) where
  ask s w p hp _ := by
    show Calls Tryz.prog 43 #[.int .i32 p] w _
    go_enter Tryz.func43, Tryz.ntmps43
    go_wp2
    go_ret
    exact ⟨rfl, trivial, Keeps.refl _ _⟩
  keep _ _ _ _ _ := trivial
  lt _ h := h.elim
  cf _ _ := by kernel_rfl
theorem mayPast {n B bx : Nat} {q : Int} (hn : n ≤ 60) (hb : bx < B) : MayAt 46 #[.pointer (some ⟨bx, 0, none⟩)] n B (fun _ => False) (fun (_ : Unit) w => BlkAt bx 3 #[.int .i64 q] w) (fun _ p => decide ((p : Int) ≠ q)) (fun _ _ => ()) where
  ask s w p hp h := by
    show Calls Tryz.prog 46 #[.int .i32 p, .pointer (some ⟨bx, 0, none⟩)] w _
    have c0 := h.cell 0
    have hw : IntKind.i64.wrap (p : Int) = (p : Int) := IntWalk.i64_in _ (by omega)
    have H := Lib.hid h
    clear h
    go_enter Tryz.func46, Tryz.ntmps46
    go_wp2
    go_ret
    exact ⟨by by_cases h : (p : Int) = q <;> simp [h], H.out, Keeps.refl _ _⟩
  keep _ _ _ h k := (k.block bx hb).trans h
  lt _ h := h.elim
  cf _ _ := by kernel_rfl
/-- A walk's trip, its parts told. -/
theorem TripV.form {w : World} {base n : Nat} {v : Value} {T : Gra.Tr} (h : TripV w base n v T) : ∃ bc bf ao co, v = .agg #[.slice (some ⟨bc, 0, none⟩) (szS n) (szS n), .slice ao T.ord.length co, .slice (some ⟨bf, 0, none⟩) n n] := by
  obtain ⟨bc, bf, bo, ov, rfl, -, h2, -⟩ := h
  obtain ⟨ao, co, rfl, -⟩ := h2.wsn (m := T.ord.length) (by simp)
  exact ⟨bc, bf, ao, co, rfl⟩
set_option maxRecDepth 100000 in
set_option maxHeartbeats 4000000 in
theorem graAll_is {w0 w : World} {a : Option Addr} {m c : Nat} {a' : Option Addr} {c' n : Nat} {N : Nat → List Nat} (hW : WayN w0 a m c a' c' n N) (hold : Below w0.heap.size w0 w) (hn : n ≤ 60) :
    Calls Tryz.prog 22 #[.agg #[.slice a m c, .slice a' (n + 1) c']] w fun e w' => ∃ v T, e = .returned v ∧ TripV w' w.heap.size n v T ∧ PureT (fun _ => true) N (beginN n) T ∧ Below w.heap.size w w' := by
  have HW := Lib.hid hW
  have HOLD := Lib.hid hold
  clear hW hold
  go_enter Tryz.func22, Tryz.ntmps22
  go_upto_region 1 with (fail)
  obtain ⟨W0, hW0⟩ : ∃ W0, (w.alloc (.cells #[.slice a m c, .slice a' (n + 1) c'] 60)).alloc (.cells #[.slice none 0 0, .slice none 0 0, .slice none 0 0] 58) = W0 := ⟨_, rfl⟩
  rw [hW0]
  have HX := Lib.hid (show BlkAt w.heap.size 60 #[.slice a m c, .slice a' (n + 1) c'] W0 from hW0 ▸ (BlkAt.new w _ _).al _)
  have HR0 := Lib.hid (show BlkAt (w.heap.size + 1) 58 #[.slice none 0 0, .slice none 0 0, .slice none 0 0] W0 from hW0 ▸ BlkAt.newb _ _ _ (by simp))
  have HB0 := Lib.hid (show Below w.heap.size w W0 from hW0 ▸ ((Below.refl _ _).alloc (Nat.le_refl _) _).alloc (by simp) _)
  clear hW0
  refine wp_region_free (fun _ => True) [(0, 0, 4, 2), (1, 0, 5, 2), (2, 2, 6, 16), (3, 5, 7, 40), (4, 15, 0, 68)] 4 [(0, 3), (1, 4), (2, 5), (3, 6)] [(0, []), (1, []), (2, [(1, 4)]), (3, [(0, 3), (2, 5)])] [(false, 4, 31)] []
    (fun i v w' => match i with
      | 0 => v = .agg #[.slice a m c, .slice a' (n + 1) c']
      | 1 => v = .agg #[.slice a m c, .slice a' (n + 1) c']
      | 2 => ∃ g k, v = .slice (some ⟨g, 0, none⟩) k k ∧ Ws .i32 w' (some ⟨g, 0, none⟩) k k (beginL n) ∧ g < w'.heap.size
      | 3 => ∃ T, TripV w' W0.heap.size n v T ∧ PureT (fun _ => true) N (beginN n) T
      | _ => True) (by kernel_rfl) (by kernel_rfl) (by kernel_rfl) (by kernel_rfl) (by kernel_rfl) (fun _ _ => trivial) ?_ ?_ ?_
  · intro i v w1 w2 h hb
    match i, h with
    | 0, h | 1, h => exact h
    | 2, ⟨g, k, e, h, h'⟩ => exact ⟨g, k, e, h.keep hb, Nat.lt_of_lt_of_le h' hb.size⟩
    | 3, ⟨T, h, h'⟩ => exact ⟨T, h.keep hb, h'⟩
    | _ + 4, _ => trivial
  · refine ⟨?_, ?_, ?_, ?_, trivial⟩
    · intro o ho vals w1 hb hd hne
      cases ho
      have g0 := (BlkAt.keep (w := W0.drew) HX.out hb).cell 0
      have g1 := (BlkAt.keep (w := W0.drew) HX.out hb).cell 1
      exact .val (v := .agg #[.slice a m c, .slice a' (n + 1) c']) (w' := w1) (by simp [frA, execOp, Act.eval, go_sem, g0, g1]) ⟨rfl, Below.refl _ _, fun q => by simp at q⟩
    · intro o ho vals w1 hb hd hne
      cases ho
      have g0 := (BlkAt.keep (w := W0.drew) HX.out hb).cell 0
      have g1 := (BlkAt.keep (w := W0.drew) HX.out hb).cell 1
      exact .val (v := .agg #[.slice a m c, .slice a' (n + 1) c']) (w' := w1) (by simp [frA, execOp, Act.eval, go_sem, g0, g1]) ⟨rfl, Below.refl _ _, fun q => by simp at q⟩
    · intro o ho vals w1 hb hd hne
      cases ho
      have e0 : vals 1 = _ := hd (1, 4) (.head _)
      refine .call (f := 26) (vs := #[.agg #[.slice a m c, .slice a' (n + 1) c']]) (by simp [frA, execOp, Act.put, Act.eval, go_sem, e0]) ((graBegin_is (w := w1) (n := n) _ _ _ (by omega)).mono ?_)
      rintro e w' ⟨g, k, rfl, h1, h2, h3, hq⟩
      exact ⟨_, rfl, ⟨g, k, rfl, h1, h3⟩, hq, fun q => by simp at q⟩
    · intro o ho vals w1 hb hd hne
      cases ho
      have e0 : vals 0 = _ := hd (0, 3) (.head _)
      obtain ⟨g, k, e2, h2, h3⟩ := hd (2, 5) (.tail _ (.head _))
      simp only at e2
      have hbw : Below w.heap.size w w1 := HB0.out.trans (((Below.refl W0.heap.size W0).drew.trans hb).mono HB0.out.size)
      rw [beginN_is] at h2
      obtain ⟨L, hL1, hL2, hL3⟩ := HW.out.ex
      refine .call (f := 28) (vs := #[.agg #[.slice a m c, .slice a' (n + 1) c'], .slice (some ⟨g, 0, none⟩) k k, .func (.func 43) #[] #[]]) (by simp [frA, execOp, Act.put, Act.eval, go_sem, e0, e2])
        ((graWalk_is (w := w1) (mayAll n _) hL1 (HOLD.out.trans (hbw.mono HOLD.out.size)) hL2 hL3 HW.out.ins HW.out.few hn (fun _ h => h.elim) HW.out.lt h2 (fun b' off q => ⟨id, by
          simp only [Option.some.injEq, Addr.mk.injEq] at q
          rw [← q.1]; exact h3⟩) (fun x hx => by
            unfold beginN at hx
            have h9 := List.eq_of_mem_replicate hx
            have h8 : (List.replicate (min n 1) 0).length ≠ 0 := fun e => by
              rw [List.eq_nil_of_length_eq_zero e] at hx; cases hx
            rw [List.length_replicate] at h8
            omega) (by unfold beginN; rw [List.length_replicate]; omega) (s := ()) trivial).mono ?_)
      rintro e w' ⟨v, s', T, rfl, h4, h5, h6, -, h7⟩
      have hq := h7.nought
      exact ⟨_, rfl, ⟨T, h4.mono (show W0.heap.size ≤ w1.heap.size from hb.size), h5, h6⟩, hq, fun q => by simp at q⟩
  · intro vals a1 w1 hI
    have e := hI.frame (by kernel_rfl) (by kernel_rfl)
    subst e
    have e0 : vals 0 = _ := hI.psi 0 (by omega) (by decide)
    have e1 : vals 1 = _ := hI.psi 1 (by omega) (by decide)
    obtain ⟨T, h1, h2⟩ := hI.psi 3 (by omega) (by decide)
    obtain ⟨bc, bf, ao, co, e3⟩ := h1.form
    have HI := Lib.hid hI
    generalize vals 2 = v2 at *
    have hr := BlkAt.keep (w := W0.drew) HR0.out hI.below
    have f0 := hr.free 0
    have f1 := hr.free 1
    have f2 := hr.free 2
    have y0 := hr.cell 0
    have y1 := hr.cell 1
    have y2 := hr.cell 2
    have HT := Lib.hid (And.intro h1 h2)
    clear h1 h2 hI
    refine SeqH.step rfl rfl fun K hK => ?_
    simp only [frA, List.foldl, e0, e1, e3]
    go_simp
    refine hK _ _ trivial (SeqH.done (NoPanic.normal ?_))
    go_wp2_with fail
    refine bodyPost_ret (v := .agg #[.slice (some ⟨bc, 0, none⟩) (szS n) (szS n), .slice ao T.ord.length co, .slice (some ⟨bf, 0, none⟩) n n]) (by simp [results, Tryz.results22, go_sem, y0, y1, y2]) rfl ?_
    have hb1 : Below W0.heap.size W0 w1 := (Below.refl _ _).drew.trans HI.out.below
    have kx : Keeps (fun j => j = w.heap.size + 1) w1 (((w1.setCell ⟨w.heap.size + 1, 0, none⟩ (.slice (some ⟨bc, 0, none⟩) (szS n) (szS n))).setCell ⟨w.heap.size + 1, 1, none⟩ (.slice ao T.ord.length co)).setCell ⟨w.heap.size + 1, 2, none⟩ (.slice (some ⟨bf, 0, none⟩) n n)) := ((Keeps.set1 _ _ _ _).trans (Keeps.set1 _ _ _ _)).trans (Keeps.set1 _ _ _ _)
    have hlt := HR0.out.lt
    exact ⟨_, T, rfl, (e3 ▸ HT.out.1.kept kx fun j e => by omega).mono (by omega), HT.out.2, kx.below (HB0.out.trans (hb1.mono HB0.out.size)) (Nat.le_trans HB0.out.size hb1.size) fun j e => by omega⟩
set_option maxRecDepth 100000 in
set_option maxHeartbeats 4000000 in
theorem graPast_is {q : Int} {w0 w : World} {a : Option Addr} {m c : Nat} {a' : Option Addr} {c' n : Nat} {N : Nat → List Nat} (hW : WayN w0 a m c a' c' n N) (hold : Below w0.heap.size w0 w) (hn : n ≤ 60) :
    Calls Tryz.prog 25 #[.agg #[.slice a m c, .slice a' (n + 1) c'], .int .i64 q] w fun e w' => ∃ v T, e = .returned v ∧ TripV w' w.heap.size n v T ∧ PureT (fun p => decide ((p : Int) ≠ q)) N (beginN n) T ∧ Below w.heap.size w w' := by
  have HW := Lib.hid hW
  have HOLD := Lib.hid hold
  clear hW hold
  go_enter Tryz.func25, Tryz.ntmps25
  go_upto_region 1 with (fail)
  obtain ⟨W0, hW0⟩ : ∃ W0, ((w.alloc (.cells #[.slice a m c, .slice a' (n + 1) c'] 60)).alloc (.cells #[.int .i64 q] 3)).alloc (.cells #[.slice none 0 0, .slice none 0 0, .slice none 0 0] 58) = W0 := ⟨_, rfl⟩
  rw [hW0]
  have HX := Lib.hid (show BlkAt w.heap.size 60 #[.slice a m c, .slice a' (n + 1) c'] W0 from hW0 ▸ ((BlkAt.new w _ _).al _).al _)
  have HQ0 := Lib.hid (show BlkAt (w.heap.size + 1) 3 #[.int .i64 q] W0 from hW0 ▸ (BlkAt.newb _ _ _ (by simp)).al _)
  have HR0 := Lib.hid (show BlkAt (w.heap.size + 1 + 1) 58 #[.slice none 0 0, .slice none 0 0, .slice none 0 0] W0 from hW0 ▸ BlkAt.newb _ _ _ (by simp))
  have HB0 := Lib.hid (show Below w.heap.size w W0 from hW0 ▸ (((Below.refl _ _).alloc (Nat.le_refl _) _).alloc (by simp) _).alloc (by simp; omega) _)
  clear hW0
  refine wp_region_free (fun _ => True) [(0, 0, 6, 4), (1, 0, 7, 4), (2, 2, 8, 64), (3, 0, 9, 8), (4, 13, 10, 416), (5, 31, 0, 528)] 5 [(0, 5), (1, 6), (2, 7), (3, 8), (4, 9)] [(0, []), (1, []), (2, [(1, 6)]), (3, []), (4, [(0, 5), (2, 7), (3, 8)])] [(false, 5, 63)] []
    (fun i v w' => match i with
      | 0 => v = .agg #[.slice a m c, .slice a' (n + 1) c']
      | 1 => v = .agg #[.slice a m c, .slice a' (n + 1) c']
      | 2 => ∃ g k, v = .slice (some ⟨g, 0, none⟩) k k ∧ Ws .i32 w' (some ⟨g, 0, none⟩) k k (beginL n) ∧ g < w'.heap.size
      | 3 => v = .func (.func 46) #[] #[.pointer (some ⟨w.heap.size + 1, 0, none⟩)]
      | 4 => ∃ T, TripV w' W0.heap.size n v T ∧ PureT (fun p => decide ((p : Int) ≠ q)) N (beginN n) T
      | _ => True) (by kernel_rfl) (by kernel_rfl) (by kernel_rfl) (by kernel_rfl) (by kernel_rfl) (fun _ _ => trivial) ?_ ?_ ?_
  · intro i v w1 w2 h hb
    match i, h with
    | 0, h | 1, h | 3, h => exact h
    | 2, ⟨g, k, e, h, h'⟩ => exact ⟨g, k, e, h.keep hb, Nat.lt_of_lt_of_le h' hb.size⟩
    | 4, ⟨T, h, h'⟩ => exact ⟨T, h.keep hb, h'⟩
    | _ + 5, _ => trivial
  · refine ⟨?_, ?_, ?_, ?_, ?_, trivial⟩
    · intro o ho vals w1 hb hd hne
      cases ho
      have g0 := (BlkAt.keep (w := W0.drew) HX.out hb).cell 0
      have g1 := (BlkAt.keep (w := W0.drew) HX.out hb).cell 1
      exact .val (v := .agg #[.slice a m c, .slice a' (n + 1) c']) (w' := w1) (by simp [frA, execOp, Act.eval, go_sem, g0, g1]) ⟨rfl, Below.refl _ _, fun q => by simp at q⟩
    · intro o ho vals w1 hb hd hne
      cases ho
      have g0 := (BlkAt.keep (w := W0.drew) HX.out hb).cell 0
      have g1 := (BlkAt.keep (w := W0.drew) HX.out hb).cell 1
      exact .val (v := .agg #[.slice a m c, .slice a' (n + 1) c']) (w' := w1) (by simp [frA, execOp, Act.eval, go_sem, g0, g1]) ⟨rfl, Below.refl _ _, fun q => by simp at q⟩
    · intro o ho vals w1 hb hd hne
      cases ho
      have e0 : vals 1 = _ := hd (1, 6) (.head _)
      refine .call (f := 26) (vs := #[.agg #[.slice a m c, .slice a' (n + 1) c']]) (by simp [frA, execOp, Act.put, Act.eval, go_sem, e0]) ((graBegin_is (w := w1) (n := n) _ _ _ (by omega)).mono ?_)
      rintro e w' ⟨g, k, rfl, h1, h2, h3, hq⟩
      exact ⟨_, rfl, ⟨g, k, rfl, h1, h3⟩, hq, fun q => by simp at q⟩
    · intro o ho vals w1 hb hd hne
      cases ho
      exact .val (v := .func (.func 46) #[] #[.pointer (some ⟨w.heap.size + 1, 0, none⟩)]) (w' := w1) (by simp [frA, execOp, Act.eval, go_sem]) ⟨rfl, Below.refl _ _, fun q => by simp at q⟩
    · intro o ho vals w1 hb hd hne
      cases ho
      have e4 : vals 3 = _ := hd (3, 8) (.tail _ (.tail _ (.head _)))
      have e0 : vals 0 = _ := hd (0, 5) (.head _)
      obtain ⟨g, k, e2, h2, h3⟩ := hd (2, 7) (.tail _ (.head _))
      simp only at e2
      have hbw : Below w.heap.size w w1 := HB0.out.trans (((Below.refl W0.heap.size W0).drew.trans hb).mono HB0.out.size)
      rw [beginN_is] at h2
      obtain ⟨L, hL1, hL2, hL3⟩ := HW.out.ex
      refine .call (f := 28) (vs := #[.agg #[.slice a m c, .slice a' (n + 1) c'], .slice (some ⟨g, 0, none⟩) k k, .func (.func 46) #[] #[.pointer (some ⟨w.heap.size + 1, 0, none⟩)]]) (by simp [frA, execOp, Act.put, Act.eval, go_sem, e0, e2, e4])
        ((graWalk_is (w := w1) (mayPast (bx := w.heap.size + 1) (q := q) hn (Nat.lt_of_lt_of_le HQ0.out.lt hb.size)) hL1 (HOLD.out.trans (hbw.mono HOLD.out.size)) hL2 hL3 HW.out.ins HW.out.few hn (fun _ h => h.elim) HW.out.lt h2 (fun b' off q => ⟨id, by
          simp only [Option.some.injEq, Addr.mk.injEq] at q
          rw [← q.1]; exact h3⟩) (fun x hx => by
            unfold beginN at hx
            have h9 := List.eq_of_mem_replicate hx
            have h8 : (List.replicate (min n 1) 0).length ≠ 0 := fun e => by
              rw [List.eq_nil_of_length_eq_zero e] at hx; cases hx
            rw [List.length_replicate] at h8
            omega) (by unfold beginN; rw [List.length_replicate]; omega) (s := ()) (BlkAt.keep (w := W0.drew) HQ0.out hb)).mono ?_)
      rintro e w' ⟨v, s', T, rfl, h4, h5, h6, -, h7⟩
      have hq := h7.nought
      exact ⟨_, rfl, ⟨T, h4.mono (show W0.heap.size ≤ w1.heap.size from hb.size), h5, h6⟩, hq, fun q => by simp at q⟩
  · intro vals a1 w1 hI
    have e := hI.frame (by kernel_rfl) (by kernel_rfl)
    subst e
    have e0 : vals 0 = _ := hI.psi 0 (by omega) (by decide)
    have e1 : vals 1 = _ := hI.psi 1 (by omega) (by decide)
    have e3 : vals 3 = _ := hI.psi 3 (by omega) (by decide)
    obtain ⟨T, h1, h2⟩ := hI.psi 4 (by omega) (by decide)
    obtain ⟨bc, bf, ao, co, e4⟩ := h1.form
    have HI := Lib.hid hI
    generalize vals 2 = v2 at *
    have hr := BlkAt.keep (w := W0.drew) HR0.out hI.below
    have f0 := hr.free 0
    have f1 := hr.free 1
    have f2 := hr.free 2
    have y0 := hr.cell 0
    have y1 := hr.cell 1
    have y2 := hr.cell 2
    have HT := Lib.hid (And.intro h1 h2)
    clear h1 h2 hI
    refine SeqH.step rfl rfl fun K hK => ?_
    simp only [frA, List.foldl, e0, e1, e3, e4]
    go_simp
    refine hK _ _ trivial (SeqH.done (NoPanic.normal ?_))
    go_wp2_with fail
    refine bodyPost_ret (v := .agg #[.slice (some ⟨bc, 0, none⟩) (szS n) (szS n), .slice ao T.ord.length co, .slice (some ⟨bf, 0, none⟩) n n]) (by simp [results, Tryz.results25, go_sem, y0, y1, y2]) rfl ?_
    have hb1 : Below W0.heap.size W0 w1 := (Below.refl _ _).drew.trans HI.out.below
    have kx : Keeps (fun j => j = w.heap.size + 1 + 1) w1 (((w1.setCell ⟨w.heap.size + 1 + 1, 0, none⟩ (.slice (some ⟨bc, 0, none⟩) (szS n) (szS n))).setCell ⟨w.heap.size + 1 + 1, 1, none⟩ (.slice ao T.ord.length co)).setCell ⟨w.heap.size + 1 + 1, 2, none⟩ (.slice (some ⟨bf, 0, none⟩) n n)) := ((Keeps.set1 _ _ _ _).trans (Keeps.set1 _ _ _ _)).trans (Keeps.set1 _ _ _ _)
    have hlt := HR0.out.lt
    exact ⟨_, T, rfl, (e4 ▸ HT.out.1.kept kx fun j e => by omega).mono (by omega), HT.out.2, kx.below (HB0.out.trans (hb1.mono HB0.out.size)) (Nat.le_trans HB0.out.size hb1.size) fun j e => by omega⟩

open Go.RowKit Go.IntWalk

/-- Is a place come to? -/
noncomputable def cameB (N : Nat → List Nat) (mv : Nat → Bool) (l : List Nat) (x : Nat) : Bool := @decide (Gra.Came N mv l x) (Classical.propDecidable _)
theorem cameB_iff {N : Nat → List Nat} {mv : Nat → Bool} {l : List Nat} {x : Nat} : cameB N mv l x = true ↔ Gra.Came N mv l x := by
  unfold cameB
  exact ⟨fun h => @of_decide_eq_true _ (Classical.propDecidable _) h, fun h => @decide_eq_true _ (Classical.propDecidable _) h⟩
theorem PureT.came {mv : Nat → Bool} {N : Nat → List Nat} {l : List Nat} {T : Gra.Tr} (h : PureT mv N l T) : T.came = cameB N mv l := by
  have h1 := (Gra.GoP.came (mv := mv) (N := N) (l0 := l) h.2 h.1).1
  funext x
  rw [Bool.eq_iff_iff, h1 x, cameB_iff]
theorem trip_0 (x y z : Option Addr) (i j k l m n : Nat) : ∀ w : World, Sem.run Tryz.prog (Instr.field 58 (.agg #[.slice x i j, .slice y k l, .slice z m n]) 0) w = .ok (.slice x i j) w := fun _ => by kernel_rfl
theorem trip_1 (x y z : Option Addr) (i j k l m n : Nat) : ∀ w : World, Sem.run Tryz.prog (Instr.field 58 (.agg #[.slice x i j, .slice y k l, .slice z m n]) 1) w = .ok (.slice y k l) w := fun _ => by kernel_rfl
theorem trip_2 (x y z : Option Addr) (i j k l m n : Nat) : ∀ w : World, Sem.run Tryz.prog (Instr.field 58 (.agg #[.slice x i j, .slice y k l, .slice z m n]) 2) w = .ok (.slice z m n) w := fun _ => by kernel_rfl
/-- What Ahead answers. -/
noncomputable def aheadB (l : List Int) (x y : Int) : Bool :=
  hasB l.length (cameB (nxN l) (fun _ => true) (beginN l.length)) y && !hasB l.length (cameB (nxN l) (fun p => decide ((p : Int) ≠ x)) (beginN l.length)) y
set_option maxRecDepth 100000 in
set_option maxHeartbeats 1000000 in
theorem graAhead_is {l : List Int} {a : Option Addr} {c : Nat} {w : World} (x y : Int) (h : Ws .u32 w a l.length c l) (hn : l.length ≤ 60) (hs : ShapesLaid w) (hb : ∀ i, i < l.length → 0 ≤ byAt l i ∧ byAt l i < 4294967296) :
    Calls Tryz.prog 10 #[.slice a l.length c, .int .i64 x, .int .i64 y] w fun e w' => e = .returned (.bool (aheadB l x y)) ∧ Below w.heap.size w w' := by
  obtain ⟨v1, hv1⟩ : ∃ v, hasB l.length (cameB (nxN l) (fun _ => true) (beginN l.length)) y = v := ⟨_, rfl⟩
  have HRd := Lib.hid (graRead_is h hn hs hb)
  have HV1 := Lib.hid hv1
  have HN := Lib.hid hn
  clear h hs hb hv1 hn
  go_enter Tryz.func10, Tryz.ntmps10
  go_upto_region 2 with (go_at_call 21; ((with_reducible refine (HRd.out).mono ?_); rintro e w2 ⟨v, rfl, hv, hq⟩); obtain ⟨a1, m1, c1, a2, c2, rfl, -, hwn⟩ := hv.ways; have HWN := Lib.hid hwn; have HQ1 := Lib.hid hq; clear hwn hq hv HRd)
  obtain ⟨W2, hW2⟩ : ∃ W2, w2.alloc (.cells #[.slice a1 m1 c1, .slice a2 (l.length + 1) c2] 60) = W2 := ⟨_, rfl⟩
  have hx2 : BlkAt w2.heap.size 60 #[.slice a1 m1 c1, .slice a2 (l.length + 1) c2] W2 := hW2 ▸ BlkAt.new _ _ _
  have hb2 : Below w2.heap.size w2 W2 := hW2 ▸ (Below.refl _ _).alloc (Nat.le_refl _) _
  rw [hW2]
  clear hW2
  have HX2 := Lib.hid hx2
  have HB2 := Lib.hid hb2
  have c0 := hx2.cell 0
  have c1' := hx2.cell 1
  obtain ⟨b2, hb2n⟩ : ∃ b2, w2.heap.size = b2 := ⟨_, rfl⟩
  rw [hb2n] at c0 c1' ⊢
  have HB2n := Lib.hid hb2n
  clear hb2n hx2 hb2
  have hf0 := trip_0
  cases v1 with
  | false =>
    go_wp2_with (first
      | (go_at_call 22; ((with_reducible refine (graAll_is HWN.out HB2.out HN.out).mono ?_); rintro e w3 ⟨v, T, rfl, hv, ht, hq⟩); have HT := Lib.hid hv; have HP := Lib.hid ht.came; have HQ3 := Lib.hid hq; clear ht hq; obtain ⟨bc, bf, bo, ov, rfl, hset, hord, -⟩ := hv; obtain ⟨ao, co, rfl, -⟩ := hord.wsn (m := T.ord.length) (by simp); rw [HP.out] at hset; have HSET := Lib.hid hset; clear hset hord)
      | (go_at_call 23; ((with_reducible refine (graHas_is HSET.out HN.out y).mono ?_); rintro e w4 ⟨rfl, rfl⟩); rw [HV1.out]))
    go_ret
    unfold aheadB
    rw [HV1.out]
    exact ⟨rfl, (HQ1.out.trans (HB2.out.mono HQ1.out.size)).trans (HQ3.out.mono (Nat.le_trans HQ1.out.size HB2.out.size))⟩
  | true =>
    go_wp2_with (first
      | (go_at_call 22; ((with_reducible refine (graAll_is HWN.out HB2.out HN.out).mono ?_); rintro e w3 ⟨v, T, rfl, hv, ht, hq⟩); have HT := Lib.hid hv; have HP := Lib.hid ht.came; have HQ3 := Lib.hid hq; clear ht hq; obtain ⟨bc, bf, bo, ov, rfl, hset, hord, -⟩ := hv; obtain ⟨ao, co, rfl, -⟩ := hord.wsn (m := T.ord.length) (by simp); rw [HP.out] at hset; have HSET := Lib.hid hset; clear hset hord; have hxx := HX2.out.keep HQ3.out; rw [HB2n.out] at hxx; have c03 := hxx.cell 0; have c13 := hxx.cell 1; clear hxx)
      | (go_at_call 25; ((with_reducible refine (graPast_is HWN.out (HB2.out.trans (HQ3.out.mono HB2.out.size)) HN.out).mono ?_); rintro e w5 ⟨v, T', rfl, hv, ht, hq⟩); have HT' := Lib.hid hv; have HP' := Lib.hid ht.came; have HQ5 := Lib.hid hq; clear ht hq; obtain ⟨bc', bf', bo', ov', rfl, hset, hord, -⟩ := hv; obtain ⟨ao', co', rfl, -⟩ := hord.wsn (m := T'.ord.length) (by simp); rw [HP'.out] at hset; have HSET' := Lib.hid hset; clear hset hord)
      | (go_at_call 23; ((with_reducible refine (graHas_is HSET'.out HN.out y).mono ?_); rintro e w6 ⟨rfl, rfl⟩))
      | (go_at_call 23; ((with_reducible refine (graHas_is HSET.out HN.out y).mono ?_); rintro e w4 ⟨rfl, rfl⟩); rw [HV1.out]))
    go_ret
    unfold aheadB
    rw [HV1.out]
    have h5 := (HQ1.out.trans (HB2.out.mono HQ1.out.size)).trans (HQ3.out.mono (Nat.le_trans HQ1.out.size HB2.out.size))
    exact ⟨by simp, h5.trans (HQ5.out.mono h5.size)⟩
theorem infoBool : (Tryz.prog.info? 4).map (fun i => (i.zero, i.size, i.bytes)) = some (some (.bool false), 1, 1) := by kernel_rfl
theorem run_falses {P : Program} (t e : TypeId) (i : TypeInfo) (h1 : P.underlying t = some (.slice e)) (h2 : P.info? e = some i) (h3 : i.zero = some (.bool false)) (h4 : i.size = 1)
    (n : Nat) (b2 : i.bytes * n ≤ 281474976710656) (b3 : n ≤ maxLen) (w : World) :
    (Instr.makeSlice t (.int .i64 n) (.int .i64 n)).run P w = .ok (.slice (some ⟨w.heap.size, 0, none⟩) n n) (w.alloc (.cells (fnArr n fun _ => .bool false) e)) := by
  have b3' : (n : Int) ≤ 9223372036854775807 := by unfold maxLen at b3; omega
  have b2' : (i.bytes : Int) * (n : Int) ≤ 281474976710656 := by rw [← Int.natCast_mul]; omega
  have hrun := run_make (P := P) w t e i (.bool false) h1 h2 h3 .i64 .i64 n n (Int.natCast_nonneg _) (Int.le_refl _) b2' b3'
  simp only [Int.toNat_natCast, h4, Nat.mul_one] at hrun
  rw [show (Value.bool false).cells = #[.bool false] from rfl, made_fn (k := 1) (z := .bool false) rfl (fun j hj => by obtain rfl : j = 0 := (by omega); rfl) (by omega)] at hrun
  exact hrun
/-- n truths in a block. -/
def Brs (T : TypeId) (b n : Nat) (f : Nat → Bool) (w : World) : Prop := BlkAt b T (fnArr n fun i => .bool (f i)) w
set_option maxRecDepth 100000 in
set_option maxHeartbeats 1000000 in
theorem graReached_is {l : List Int} {a : Option Addr} {c : Nat} {w : World} (h : Ws .u32 w a l.length c l) (hn : l.length ≤ 60) (hs : ShapesLaid w) (hb : ∀ i, i < l.length → 0 ≤ byAt l i ∧ byAt l i < 4294967296) :
    Calls Tryz.prog 8 #[.slice a l.length c] w fun e w' => ∃ b, e = .returned (.slice (some ⟨b, 0, none⟩) l.length l.length) ∧ Brs 4 b l.length (cameB (nxN l) (fun _ => true) (beginN l.length)) w' ∧ w.heap.size ≤ b ∧ Below w.heap.size w w' := by
  obtain ⟨i0, hi, hz0, hz1, hz2⟩ := info_parts infoBool
  have hmk := run_falses (P := Tryz.prog) 28 4 i0 Tryz.underlying28 hi hz0 hz1 l.length (by rw [hz2]; omega) (by unfold maxLen; omega)
  have HRd := Lib.hid (graRead_is h hn hs hb)
  have HN := Lib.hid hn
  have hn' : (l.length : Int) ≤ 60 := by omega
  have hf0 := trip_0
  obtain ⟨F, hF⟩ : ∃ F, cameB (nxN l) (fun _ => true) (beginN l.length) = F := ⟨_, rfl⟩
  have HF := Lib.hid hF
  clear h hs hb hn hF
  go_enter Tryz.func8, Tryz.ntmps8
  go_wp2_with (first
    | (go_at_call 21; ((with_reducible refine (HRd.out).mono ?_); rintro e w2 ⟨v, rfl, hv, hq⟩); obtain ⟨a1, m1, c1, a2, c2, rfl, -, hwn⟩ := hv.ways; have HWN := Lib.hid hwn; have HQ1 := Lib.hid hq; clear hwn hq hv HRd)
    | (go_at_call 22; ((with_reducible refine (graAll_is HWN.out (Below.refl _ _) HN.out).mono ?_); rintro e w3 ⟨v, T, rfl, hv, ht, hq⟩); have HP := Lib.hid (ht.came.trans HF.out); have HQ3 := Lib.hid hq; clear ht hq; obtain ⟨bc, bf, bo, ov, rfl, hset, hord, -⟩ := hv; obtain ⟨ao, co, rfl, -⟩ := hord.wsn (m := T.ord.length) (by simp); rw [HP.out] at hset; have HSET := Lib.hid hset; clear hset hord))
  have HB3 := Lib.hid (HQ1.out.trans (HQ3.out.mono HQ1.out.size))
  clear hmk
  go_loopw [15] (fun i wr => ∃ k : Nat, k ≤ l.length ∧ i = .int .i64 k ∧ Brs 4 w3.heap.size l.length (fun i => decide (i < k) && F i) wr ∧ Keeps (fun j => j = w3.heap.size) w3 wr) (fun i _ => l.length - (intOf i).toNat)
  case atStart => exact ⟨0, by omega, rfl, (BlkAt.new w3 _ _).eq (fnArr_ext fun i _ => by simp), Keeps.of_below _ ((Below.refl _ _).alloc (Nat.le_refl _) _)⟩
  case round =>
    obtain ⟨k, hk, rfl, hA, hK⟩ := hrel
    have HA := Lib.hid hA
    have HK := Lib.hid hK
    by_cases hlt : k < l.length
    · have hlt' : (k : Int) < l.length := by omega
      have fr := hA.free k
      have ck := hA.cell k
      rw [fnArr_get _ hlt] at ck
      have hsk : SetAt bc l.length F wr := HSET.out.kept HK.out fun e => by
        obtain ⟨cs, hcs⟩ := HSET.out.type
        have := hcs.lt
        omega
      have hhas := graHas_is hsk HN.out k
      rw [hasB_nat F hlt] at hhas
      have HHS := Lib.hid hhas
      clear hA hK hsk hhas
      go_wp2_with (go_at_call 23; ((with_reducible refine (HHS.out).mono ?_); rintro e w4 ⟨rfl, rfl⟩))
      go_roundw
      case rel =>
        refine ⟨k + 1, by omega, by go_num, ((HA.out.set k _).eq ?_), HK.out.trans (Keeps.set1 _ _ _ _)⟩
        rw [fnArr_set]
        refine fnArr_ext fun i hi => ?_
        by_cases e : i = k
        · subst e; simp
        · rw [if_neg e]
          by_cases e2 : i < k
          · simp [e2, show i < k + 1 by omega]
          · simp [e2, show ¬ i < k + 1 by omega]
      case measure => simp [intOf]; omega
    · obtain rfl : k = l.length := by omega
      clear hA hK hlt
      go_wp2
      go_ret
      have hs3 := HB3.out.size
      refine ⟨_, rfl, ?_, hs3, HK.out.below HB3.out hs3 fun j e => by omega⟩
      rw [HF.out]
      exact HA.out.eq (fnArr_ext fun i hi => by simp [hi])

open Go.RowKit Go.IntWalk

theorem mayLoop {n B bh bq bc : Nat} {q : Int} {F : Nat → Bool} (hn : n ≤ 60) (h1 : bh < B) (h2 : bq < B) (h3 : bc < B) : MayAt 36 #[.pointer (some ⟨bh, 0, none⟩), .pointer (some ⟨bq, 0, none⟩)] n B (fun _ => False)
    (fun (_ : Unit) w => BlkAt bh 3 #[.int .i64 q] w ∧ BlkAt bq 56 #[.slice (some ⟨bc, 0, none⟩) (szS n) (szS n)] w ∧ SetAt bc n F w) (fun _ p => decide ((p : Int) ≠ q) && F p) (fun _ _ => ()) where
  ask s w p hp h := by
    show Calls Tryz.prog 36 #[.int .i32 p, .pointer (some ⟨bh, 0, none⟩), .pointer (some ⟨bq, 0, none⟩)] w _
    have c0 := h.1.cell 0
    have d0 := h.2.1.cell 0
    have hw : IntKind.i64.wrap (p : Int) = (p : Int) := IntWalk.i64_in _ (by omega)
    have hh := graHas_is h.2.2 hn p
    rw [hasB_nat F hp] at hh
    have HH := Lib.hid hh
    have H := Lib.hid h
    clear h hh
    by_cases hq : (p : Int) = q
    · go_enter Tryz.func36, Tryz.ntmps36
      go_wp2_with (go_at_call 23; ((with_reducible refine (HH.out).mono ?_); rintro e w4 ⟨rfl, rfl⟩))
      go_ret
      exact ⟨by simp [hq], H.out, Keeps.refl _ _⟩
    · go_enter Tryz.func36, Tryz.ntmps36
      go_wp2_with (go_at_call 23; ((with_reducible refine (HH.out).mono ?_); rintro e w4 ⟨rfl, rfl⟩))
      go_ret
      exact ⟨by simp [hq], H.out, Keeps.refl _ _⟩
  keep _ w w' h k := ⟨(k.block bh h1).trans h.1, (k.block bq h2).trans h.2.1, by
    obtain ⟨x, e1, e2, e3⟩ := h.2.2
    exact ⟨x, e1, e2, (k.block bc h3).trans e3⟩⟩
  lt _ h := h.elim
  cf _ _ := by kernel_rfl
/-- From where ways lead to a place. -/
def backN (l : List Int) (q : Nat) : List Nat := (List.range l.length).filter fun p => decide (q ∈ nxN l p)
theorem backN_mem {l : List Int} {p q : Nat} : p ∈ backN l q ↔ q ∈ nxN l p := by
  unfold backN
  rw [List.mem_filter, List.mem_range, decide_eq_true_iff]
  exact ⟨fun h => h.2, fun h => ⟨(nxN_mem.1 h).1, h⟩⟩
theorem came_congr {N N' : Nat → List Nat} {mv : Nat → Bool} {l l' : List Nat} (h1 : ∀ p q, q ∈ N p → q ∈ N' p) (h2 : ∀ x, x ∈ l → x ∈ l') {x : Nat} (h : Gra.Came N mv l x) : Gra.Came N' mv l' x := by
  induction h with
  | start h3 h4 => exact .start (h2 _ h3) h4
  | next _ h3 h4 ih => exact .next ih (h1 _ _ h3) h4
theorem cameB_congr {N N' : Nat → List Nat} {mv : Nat → Bool} {l l' : List Nat} (h1 : ∀ p q, q ∈ N p ↔ q ∈ N' p) (h2 : ∀ x, x ∈ l ↔ x ∈ l') : cameB N mv l = cameB N' mv l' := by
  funext x
  rw [Bool.eq_iff_iff, cameB_iff, cameB_iff]
  exact ⟨came_congr (fun p q => (h1 p q).1) fun x => (h2 x).1, came_congr (fun p q => (h1 p q).2) fun x => (h2 x).2⟩
/-- The same ways the other way round, as walks may go them. -/
theorem turned_ways {l : List Int} {w : World} {a : Option Addr} {m c : Nat} {a' : Option Addr} {n1 c' : Nat} {L' : List (List Int)} (hG : WayG w a m c a' n1 c' L') (hl : L'.length = l.length) (hm : m ≤ 200)
    (hx : ∀ q, q < l.length → ∀ x, x ∈ el L' q ↔ ∃ p : Nat, p < (wayL l l.length).length ∧ x = p ∧ (q : Int) ∈ el (wayL l l.length) p) (hlt : I32At a w) :
    n1 = l.length + 1 ∧ ∃ N', WayN w a m c a' c' l.length N' ∧ ∀ p q, q ∈ N' p ↔ q ∈ backN l p := by
  have hn1 := hG.len
  rw [hl] at hn1
  subst hn1
  have hin : ∀ q, q < l.length → ∀ x ∈ el L' q, ∃ p : Nat, x = p ∧ q ∈ nxN l p := fun q hq x h => by
    obtain ⟨p, hp, rfl, h2⟩ := (hx q hq x).1 h
    rw [wayL_len] at hp
    rw [wayL_el l hp] at h2
    exact ⟨p, rfl, nxN_mem.2 ⟨hp, h2⟩⟩
  have hN : ∀ p q, q ∈ (if p < l.length then (el L' p).map Int.toNat else []) ↔ q ∈ backN l p := fun p q => by
    rw [backN_mem]
    split
    · rename_i hp
      rw [List.mem_map]
      constructor
      · rintro ⟨x, h1, rfl⟩
        obtain ⟨p', rfl, h3⟩ := hin p hp x h1
        exact h3
      · intro h
        have := nxN_mem.1 h
        exact ⟨q, (hx p hp q).2 ⟨q, by rw [wayL_len]; exact this.1, rfl, by rw [wayL_el l this.1]; exact this.2⟩, by simp⟩
    · rename_i hp
      exact ⟨(fun h => by cases h), fun h => absurd (nxN_in h) hp⟩
  refine ⟨rfl, fun p => if p < l.length then (el L' p).map Int.toNat else [], ⟨⟨L', hG, hl, fun p hp => ?_⟩, fun p q h => ?_, fun p => ?_, fun b off e => (hlt b off e).elim fun _ h => h.lt⟩, hN⟩
  · simp only [if_pos hp, List.map_map]
    conv => lhs; rw [← List.map_id (el L' p)]
    apply List.map_congr_left
    intro x hx'
    obtain ⟨p', rfl, _⟩ := hin p hp x hx'
    simp
  · have h1 := backN_mem.1 ((hN p q).1 h)
    exact (nxN_mem.1 h1).1
  · split
    · rename_i hp
      obtain ⟨F, E, _, _, h3⟩ := hG.ex
      obtain ⟨lo, hi, _, _, h4, h5, h6⟩ := h3 p (by omega)
      rw [List.length_map, ← h6, List.length_take]
      omega
    · simp

open Go.RowKit Go.IntWalk

/-- Which places lead back to a loop's head. -/
noncomputable def lastB (l : List Int) (h : Int) (p : Nat) : Bool := cameB (nxN l) (fun _ => true) (beginN l.length) p && !cameB (nxN l) (fun p => decide ((p : Int) ≠ h)) (beginN l.length) p
noncomputable def lastN (l : List Int) (h : Int) : List Nat := (backN l h.toNat).filter (lastB l h)
noncomputable def loopF (l : List Int) (h : Int) : Nat → Bool :=
  upn (cameB (backN l) (fun p => decide ((p : Int) ≠ h) && cameB (nxN l) (fun _ => true) (beginN l.length) p) (lastN l h)) h.toNat true
noncomputable def loopL (l : List Int) (h : Int) : List Int :=
  if hasB l.length (cameB (nxN l) (fun _ => true) (beginN l.length)) h = true ∧ lastN l h ≠ [] then plc (loopF l h) l.length else []
/-- What Loop has before it goes through the places that lead to the head. -/
def LoopR (l : List Int) (W : World) (n : Nat) (past : Nat → Bool) (s7 s8 : Value) (wx : World) : Prop := ∃ bp bb a m c a' c' N', s7 = .slice (some ⟨bp, 0, none⟩) (szS n) (szS n) ∧ s8 = .pointer (some ⟨bb, 0, none⟩) ∧ SetAt bp n past wx ∧
  BlkAt bb 60 #[.slice a m c, .slice a' (n + 1) c'] wx ∧ WayN wx a m c a' c' n N' ∧ (∀ p q, q ∈ N' p ↔ q ∈ backN l p) ∧ W.heap.size ≤ bp ∧ W.heap.size ≤ bb ∧ Below W.heap.size W wx
theorem WayN.keep {w w' : World} {a : Option Addr} {m c : Nat} {a' : Option Addr} {c' n : Nat} {N : Nat → List Nat} (h : WayN w a m c a' c' n N) (k : Below w.heap.size w w') : WayN w' a m c a' c' n N := by
  obtain ⟨L, h1, h2, h3⟩ := h.ex
  exact ⟨⟨L, h1.keep k, h2, h3⟩, h.ins, h.few, fun b off e => Nat.lt_of_lt_of_le (h.lt b off e) k.size⟩
theorem WayN.kept {G : Nat → Prop} {w w' : World} {a : Option Addr} {m c : Nat} {a' : Option Addr} {c' n : Nat} {N : Nat → List Nat} (h : WayN w a m c a' c' n N) (k : Keeps G w w') (ha : ∀ b off, a = some ⟨b, off, none⟩ → ¬ G b) (ha' : ∀ b off, a' = some ⟨b, off, none⟩ → ¬ G b) : WayN w' a m c a' c' n N := by
  obtain ⟨L, h1, h2, h3⟩ := h.ex
  exact ⟨⟨L, h1.kept k ha ha', h2, h3⟩, h.ins, h.few, fun b off e => Nat.lt_of_lt_of_le (h.lt b off e) k.size⟩
theorem I32At.ne {a : Option Addr} {w : World} {bb : Nat} {T : TypeId} {cs : Array Value} (h : I32At a w) (hb : BlkAt bb T cs w) (hT : 21 ≠ T) : ∀ b off, a = some ⟨b, off, none⟩ → ¬ b = bb := fun b off e q => by
  obtain ⟨cs', h1⟩ := h b off e
  exact hT (BlkAt.type_eq (q ▸ h1) hb)
theorem hasB_some {n : Nat} {F : Nat → Bool} {x : Int} (h : hasB n F x = true) : ∃ k : Nat, x = k ∧ k < n ∧ F k = true := by
  unfold hasB at h
  rw [Bool.and_eq_true, decide_eq_true_iff] at h
  exact ⟨x.toNat, by omega, by omega, h.2⟩
set_option maxRecDepth 100000 in
set_option maxHeartbeats 4000000 in
theorem graLoop_is {l : List Int} {a : Option Addr} {c : Nat} {w : World} (x : Int) (h : Ws .u32 w a l.length c l) (hn : l.length ≤ 60) (hs : ShapesLaid w) (hb : ∀ i, i < l.length → 0 ≤ byAt l i ∧ byAt l i < 4294967296) :
    Calls Tryz.prog 17 #[.slice a l.length c, .int .i64 x] w fun e w' => ∃ v, e = .returned v ∧ OwnW .i64 w' w.heap.size 3 v (loopL l x) ∧ Below w.heap.size w w' := by
  obtain ⟨v1, hv1⟩ : ∃ v, hasB l.length (cameB (nxN l) (fun _ => true) (beginN l.length)) x = v := ⟨_, rfl⟩
  have hq0 : Below w.heap.size w (w.alloc (.cells #[.int .i64 x] 3)) := (Below.refl _ _).alloc (Nat.le_refl _) _
  have HRd := Lib.hid (graRead_is (h.keep hq0) hn (hs.below hq0 hs.lt) hb)
  have HQ0 := Lib.hid hq0
  have HX0 := Lib.hid (show BlkAt w.heap.size 3 #[.int .i64 x] (w.alloc (.cells #[.int .i64 x] 3)) from BlkAt.new _ _ _)
  have HV1 := Lib.hid hv1
  have HN := Lib.hid hn
  have hf0 := trip_0
  clear h hs hb hv1 hn hq0
  go_enter Tryz.func17, Tryz.ntmps17
  go_upto_region 3 with (first
    | (go_at_call 21; ((with_reducible refine (HRd.out).mono ?_); rintro e w2 ⟨v, rfl, hv, hq⟩); obtain ⟨a1, m1, c1, a2, c2, rfl, hwa, hwn⟩ := hv.ways; have HWN := Lib.hid hwn; have HWA := Lib.hid hwa; have HQ1 := Lib.hid hq; clear hwn hwa hq hv HRd)
    | (go_at_call 22; ((with_reducible refine (graAll_is HWN.out ((Below.refl _ _).alloc (Nat.le_refl _) _) HN.out).mono ?_); rintro e w3 ⟨v, T, rfl, hv, ht, hq⟩); have HP := Lib.hid ht.came; have HQ3 := Lib.hid hq; clear ht hq; obtain ⟨bc, bf, bo, ov, rfl, hset, hord, hlo⟩ := hv; obtain ⟨ao, co, rfl, -⟩ := hord.wsn (m := T.ord.length) (by simp); rw [HP.out] at hset; have HSET := Lib.hid hset; have HLO := Lib.hid hlo.2.1; clear hset hord hlo))
  obtain ⟨W5, hW5⟩ : ∃ W5, w3.alloc (.cells #[.slice (some ⟨bc, 0, none⟩) (szS l.length) (szS l.length)] 56) = W5 := ⟨_, rfl⟩
  have k2 := (Below.refl w2.heap.size w2).alloc (Nat.le_refl _) (.cells #[.slice a1 m1 c1, .slice a2 (l.length + 1) c2] 60)
  have k5 : Below w3.heap.size w3 W5 := hW5 ▸ (Below.refl _ _).alloc (Nat.le_refl _) _
  have k25 : Below w2.heap.size w2 W5 := k2.trans ((HQ3.out.trans (k5.mono HQ3.out.size)).mono k2.size)
  have k15 := HQ1.out.trans (k25.mono HQ1.out.size)
  have k05 := HQ0.out.trans (k15.mono HQ0.out.size)
  have hx0 := HX0.out.keep k15
  have hx2 : BlkAt w2.heap.size 60 #[.slice a1 m1 c1, .slice a2 (l.length + 1) c2] W5 := (BlkAt.new w2 _ _).keep (HQ3.out.trans (k5.mono HQ3.out.size))
  have hx3 : BlkAt w3.heap.size 56 #[.slice (some ⟨bc, 0, none⟩) (szS l.length) (szS l.length)] W5 := hW5 ▸ BlkAt.new _ _ _
  have hsc := HSET.out.keep k5
  have hwn := HWN.out.keep k25
  have hwa := HWA.out.keep k25
  have hle : w.heap.size ≤ w2.heap.size ∧ w.heap.size ≤ w3.heap.size ∧ w.heap.size ≤ bc := by
    have h1 := HQ0.out.size
    have h2 := HQ1.out.size
    have h3 := HQ3.out.size
    have h4 := HLO.out
    simp only [World.size_alloc] at *
    omega
  rw [hW5]
  generalize w2.heap.size = b5 at *
  generalize w3.heap.size = b6 at *
  have HK05 := Lib.hid k05
  have HX0' := Lib.hid hx0
  have HX2 := Lib.hid hx2
  have HX3 := Lib.hid hx3
  have HSC := Lib.hid hsc
  have HWN5 := Lib.hid hwn
  have HWA5 := Lib.hid hwa
  have HLE := Lib.hid hle
  have x0 := hx0.cell 0
  have x3 := hx3.cell 0
  have y0 := hx2.cell 0
  have y1 := hx2.cell 1
  have hhas := graHas_is hsc HN.out x
  rw [HV1.out] at hhas
  have HHS := Lib.hid hhas
  clear hW5 k2 k5 k25 k15 k05 hx0 hx2 hx3 hsc hwn hwa hle hhas HQ0 HQ1 HQ3 HWN HWA HSET HLO HX0
  cases v1 with
  | false =>
    go_wp2_with (go_at_call 23; ((with_reducible refine (HHS.out).mono ?_); rintro e w6 ⟨rfl, rfl⟩))
    go_ret
    refine ⟨_, rfl, ?_, HK05.out⟩
    unfold loopL
    rw [HV1.out, if_neg (by simp)]
    exact OwnW.nil _ _ _
  | true =>
    go_upto_region 5 with (go_at_call 23; ((with_reducible refine (HHS.out).mono ?_); rintro e w6 ⟨rfl, rfl⟩))
    go_cut [7, 8] (fun s7 s8 wx => LoopR l W5 l.length (cameB (nxN l) (fun p => decide ((p : Int) ≠ x)) (beginN l.length)) s7 s8 wx)
    case first =>
      refine wp_region_free (fun _ => True) [(0, 0, 23, 32), (1, 0, 24, 8), (2, 3, 25, 12582912), (3, 4, 26, 16777216), (4, 0, 27, 32), (5, 20, 28, 67108864), (6, 0, 9, 0), (7, 111, 8, 33554432), (8, 255, 0, 134217984)] 7 [(0, 22), (1, 23), (2, 24), (3, 25), (4, 26), (5, 27), (6, 8)] [(0, []), (1, []), (2, [(0, 22), (1, 23)]), (3, [(2, 24)]), (4, []), (5, [(4, 26)]), (6, [])] [(false, 7, 255), (false, 8, 511)] []
        (fun i v w' => match i with
          | 0 => v = .agg #[.slice a1 m1 c1, .slice a2 (l.length + 1) c2]
          | 1 => v = .int .i64 x
          | 2 => ∃ T', TripV w' W5.heap.size l.length v T' ∧ PureT (fun p => decide ((p : Int) ≠ x)) (nxN l) (beginN l.length) T'
          | 3 => ∃ bp, v = .slice (some ⟨bp, 0, none⟩) (szS l.length) (szS l.length) ∧ SetAt bp l.length (cameB (nxN l) (fun p => decide ((p : Int) ≠ x)) (beginN l.length)) w' ∧ W5.heap.size ≤ bp
          | 4 => v = .agg #[.slice a1 m1 c1, .slice a2 (l.length + 1) c2]
          | 5 => ∃ a m c a' c' N', v = .agg #[.slice a m c, .slice a' (l.length + 1) c'] ∧ WayN w' a m c a' c' l.length N' ∧ (∀ p q, q ∈ N' p ↔ q ∈ backN l p) ∧ I32At a w' ∧ I32At a' w'
          | 6 => ∃ bb, v = .pointer (some ⟨bb, 0, none⟩) ∧ BlkAt bb 60 #[.slice none 0 0, .slice none 0 0] w' ∧ W5.heap.size ≤ bb
          | _ => True) (by kernel_rfl) (by kernel_rfl) (by kernel_rfl) (by kernel_rfl) (by kernel_rfl) (fun _ _ => trivial) ?_ ?_ ?_
      · intro i v w1 w2 h hb
        match i, h with
        | 0, h | 1, h | 4, h => exact h
        | 2, ⟨T, h, h'⟩ => exact ⟨T, h.keep hb, h'⟩
        | 3, ⟨b, e, h, h'⟩ => exact ⟨b, e, h.keep hb, h'⟩
        | 5, ⟨a, m, c, a', c', N', e, h1, h2, h3, h4⟩ => exact ⟨a, m, c, a', c', N', e, h1.keep hb, h2, h3.keep hb, h4.keep hb⟩
        | 6, ⟨b, e, h, h'⟩ => exact ⟨b, e, h.keep hb, h'⟩
        | _ + 7, _ => trivial
      · refine ⟨?_, ?_, ?_, ?_, ?_, ?_, ?_, trivial⟩
        · intro o ho vals w1 hb hd hne
          cases ho
          have g0 := (BlkAt.keep (w := W5.drew) HX2.out hb).cell 0
          have g1 := (BlkAt.keep (w := W5.drew) HX2.out hb).cell 1
          exact .val (v := .agg #[.slice a1 m1 c1, .slice a2 (l.length + 1) c2]) (w' := w1) (by simp [frA, execOp, Act.eval, go_sem, g0, g1]) ⟨rfl, Below.refl _ _, fun q => by simp at q⟩
        · intro o ho vals w1 hb hd hne
          cases ho
          have g0 := (BlkAt.keep (w := W5.drew) HX0'.out hb).cell 0
          exact .val (v := .int .i64 x) (w' := w1) (by simp [frA, execOp, Act.eval, go_sem, g0]) ⟨rfl, Below.refl _ _, fun q => by simp at q⟩
        · intro o ho vals w1 hb hd hne
          cases ho
          have e0 : vals 0 = _ := hd (0, 22) (.head _)
          have e1 : vals 1 = _ := hd (1, 23) (.tail _ (.head _))
          refine .call (f := 25) (vs := #[.agg #[.slice a1 m1 c1, .slice a2 (l.length + 1) c2], .int .i64 x]) (by simp [frA, execOp, Act.put, Act.eval, go_sem, e0, e1]) ((graPast_is (w := w1) HWN5.out ((Below.refl W5.heap.size W5).drew.trans hb) HN.out).mono ?_)
          rintro e w' ⟨v, T', rfl, h1, h2, hq⟩
          exact ⟨_, rfl, ⟨T', h1.mono (show W5.heap.size ≤ w1.heap.size from hb.size), h2⟩, hq, fun q => by simp at q⟩
        · intro o ho vals w1 hb hd hne
          cases ho
          obtain ⟨T', h1, h2⟩ := hd (2, 24) (.head _)
          have hc := h2.came
          obtain ⟨bp, bf', bo', ov', e2, hset, hord, -, hlo, -⟩ := h1
          obtain ⟨ao', co', rfl, -⟩ := hord.wsn (m := T'.ord.length) (by simp)
          simp only at e2
          rw [hc] at hset
          exact .val (v := .slice (some ⟨bp, 0, none⟩) (szS l.length) (szS l.length)) (w' := w1) (by simp [frA, execOp, Act.put, Act.eval, go_sem, e2, hf0]) ⟨⟨bp, rfl, hset, hlo⟩, Below.refl _ _, fun q => by simp at q⟩
        · intro o ho vals w1 hb hd hne
          cases ho
          have g0 := (BlkAt.keep (w := W5.drew) HX2.out hb).cell 0
          have g1 := (BlkAt.keep (w := W5.drew) HX2.out hb).cell 1
          exact .val (v := .agg #[.slice a1 m1 c1, .slice a2 (l.length + 1) c2]) (w' := w1) (by simp [frA, execOp, Act.eval, go_sem, g0, g1]) ⟨rfl, Below.refl _ _, fun q => by simp at q⟩
        · intro o ho vals w1 hb hd hne
          cases ho
          have e0 : vals 4 = _ := hd (4, 26) (.head _)
          have hwa := HWA5.out.keep ((Below.refl W5.heap.size W5).drew.trans hb)
          have hm := hwa.tos.len
          have hfl := wayL_flat l l.length
          have hn9 := HN.out
          refine .call (f := 35) (vs := #[.agg #[.slice a1 m1 c1, .slice a2 (l.length + 1) c2]]) (by simp [frA, execOp, Act.put, Act.eval, go_sem, e0]) ((graTurned_is (w := w1) hwa HN.out (by omega) (fun z hz => by
            obtain ⟨r, hr, hz⟩ := List.mem_flatten.1 hz
            obtain ⟨p, -, rfl⟩ := List.mem_map.1 hr
            exact nxl_in hz)).mono ?_)
          rintro e w' ⟨v, rfl, ⟨a, m, c, a', n1, c', L', rfl, g1, g2, g3, g4, g5, g6⟩, hq⟩
          obtain ⟨rfl, N', g7, g8⟩ := turned_ways g1 g2 g3 g4 g5
          exact ⟨_, rfl, ⟨a, m, c, a', c', N', rfl, g7, g8, g5, g6⟩, hq, fun q => by simp at q⟩
        · intro o ho vals w1 hb hd hne
          cases ho
          exact .val (v := .pointer (some ⟨w1.heap.size, 0, none⟩)) (by simp [execOp, go_sem]) ⟨⟨_, rfl, BlkAt.new _ _ _, hb.size⟩, (Below.refl _ _).alloc (Nat.le_refl _) _, fun q => by simp at q⟩
      · intro vals ax w1 hI
        have e := hI.frame (by kernel_rfl) (by kernel_rfl)
        subst e
        have e0 : vals 0 = _ := hI.psi 0 (by omega) (by decide)
        have e1 : vals 1 = _ := hI.psi 1 (by omega) (by decide)
        have e4 : vals 4 = _ := hI.psi 4 (by omega) (by decide)
        obtain ⟨bp, e3, h31, h32⟩ := hI.psi 3 (by omega) (by decide)
        obtain ⟨a3, m3, c3, a4, c4, N', e5, h51, h52, h53, h54⟩ := hI.psi 5 (by omega) (by decide)
        obtain ⟨bb, e6, h61, h62⟩ := hI.psi 6 (by omega) (by decide)
        have HI := Lib.hid hI
        generalize vals 2 = v2 at *
        have f0 := h61.free 0
        have f1 := h61.free 1
        have g0 := h61.cell 0
        have g1 := h61.cell 1
        have HH := Lib.hid (And.intro h31 (And.intro h32 (And.intro h51 (And.intro h52 (And.intro h53 (And.intro h54 (And.intro h61 h62)))))))
        clear h31 h32 h51 h52 h53 h54 h61 h62
        refine SeqH.step rfl rfl fun K hK => ?_
        simp only [frA, List.foldl, e0, e1, e3, e4, e5, e6]
        go_simp
        refine hK _ _ trivial ?_
        refine SeqH.step rfl rfl fun K hK => ?_
        go_simp
        refine hK _ _ trivial (SeqH.done (NoPanic.normal ?_))
        go_wp2_with fail
        go_meet
        obtain ⟨h31, h32, h51, h52, h53, h54, h61, h62⟩ := HH.out
        obtain ⟨cs, hs⟩ := h31.type
        have hb0 : Below W5.heap.size W5 w1 := (Below.refl _ _).drew.trans HI.out.below
        have hk2 : Keeps (fun j => j = bb) w1 ((w1.setCell ⟨bb, 0, none⟩ (.slice a3 m3 c3)).setCell ⟨bb, 1, none⟩ (.slice a4 (l.length + 1) c4)) := (Keeps.set1 _ _ _ _).trans (Keeps.set1 _ _ _ _)
        exact ⟨bp, bb, a3, m3, c3, a4, c4, N', rfl, rfl, h31.kept hk2 (fun e => by subst e; exact absurd (BlkAt.type_eq hs h61) (by decide)), ((h61.set 0 _).set 1 _).eq rfl, h51.kept hk2 (h53.ne h61 (by decide)) (h54.ne h61 (by decide)), h52, h32, h62, hk2.below hb0 hb0.size fun j e => by subst e; exact h62⟩
    case rest =>
      obtain ⟨bp, bb, a3, m3, c3, a4, c4, N', rfl, rfl, hP, hbb, hWN, hNm, l1, l2, hB⟩ := hcut
      obtain ⟨h, rfl, hh, hF⟩ := hasB_some HV1.out
      have HX := Lib.hid (HX0'.out.keep hB)
      have HS := Lib.hid (HX3.out.keep hB)
      have HSC2 := Lib.hid (HSC.out.keep hB)
      have HBc := Lib.hid (HK05.out.trans (hB.mono HK05.out.size))
      have HPS := Lib.hid hP
      have HBB := Lib.hid hbb
      have HWNc := Lib.hid hWN
      have HNM := Lib.hid hNm
      have x0 := HX.out.cell 0
      have x6 := HS.out.cell 0
      have y0 := hbb.cell 0
      have y1 := hbb.cell 1
      obtain ⟨L, hL1, hL2, hL3⟩ := hWN.ex
      have hn := HN.out
      have hO := graOf_is (w := wc) hL1 (Below.refl _ _) (by rw [hL2]; omega) (p := h) (by omega)
      rw [hL3 h hh] at hO
      have HO := Lib.hid hO
      have HL := Lib.hid (And.intro hL1 (And.intro hL2 hL3))
      have HHH := Lib.hid hh
      clear hP hbb hWN hNm l1 l2 hB hL1 hL2 hL3 hO hF HX0' HX2 HX3 HSC HWN5 HWA5 HHS hn hh
      go_wp2_with (go_at_call 27; ((with_reducible refine HO.out.mono ?_); rintro e w6 ⟨b, k, d, rfl, hw6, -, hq⟩); have HW6 := Lib.hid (hw6.keep hq); have HQ6 := Lib.hid hq; clear hw6 hq)
      have hkl := HW6.out.len
      rw [List.length_map] at hkl
      have hk200 : k ≤ 200 := by have := HWNc.out.few h; omega
      have hk' : (k : Int) ≤ 200 := by omega
      have HKL := Lib.hid hkl
      clear x0 x6 y0 y1 hkl
      go_loopw [32, 9, 11] (fun i v _ wr => ∃ j : Nat, j ≤ k ∧ i = .int .i64 j ∧ OwnW .i32 wr w6.heap.size 21 v ((((N' h).take j).filter (lastB l h)).map Int.ofNat) ∧ Below w6.heap.size w6 wr) (fun i _ _ _ => k - (intOf i).toNat)
      case atStart => exact ⟨0, by omega, rfl, OwnW.nil _ _ _, Below.refl _ _⟩
      case round =>
        obtain ⟨j, hj, rfl, hA, hK⟩ := hrel
        have HA := Lib.hid hA
        have HK := Lib.hid hK
        have HK6 := Lib.hid (HQ6.out.trans (hK.mono HQ6.out.size))
        by_cases hlt : j < k
        · have hlt' : (j : Int) < k := by omega
          obtain ⟨g, off, rfl, hc⟩ := (HW6.out.keep hK).lie (by omega)
          have c0 := hc j hlt
          have hjl : j < (N' h).length := by rw [HKL.out]; exact hlt
          obtain ⟨q, hq⟩ : ∃ q, (N' h)[j] = q := ⟨_, rfl⟩
          have hbq : byAt ((N' h).map Int.ofNat) j = (q : Int) := by
            rw [← byAt_eq (by rw [List.length_map]; exact hjl), List.getElem_map, hq]; rfl
          rw [hbq] at c0
          have hqn := HWNc.out.ins h q (by rw [← hq]; exact List.getElem_mem _)
          have hn := HN.out
          have hw : IntKind.i64.wrap (q : Int) = (q : Int) := IntWalk.i64_in _ (by omega)
          have x6 := (HS.out.keep HK6.out).cell 0
          have hh1 := graHas_is (HSC2.out.keep HK6.out) HN.out q
          rw [hasB_nat _ hqn] at hh1
          have hh2 := graHas_is (HPS.out.keep HK6.out) HN.out q
          rw [hasB_nat _ hqn] at hh2
          have hta : ((N' h).take (j + 1)).filter (lastB l h) = ((N' h).take j).filter (lastB l h) ++ if lastB l h q = true then [q] else [] := by
            rw [List.take_succ_eq_append_getElem hjl, List.filter_append, hq]
            congr 1
            by_cases e : lastB l h q = true <;> simp [e]
          have hlen : (((N' h).take j).filter (lastB l h)).length ≤ 200 := Nat.le_trans (List.length_filter_le _ _) (by rw [List.length_take]; omega)
          have HLEN := Lib.hid hlen
          obtain ⟨v1, e1⟩ : ∃ v, cameB (nxN l) (fun _ => true) (beginN l.length) q = v := ⟨_, rfl⟩
          obtain ⟨v2, e2⟩ : ∃ v, cameB (nxN l) (fun p => decide ((p : Int) ≠ h)) (beginN l.length) q = v := ⟨_, rfl⟩
          have hl : lastB l h q = (v1 && !v2) := by unfold lastB; rw [e1, e2]
          rw [hl] at hta
          rw [e1] at hh1
          rw [e2] at hh2
          have HH1 := Lib.hid hh1
          have HH2 := Lib.hid hh2
          have HTA := Lib.hid hta
          clear hA hK hc hlt hq hbq hqn hn hh1 hh2 hta e1 e2 hl hlen
          cases v1 with
          | false =>
            go_wp2_with (first
              | (go_at_call 23; ((with_reducible refine (HH1.out).mono ?_); rintro e w7 ⟨rfl, rfl⟩)))
            go_roundw
            case rel => exact ⟨j + 1, by omega, by go_num, by rw [HTA.out]; simpa using HA.out, HK.out⟩
            case measure => simp [intOf]; omega
          | true =>
            cases v2 with
            | true =>
              go_wp2_with (first
                | (go_at_call 23; ((with_reducible refine (HH1.out).mono ?_); rintro e w7 ⟨rfl, rfl⟩))
                | (go_at_call 23; ((with_reducible refine (HH2.out).mono ?_); rintro e w7 ⟨rfl, rfl⟩)))
              go_roundw
              case rel => exact ⟨j + 1, by omega, by go_num, by rw [HTA.out]; simpa using HA.out, HK.out⟩
              case measure => simp [intOf]; omega
            | false =>
              obtain ⟨i0, hi, hz0, hz1, hz2⟩ := info_parts infoI32
              have HIO := Lib.hid (And.intro hi (And.intro hz0 (And.intro hz1 hz2)))
              clear hi hz0 hz1 hz2
              have hsr := HK.out.size
              have HSR := Lib.hid hsr
              clear hsr
              go_wp2_with (first
                | (go_at_call 23; ((with_reducible refine (HH1.out).mono ?_); rintro e w7 ⟨rfl, rfl⟩))
                | (go_at_call 23; ((with_reducible refine (HH2.out).mono ?_); rintro e w7 ⟨rfl, rfl⟩))
                | (at_builtin; refine wpList_append_1 rfl _ _ 23 rfl w6.heap.size 21 i0 (.int .i32 0) Tryz.underlying23 HIO.out.1 HIO.out.2.1 HIO.out.2.2.1 (by have := HIO.out.2.2.2; omega) rfl rfl (HA.out.keep ((Below.refl _ _).alloc (Nat.le_refl _) _)) rfl ((BlkAt.new _ _ _).cell 0) (by have := HLEN.out; rw [List.length_map]; omega) (by have := HSR.out; simp; omega) ?_; intro v' w' hown hgr hnx; have HOWN := Lib.hid hown; have HGR := Lib.hid hgr; clear hown hgr hnx))
              go_roundw
              case rel =>
                have k1 : Below w6.heap.size wr w' := ((Below.refl _ _).alloc HSR.out _).grown HGR.out (by have := HSR.out; simp; omega) fun k e => (HA.out.lt k e).1
                refine ⟨j + 1, by omega, by go_num, ?_, HK.out.trans k1⟩
                rw [HTA.out, List.map_append]
                exact HOWN.out
              case measure => simp [intOf]; omega
        · obtain rfl : j = k := by omega
          obtain ⟨Z, hZ⟩ : ∃ Z, (N' h).filter (lastB l h) = Z := ⟨_, rfl⟩
          rw [List.take_of_length_le (by rw [HKL.out]; omega), hZ] at hA
          have hZm : ∀ p, p ∈ Z ↔ p ∈ lastN l h := fun p => by
            rw [← hZ]
            unfold lastN
            rw [List.mem_filter, List.mem_filter, HNM.out h p, Int.toNat_natCast]
          have hZl : Z.length ≤ 200 := by rw [← hZ]; exact Nat.le_trans (List.length_filter_le _ _) (HWNc.out.few h)
          have HZM := Lib.hid hZm
          have HZL := Lib.hid hZl
          have HZI := Lib.hid (show ∀ x ∈ Z, x < l.length from fun x hx => by
            rw [← hZ, List.mem_filter] at hx
            exact HWNc.out.ins h x hx.1)
          obtain ⟨mz, hmz⟩ : ∃ m, Z.length = m := ⟨_, rfl⟩
          obtain ⟨ao, co, rfl, hws⟩ := hA.wsn (m := mz) (by rw [List.length_map, hmz])
          have HAO := Lib.hid hA
          have HWS := Lib.hid hws
          have HMZ := Lib.hid hmz
          clear hA hK hlt hZ hZm hZl hws hmz HA
          by_cases hz : mz = 0
          · subst hz
            go_wp2_with fail
            go_ret
            refine ⟨_, rfl, ?_, (HBc.out.trans (HK6.out.mono HBc.out.size))⟩
            have hnil : lastN l h = [] := by
              have h0 := List.eq_nil_of_length_eq_zero HMZ.out
              apply List.eq_nil_iff_forall_not_mem.2
              intro p hp
              have := (HZM.out p).2 hp
              rw [h0] at this
              cases this
            unfold loopL
            rw [if_neg (by rw [hnil]; simp)]
            exact OwnW.nil _ _ _
          · have hz' : ¬ (mz : Int) = 0 := by omega
            have hx := HX.out.keep HK6.out
            have hs := HS.out.keep HK6.out
            have hsc := HSC2.out.keep HK6.out
            have hbb := HBB.out.keep HK6.out
            have x0 := hx.cell 0
            have y0 := hbb.cell 0
            have y1 := hbb.cell 1
            have hW := graWalk_is (w0 := wc) (w := wr) (mayLoop (n := l.length) (B := wr.heap.size) (q := (h : Int)) HN.out hx.lt hs.lt hsc.lt) HL.out.1 HK6.out HL.out.2.1 HL.out.2.2 HWNc.out.ins HWNc.out.few HN.out (fun _ h => h.elim) HWNc.out.lt HWS.out (fun b' off q => ⟨id, by
              subst q
              exact (HAO.out.lt b' (by simp [Value.ownBlock])).2⟩) HZI.out (by have := HZL.out; omega) (s := ()) ⟨hx, hs, hsc⟩
            have HW := Lib.hid hW
            have HXr := Lib.hid hx
            have hf0 := trip_0
            clear hx hs hsc hbb hW
            go_wp2_with (first
              | (go_at_call 28; ((with_reducible refine HW.out.mono ?_); rintro e w7 ⟨v, s', T, rfl, hv, hst, hgo, hJ, hKp⟩); have HP7 := Lib.hid (PureT.came (mv := fun p => decide ((p : Int) ≠ h) && cameB (nxN l) (fun _ => true) (beginN l.length) p) (N := N') (l := Z) ⟨hst, hgo⟩); have HQ7 := Lib.hid hKp.nought; have x07 := (HXr.out.keep hKp.nought).cell 0; clear hst hgo hJ hKp; obtain ⟨bc7, bf7, bo7, ov7, rfl, hset, hord, hfr, hlo, -⟩ := hv; obtain ⟨ao7, co7, rfl, -⟩ := hord.wsn (m := T.ord.length) (by simp); rw [HP7.out] at hset; have HSET := Lib.hid hset; have HLO := Lib.hid hlo; clear hset hord hfr hlo)
              | (go_at_call 37; ((with_reducible refine (graAdd_is HSET.out HN.out h HHH.out).mono ?_); rintro e w8 ⟨rfl, hset8, hk8⟩); have HSET8 := Lib.hid hset8; have HK8 := Lib.hid hk8; clear hset8 hk8)
              | (go_at_call 33; ((with_reducible refine (graPlaces_is HSET8.out HN.out).mono ?_); rintro e w9 ⟨v9, rfl, hv9, hq9⟩); have HV9 := Lib.hid hv9; have HQ9 := Lib.hid hq9; clear hv9 hq9))
            go_ret
            have s1 := HBc.out.size
            have s2 := HK6.out.size
            have s3 := HQ7.out.size
            have s4 := HK8.out.size
            have s5 := HLO.out
            have k7 : Below w.heap.size w w7 := (HBc.out.trans (HK6.out.mono s1)).trans (HQ7.out.mono (by omega))
            have k8 : Below w.heap.size w w8 := HK8.out.below k7 (by omega) fun j e => by omega
            refine ⟨_, rfl, ?_, k8.trans (HQ9.out.mono (by omega))⟩
            have hne : lastN l h ≠ [] := fun e => hz (by
              have h0 : Z = [] := List.eq_nil_iff_forall_not_mem.2 fun p hp => by
                have := (HZM.out p).1 hp
                rw [e] at this
                cases this
              rw [← HMZ.out, h0]; rfl)
            unfold loopL
            rw [if_pos ⟨HV1.out, hne⟩]
            have e9 : loopF l h = upn (cameB N' (fun p => decide ((p : Int) ≠ h) && cameB (nxN l) (fun _ => true) (beginN l.length) p) Z) h true := by
              unfold loopF
              rw [Int.toNat_natCast, cameB_congr HNM.out HZM.out]
            rw [e9]
            exact HV9.out.mono (by omega)

open Go.RowKit Go.IntWalk

set_option maxRecDepth 100000 in
set_option maxHeartbeats 1000000 in
theorem mayCyc {n B bl br : Nat} (hn : n ≤ 60) (h1 : bl < B) (h2 : br < B) : MayAt 29 #[.pointer (some ⟨bl, 0, none⟩)] n B (fun j => j = br)
    (fun (s : Nat → Int) w => BlkAt bl 23 #[.slice (some ⟨br, 0, none⟩) n n] w ∧ Ar .i32 21 br n s w) Gra.cycM Gra.cycS where
  ask s w p hp h := by
    show Calls Tryz.prog 29 #[.int .i32 p, .pointer (some ⟨bl, 0, none⟩)] w _
    have hne : br ≠ bl := Ar.ne_blk h.2 h.1 (by decide)
    have hne2 : ¬ br = bl := hne
    have hne3 : ¬ bl = br := fun e => hne e.symm
    have c0 := h.1.cell 0
    have ck := h.2.cell hp
    have fk := h.2.free p
    have hp' : (p : Int) < n := by omega
    have hn' : (n : Int) ≤ 60 := by omega
    obtain ⟨v, hv⟩ : ∃ v, s p = v := ⟨_, rfl⟩
    obtain ⟨u, hu⟩ : ∃ u, IntKind.i32.wrap (v - 1) = u := ⟨_, rfl⟩
    have HH := Lib.hid (And.intro hv hu)
    have H := Lib.hid h
    rw [hv] at ck
    clear h hne hv
    go_enter Tryz.func29, Tryz.ntmps29
    go_wp2
    go_ret
    have k1 := Keeps.set1 w br p (.int .i32 u)
    refine ⟨?_, ⟨H.out.1.kept k1 fun e => hne2 e.symm, (H.out.2.set p u).eq fun i _ => ?_⟩, k1⟩
    · unfold Gra.cycM
      rw [HH.out.1, HH.out.2]
      by_cases e : u = 0 <;> simp [e]
    · unfold Gra.cycS
      rw [HH.out.1, HH.out.2]
  keep s w w' h k := ⟨(k.block bl h1).trans h.1, (k.block br h2).trans h.2⟩
  lt j h := by omega
  cf _ _ := by kernel_rfl
theorem cnt_up {L : List Nat} {j q0 : Nat} (h : j < L.length) (e : L[j] = q0) (q : Nat) : (L.take (j + 1)).count q = (L.take j).count q + if q = q0 then 1 else 0 := by
  rw [List.take_succ_eq_append_getElem h, List.count_append, e, List.count_singleton]
  congr 1
  by_cases h : q = q0
  · subst h; simp
  · rw [if_neg h, if_neg (by simpa using fun e : q0 = q => h e.symm)]
theorem flatMap_len {N : Nat → List Nat} {D : Nat} (h : ∀ p, (N p).length ≤ D) : ∀ O : List Nat, (O.flatMap N).length ≤ O.length * D
  | [] => by simp
  | x :: O => by
    have h1 := flatMap_len h O
    have h2 := h x
    rw [List.flatMap_cons, List.length_append, List.length_cons, Nat.add_mul]
    omega
theorem came_lt {l : List Int} {mv : Nat → Bool} {x : Nat} (h : Gra.Came (nxN l) mv (beginN l.length) x) : x < l.length := by
  cases h with
  | start h _ =>
    unfold beginN at h
    have h9 := List.eq_of_mem_replicate h
    have h8 : (List.replicate (min l.length 1) 0).length ≠ 0 := fun e => by
      rw [List.eq_nil_of_length_eq_zero e] at h; cases h
    rw [List.length_replicate] at h8
    omega
  | next _ h _ => exact nxN_in h
/-- How many ways lead to each place from some, and from without. -/
def cycIn (N : Nat → List Nat) (n : Nat) (O : List Nat) (q : Nat) : Int := ((beginN n).count q + (O.flatMap N).count q : Nat)
/-- What the second walk of Cyclic comes to. -/
def CycT (l : List Int) (T T2 : Gra.Tr) : Prop := ∃ s2, T2.st = [] ∧
      Gra.GoT Gra.cycM Gra.cycS (nxN l) ((Gra.waitS Gra.cycM Gra.cycS (fun _ => false) (-1) (beginN l.length) (cycIn (nxN l) l.length T.ord) []).1, Gra.startT (Gra.waitS Gra.cycM Gra.cycS (fun _ => false) (-1) (beginN l.length) (cycIn (nxN l) l.length T.ord) []).2) (s2, T2)
/-- Where it lies. -/
def CycR (l : List Int) (T : Gra.Tr) (br : Nat) (W : World) (s12 : Value) (wx : World) : Prop := ∃ b T2 bc bf ao co, s12 = .pointer (some ⟨b, 0, none⟩) ∧ BlkAt b 58 #[.slice (some ⟨bc, 0, none⟩) (szS l.length) (szS l.length), .slice ao T2.ord.length co, .slice (some ⟨bf, 0, none⟩) l.length l.length] wx ∧ CycT l T T2 ∧ W.heap.size ≤ b ∧ Keeps (fun j => j = br) W wx
set_option maxRecDepth 100000 in
set_option maxHeartbeats 4000000 in
theorem graCyclic_is {l : List Int} {a : Option Addr} {c : Nat} {w : World} (h : Ws .u32 w a l.length c l) (hn : l.length ≤ 60) (hs : ShapesLaid w) (hb : ∀ i, i < l.length → 0 ≤ byAt l i ∧ byAt l i < 4294967296) :
    Calls Tryz.prog 11 #[.slice a l.length c] w fun e w' => (∃ T s2 T2, e = .returned (.bool (decide (T2.ord.length < T.ord.length))) ∧ PureT (fun _ => true) (nxN l) (beginN l.length) T ∧ T2.st = [] ∧
      Gra.GoT Gra.cycM Gra.cycS (nxN l) ((Gra.waitS Gra.cycM Gra.cycS (fun _ => false) (-1) (beginN l.length) (cycIn (nxN l) l.length T.ord) []).1, Gra.startT (Gra.waitS Gra.cycM Gra.cycS (fun _ => false) (-1) (beginN l.length) (cycIn (nxN l) l.length T.ord) []).2) (s2, T2)) ∧ Below w.heap.size w w' := by
  obtain ⟨i0, hi, hz0, hz1, hz2⟩ := info_parts infoI32
  have hmk := run_zeros (P := Tryz.prog) 23 21 i0 Tryz.underlying23 hi hz0 hz1 l.length (by rw [hz2]; omega) (by unfold maxLen; omega) l.length rfl
  have HRd := Lib.hid (graRead_is h hn hs hb)
  have HN := Lib.hid hn
  have hf1 := trip_1
  clear h hs hb hn
  go_enter Tryz.func11, Tryz.ntmps11
  go_upto_region 4 with (first
    | (go_at_call 21; ((with_reducible refine (HRd.out).mono ?_); rintro e w2 ⟨v, rfl, hv, hq⟩); obtain ⟨a1, m1, c1, a2, c2, rfl, hwa, hwn⟩ := hv.ways; have HWN := Lib.hid hwn; have HQ1 := Lib.hid hq; clear hwn hwa hq hv HRd)
    | (go_at_call 22; ((with_reducible refine (graAll_is HWN.out ((Below.refl _ _).alloc (Nat.le_refl _) _) HN.out).mono ?_); rintro e w3 ⟨v, T, rfl, hv, ht, hq⟩); have HP := Lib.hid ht; have HQ3 := Lib.hid hq; clear ht hq; obtain ⟨bc, bf, bo, ov, rfl, hset, hord, hlo⟩ := hv; obtain ⟨ao, co, rfl, hws⟩ := hord.wsn (m := T.ord.length) (by simp); have HORD := Lib.hid hws; have HAO := Lib.hid (fun b off (q : ao = some ⟨b, off, none⟩) => (hord.lt b (by subst q; simp [Value.ownBlock])).2); clear hset hord hlo hws))
  obtain ⟨br, hbr⟩ : ∃ x, w3.heap.size = x := ⟨_, rfl⟩
  obtain ⟨W5, hW5⟩ : ∃ W5, (w3.alloc (.cells (fnArr l.length fun _ => .int .i32 0) 21)).alloc (.cells #[.slice (some ⟨w3.heap.size, 0, none⟩) l.length l.length] 23) = W5 := ⟨_, rfl⟩
  have k2 := (Below.refl w2.heap.size w2).alloc (Nat.le_refl _) (.cells #[.slice a1 m1 c1, .slice a2 (l.length + 1) c2] 60)
  have k5 : Below w3.heap.size w3 W5 := hW5 ▸ ((Below.refl _ _).alloc (Nat.le_refl _) _).alloc (by simp) _
  have k25 : Below w2.heap.size w2 W5 := k2.trans ((HQ3.out.trans (k5.mono HQ3.out.size)).mono k2.size)
  have HB5 := Lib.hid (HQ1.out.trans (k25.mono HQ1.out.size))
  have HX2 := Lib.hid (show BlkAt w2.heap.size 60 #[.slice a1 m1 c1, .slice a2 (l.length + 1) c2] W5 from (BlkAt.new w2 _ _).keep (HQ3.out.trans (k5.mono HQ3.out.size)))
  have HA0 := Lib.hid (show Ar .i32 21 br l.length (fun _ => 0) W5 from by rw [← hW5, ← hbr]; exact Ar.keep (Ar.zeros w3 rfl) ((Below.refl _ _).alloc (Nat.le_refl _) _))
  have HBX := Lib.hid (show BlkAt (br + 1) 23 #[.slice (some ⟨br, 0, none⟩) l.length l.length] W5 from by rw [← hW5, ← hbr]; exact BlkAt.newb _ _ _ (by simp))
  have HO5 := Lib.hid (HORD.out.keep k5)
  have HLE := Lib.hid (show w.heap.size ≤ w2.heap.size ∧ w2.heap.size < br ∧ br + 2 = W5.heap.size ∧ w.heap.size ≤ br from by
    have h1 := HQ1.out.size
    have h2 := HQ3.out.size
    have h3 : W5.heap.size = w3.heap.size + 2 := by rw [← hW5]; simp
    rw [World.size_alloc] at h2
    omega)
  have HK25 := Lib.hid k25
  have HAO2 := Lib.hid (fun b off q => hbr ▸ HAO.out b off q)
  rw [hW5]
  rw [hbr]
  have HOL := Lib.hid (show T.ord.length ≤ l.length ∧ ∀ x ∈ T.ord, x < l.length from by
    have h1 := Gra.GoP.came (mv := fun _ => true) (N := nxN l) (l0 := beginN l.length) HP.out.2 HP.out.1
    have h2 : ∀ x ∈ T.ord, x < l.length := fun x hx => came_lt ((h1.1 x).1 ((h1.2.2 x).1 hx))
    exact ⟨Gra.nodup_lt h1.2.1 h2, h2⟩)
  have x2 := HX2.out.cell 0
  have y2 := HX2.out.cell 1
  have hn := HN.out
  have hn' : (l.length : Int) ≤ 60 := by omega
  obtain ⟨b5, hb5⟩ : ∃ x, w2.heap.size = x := ⟨_, rfl⟩
  rw [hb5] at HX2 HLE HK25 x2 y2
  rw [hb5]
  have HB5E := Lib.hid hb5
  clear HAO hb5 hW5 hbr k2 k5 k25 HQ1 HQ3 hmk hi hz0 hz1 hz2 hn HORD
  go_wp2_with (go_at_call 26; ((with_reducible refine (graBegin_is (n := l.length) _ _ _ (by omega)).mono ?_); rintro e w6 ⟨g, k, rfl, hw6, hg1, hg2, hq⟩); have HW6 := Lib.hid hw6; have HG6 := Lib.hid hg1; have HQ6 := Lib.hid hq; clear hw6 hg1 hg2 hq)
  have hkl := HW6.out.len
  rw [beginN_is, List.length_map] at hkl
  have hk1 : k ≤ 1 := by rw [← hkl]; unfold beginN; rw [List.length_replicate]; omega
  have hk' : (k : Int) ≤ 1 := by omega
  have HKL := Lib.hid hkl
  clear x2 y2 hkl
  go_loopw [24] (fun i wr => ∃ j : Nat, j ≤ k ∧ i = .int .i64 j ∧ Ar .i32 21 br l.length (fun q => ((((beginN l.length).take j).count q : Nat) : Int)) wr ∧ Keeps (fun j => j = br) w6 wr) (fun i _ => k - (intOf i).toNat)
  case atStart => exact ⟨0, by omega, rfl, (HA0.out.keep HQ6.out).eq fun i _ => by simp, Keeps.refl _ _⟩
  case round =>
    obtain ⟨j, hj, rfl, hA, hK⟩ := hrel
    have HA := Lib.hid hA
    have HK := Lib.hid hK
    have hk6 : Keeps (fun j => j = br) W5 wr := (Keeps.of_below _ HQ6.out).trans hK
    have HK6 := Lib.hid hk6
    by_cases hlt : j < k
    · have hlt' : (j : Int) < k := by omega
      have hjl : j < (beginN l.length).length := by rw [HKL.out]; exact hlt
      obtain ⟨q0, hq0⟩ : ∃ q, (beginN l.length)[j] = q := ⟨_, rfl⟩
      have hc := (HW6.out.kept hK (fun b off e => by cases e; have := HG6.out; have := HLE.out; omega)).lie (by omega)
      obtain ⟨g', off, e', hc⟩ := hc
      cases e'
      have c0 := hc j hlt
      have hbq : byAt (beginL l.length) j = (q0 : Int) := by
        rw [beginN_is, ← byAt_eq (by rw [List.length_map]; exact hjl), List.getElem_map, hq0]; rfl
      rw [hbq, Nat.zero_add] at c0
      have hqn : q0 < l.length := by
        rw [← hq0]
        unfold beginN
        unfold beginN at hjl
        rw [List.length_replicate] at hjl
        simp only [List.getElem_replicate]
        omega
      have b0 := (HBX.out.kept hk6 (by omega)).cell 0
      have cv := hA.cell hqn
      have fv := hA.free q0
      have hbd : ((beginN l.length).take j).count q0 ≤ 1 := Nat.le_trans List.count_le_length (by rw [List.length_take]; omega)
      obtain ⟨v, hv⟩ : ∃ v : Nat, ((beginN l.length).take j).count q0 = v := ⟨_, rfl⟩
      rw [hv] at cv hbd
      have HN1 := Lib.hid (And.intro hv (cnt_up hjl hq0))
      have v0 : (0 : Int) ≤ (v : Int) := by omega
      have v1 : (v : Int) ≤ 1 := by omega
      have hq' : (q0 : Int) < l.length := by omega
      clear hA hK hk6 hlt hjl hc hbq hqn hbd hv hq0
      go_wp2
      go_roundw
      case rel => exact ⟨j + 1, by omega, by go_num, (HA.out.set q0 ((v : Int) + 1)).eq fun i _ => by
        unfold upn
        dsimp only
        have h1 := HN1.out.2 i
        have h2 := HN1.out.1
        split
        · rename_i e; subst e; rw [if_pos rfl] at h1; omega
        · rename_i e; rw [if_neg e] at h1; omega, HK.out.trans (Keeps.set1 _ _ _ _)⟩
      case measure => simp [intOf]; omega
    · obtain rfl : j = k := by omega
      have HA2 := Lib.hid (show Ar .i32 21 br l.length (fun q => (((beginN l.length).count q + ((T.ord.take 0).flatMap (nxN l)).count q : Nat) : Int)) wr from hA.eq fun i _ => by
        rw [List.take_of_length_le (by rw [HKL.out]; omega)]
        simp)
      clear hA hK HA HK hlt hk6
      go_wp2
      obtain ⟨mo, hmo⟩ : ∃ m, T.ord.length = m := ⟨_, rfl⟩
      have HMO := Lib.hid hmo
      rw [hmo]
      have hmo' : (mo : Int) ≤ 60 := by have := HOL.out.1; omega
      clear hmo
      go_loopw [37] (fun i wr => ∃ p : Nat, p ≤ mo ∧ i = .int .i64 p ∧ Ar .i32 21 br l.length (fun q => (((beginN l.length).count q + ((T.ord.take p).flatMap (nxN l)).count q : Nat) : Int)) wr ∧ Keeps (fun j => j = br) W5 wr) (fun i _ => mo - (intOf i).toNat)
      case atStart => exact ⟨0, by omega, rfl, HA2.out, HK6.out⟩
      case round =>
        obtain ⟨p, hp, rfl, hA, hK⟩ := hrel
        have HA := Lib.hid hA
        have HK := Lib.hid hK
        by_cases hlt : p < mo
        · have hlt' : (p : Int) < mo := by omega
          have hpl : p < T.ord.length := by rw [HMO.out]; exact hlt
          obtain ⟨P, hP⟩ : ∃ P, T.ord[p] = P := ⟨_, rfl⟩
          have hPn : P < l.length := HOL.out.2 P (by rw [← hP]; exact List.getElem_mem _)
          have hc := (HO5.out.kept hK (fun b off e => by have := HAO2.out b off e; omega)).lie (by omega)
          obtain ⟨g', off, rfl, hc⟩ := hc
          have c0 := hc p hpl
          have hbq : byAt (T.ord.map Int.ofNat) p = (P : Int) := by
            rw [← byAt_eq (by rw [List.length_map]; exact hpl), List.getElem_map, hP]; rfl
          rw [hbq] at c0
          have x2 := (HX2.out.kept hK (by have := HLE.out; omega)).cell 0
          have y2 := (HX2.out.kept hK (by have := HLE.out; omega)).cell 1
          have hold : Below w2.heap.size w2 wr := hK.below (by rw [HB5E.out]; exact HK25.out) (by rw [HB5E.out]; have := HLE.out; omega) fun j e => by rw [HB5E.out]; have := HLE.out; omega
          obtain ⟨L, hL1, hL2, hL3⟩ := HWN.out.ex
          have hO := graOf_is (w := wr) hL1 hold (by rw [hL2]; have := HN.out; omega) (p := P) (by omega)
          rw [hL3 P hPn] at hO
          have HO := Lib.hid hO
          have hw : IntKind.i64.wrap (P : Int) = (P : Int) := IntWalk.i64_in _ (by have := HN.out; omega)
          have HPP := Lib.hid (And.intro hP hPn)
          have HPL := Lib.hid hpl
          clear hA hK hc hbq hold hL1 hL2 hL3 hO hlt hP hPn
          go_wp2_with (go_at_call 27; ((with_reducible refine HO.out.mono ?_); rintro e w8 ⟨b, k8, d, rfl, hw8, -, hq⟩); have HW8 := Lib.hid hw8; have HQ8 := Lib.hid hq; clear hw8 hq)
          have hkl := HW8.out.len
          rw [List.length_map] at hkl
          have hk8 : k8 ≤ 200 := by have := HWN.out.few P; omega
          have hk8' : (k8 : Int) ≤ 200 := by omega
          have HKL8 := Lib.hid hkl
          clear x2 y2 hkl c0
          go_loopw [46] (fun i wr => ∃ j : Nat, j ≤ k8 ∧ i = .int .i64 j ∧ Ar .i32 21 br l.length (fun q => (((beginN l.length).count q + (((T.ord.take p).flatMap (nxN l)).count q + ((nxN l P).take j).count q) : Nat) : Int)) wr ∧ Keeps (fun j => j = br) W5 wr) (fun i _ => k8 - (intOf i).toNat)
          case atStart => exact ⟨0, by omega, rfl, (HA.out.keep HQ8.out).eq fun i _ => by simp, HK.out.trans (Keeps.of_below _ HQ8.out)⟩
          case round =>
            obtain ⟨j, hj, rfl, hA, hK⟩ := hrel
            have HA9 := Lib.hid hA
            have HK9 := Lib.hid hK
            by_cases hlt : j < k8
            · have hlt' : (j : Int) < k8 := by omega
              have hold : Below w2.heap.size w2 wr := hK.below (by rw [HB5E.out]; exact HK25.out) (by rw [HB5E.out]; have := HLE.out; omega) fun j e => by rw [HB5E.out]; have := HLE.out; omega
              obtain ⟨g2, off2, rfl, hc⟩ := (HW8.out.keep hold).lie (by omega)
              have c0 := hc j hlt
              have hjl : j < (nxN l P).length := by rw [HKL8.out]; exact hlt
              obtain ⟨q0, hq0⟩ : ∃ q, (nxN l P)[j] = q := ⟨_, rfl⟩
              have hbq : byAt ((nxN l P).map Int.ofNat) j = (q0 : Int) := by
                rw [← byAt_eq (by rw [List.length_map]; exact hjl), List.getElem_map, hq0]; rfl
              rw [hbq] at c0
              have hqn : q0 < l.length := HWN.out.ins P q0 (by rw [← hq0]; exact List.getElem_mem _)
              have b0 := (HBX.out.kept hK (by omega)).cell 0
              have cv := hA.cell hqn
              have fv := hA.free q0
              have hbd : (beginN l.length).count q0 + (((T.ord.take p).flatMap (nxN l)).count q0 + ((nxN l P).take j).count q0) ≤ 50000 := by
                have h1 : (beginN l.length).count q0 ≤ 1 := Nat.le_trans List.count_le_length (by unfold beginN; rw [List.length_replicate]; omega)
                have h2 : ((T.ord.take p).flatMap (nxN l)).count q0 ≤ (T.ord.take p).length * 200 := Nat.le_trans List.count_le_length (flatMap_len HWN.out.few _)
                have h3 : (T.ord.take p).length ≤ 60 := by rw [List.length_take]; have := HOL.out.1; have := HN.out; omega
                have h4 : ((nxN l P).take j).count q0 ≤ 200 := Nat.le_trans List.count_le_length (by rw [List.length_take]; omega)
                have h5 := Nat.mul_le_mul_right 200 h3
                omega
              obtain ⟨v, hv⟩ : ∃ v : Nat, (beginN l.length).count q0 + (((T.ord.take p).flatMap (nxN l)).count q0 + ((nxN l P).take j).count q0) = v := ⟨_, rfl⟩
              rw [hv] at cv hbd
              have HN1 := Lib.hid (And.intro hv (cnt_up hjl hq0))
              have v0 : (0 : Int) ≤ (v : Int) := by omega
              have v1 : (v : Int) ≤ 50000 := by omega
              have hq' : (q0 : Int) < l.length := by omega
              clear hA hK hold hlt hjl hc hbq hqn hbd hv hq0
              go_wp2
              go_roundw
              case rel => exact ⟨j + 1, by omega, by go_num, (HA9.out.set q0 ((v : Int) + 1)).eq fun i _ => by
                unfold upn
                dsimp only
                have h1 := HN1.out.2 i
                have h2 := HN1.out.1
                split
                · rename_i e; subst e; rw [if_pos rfl] at h1; omega
                · rename_i e; rw [if_neg e] at h1; omega, HK9.out.trans (Keeps.set1 _ _ _ _)⟩
              case measure => simp [intOf]; omega
            · obtain rfl : j = k8 := by omega
              have HA10 := Lib.hid (show Ar .i32 21 br l.length (fun q => (((beginN l.length).count q + ((T.ord.take (p + 1)).flatMap (nxN l)).count q : Nat) : Int)) wr from hA.eq fun i _ => by
                rw [show (nxN l P).take j = nxN l P from List.take_of_length_le (by rw [HKL8.out]; omega), List.take_succ_eq_append_getElem HPL.out, List.flatMap_append, List.count_append, HPP.out.1]
                simp)
              clear hA hK hlt
              go_wp2
              go_roundw
              case rel => exact ⟨p + 1, by omega, by go_num, HA10.out, HK9.out⟩
              case measure => simp [intOf]; omega
        · obtain rfl : p = mo := by omega
          have HA3 := Lib.hid (show Ar .i32 21 br l.length (cycIn (nxN l) l.length T.ord) wr from hA.eq fun i _ => by
            unfold cycIn
            rw [List.take_of_length_le (by rw [HMO.out]; omega)])
          clear hA hK hlt HA HA2 HK6
          go_upto_region 18 with (fail)
          have HX8 := Lib.hid (HX2.out.kept HK.out (by have := HLE.out; omega))
          have HL8 := Lib.hid (HBX.out.kept HK.out (by omega))
          have HB8 := Lib.hid (show Below w.heap.size w wr from HK.out.below HB5.out HB5.out.size fun j e => by have := HLE.out; omega)
          have HBW8 := Lib.hid (show Below w2.heap.size w2 wr from HK.out.below (by rw [HB5E.out]; exact HK25.out) (by rw [HB5E.out]; have := HLE.out; omega) fun j e => by rw [HB5E.out]; have := HLE.out; omega)
          go_cut [12] (fun s12 wx => CycR l T br wr s12 wx)
          case first =>
            refine wp_region_freeK (Rl := Keeps fun j => j = br) (X := fun w' => Ar .i32 21 br l.length (cycIn (nxN l) l.length T.ord) w') (jx := 4) (fun _ => True) [(0, 0, 59, 8), (1, 0, 60, 8), (2, 2, 61, 576460752303423488), (3, 0, 62, 32), (4, 13, 63, 3746994889972252672), (5, 0, 13, 0), (6, 63, 0, 4611686018427392000)] 6 [(0, 58), (1, 59), (2, 60), (3, 61), (4, 62), (5, 12)] [(0, []), (1, []), (2, [(1, 59)]), (3, []), (4, [(0, 58), (2, 60), (3, 61)]), (5, [])] [(false, 6, 127)] []
              (fun i v w' => match i with
                | 0 => v = .agg #[.slice a1 m1 c1, .slice a2 (l.length + 1) c2]
                | 1 => v = .agg #[.slice a1 m1 c1, .slice a2 (l.length + 1) c2]
                | 2 => ∃ g k, v = .slice (some ⟨g, 0, none⟩) k k ∧ Ws .i32 w' (some ⟨g, 0, none⟩) k k (beginL l.length) ∧ W5.heap.size ≤ g ∧ g < w'.heap.size
                | 3 => v = .func (.func 29) #[] #[.pointer (some ⟨br + 1, 0, none⟩)]
                | 4 => ∃ T2, TripV w' wr.heap.size l.length v T2 ∧ CycT l T T2
                | 5 => ∃ b, v = .pointer (some ⟨b, 0, none⟩) ∧ BlkAt b 58 #[.slice none 0 0, .slice none 0 0, .slice none 0 0] w' ∧ wr.heap.size ≤ b
                | _ => True) (keepsOk _) HA3.out (by kernel_rfl) (by kernel_rfl) (by kernel_rfl) (by kernel_rfl) (by kernel_rfl) (fun _ _ => trivial) ?_ ?_ ?_ ?_
            · intro i v w1 w2 h hb
              match i, h with
              | 0, h | 1, h | 3, h => exact h
              | 2, ⟨g, k, e, h, h', h2⟩ => exact ⟨g, k, e, h.keep hb, h', Nat.lt_of_lt_of_le h2 hb.size⟩
              | 4, ⟨T2, h, h'⟩ => exact ⟨T2, h.keep hb, h'⟩
              | 5, ⟨b, e, h, h'⟩ => exact ⟨b, e, h.keep hb, h'⟩
              | _ + 6, _ => trivial
            · intro i v w1 w2 _ h hb
              have hle := HLE.out
              have hsz := HK.out.size
              match i, h with
              | 0, h | 1, h | 3, h => exact h
              | 2, ⟨g, k, e, h, h', h2⟩ => exact ⟨g, k, e, h.kept hb (fun b off q => by cases q; omega), h', Nat.lt_of_lt_of_le h2 hb.size⟩
              | 4, ⟨T2, h, h'⟩ => exact ⟨T2, h.kept hb fun j e => by omega, h'⟩
              | 5, ⟨b, e, h, h'⟩ => exact ⟨b, e, h.kept hb (by omega), h'⟩
              | _ + 6, _ => trivial
            · refine ⟨?_, ?_, ?_, ?_, ?_, ?_, trivial⟩
              · intro o ho vals w1 hb hd hne hxx
                cases ho
                have g0 := (BlkAt.kept (w := wr.drew) HX8.out hb (by have := HLE.out; omega)).cell 0
                have g1 := (BlkAt.kept (w := wr.drew) HX8.out hb (by have := HLE.out; omega)).cell 1
                exact .val (v := .agg #[.slice a1 m1 c1, .slice a2 (l.length + 1) c2]) (w' := w1) (by simp [frA, execOp, Act.eval, go_sem, g0, g1]) ⟨rfl, Keeps.refl _ _, fun q => by simp at q, fun _ => ⟨Below.refl _ _, fun h => h⟩⟩
              · intro o ho vals w1 hb hd hne hxx
                cases ho
                have g0 := (BlkAt.kept (w := wr.drew) HX8.out hb (by have := HLE.out; omega)).cell 0
                have g1 := (BlkAt.kept (w := wr.drew) HX8.out hb (by have := HLE.out; omega)).cell 1
                exact .val (v := .agg #[.slice a1 m1 c1, .slice a2 (l.length + 1) c2]) (w' := w1) (by simp [frA, execOp, Act.eval, go_sem, g0, g1]) ⟨rfl, Keeps.refl _ _, fun q => by simp at q, fun _ => ⟨Below.refl _ _, fun h => h⟩⟩
              · intro o ho vals w1 hb hd hne hxx
                cases ho
                have e0 : vals 1 = _ := hd (1, 59) (.head _)
                refine .call (f := 26) (vs := #[.agg #[.slice a1 m1 c1, .slice a2 (l.length + 1) c2]]) (by simp [frA, execOp, Act.put, Act.eval, go_sem, e0]) ((graBegin_is (w := w1) (n := l.length) _ _ _ (by omega)).mono ?_)
                rintro e w' ⟨g, k, rfl, h1, h2, h3, hq⟩
                have hsz := HK.out.size
                have hsb := hb.size
                simp only [World.drew] at hsb
                exact ⟨_, rfl, ⟨g, k, rfl, h1, by omega, h3⟩, Keeps.of_below _ hq, fun q => by simp at q, fun _ => ⟨hq, fun h => h.keep hq⟩⟩
              · intro o ho vals w1 hb hd hne hxx
                cases ho
                exact .val (v := .func (.func 29) #[] #[.pointer (some ⟨br + 1, 0, none⟩)]) (w' := w1) (by simp [frA, execOp, Act.eval, go_sem]) ⟨rfl, Keeps.refl _ _, fun q => by simp at q, fun _ => ⟨Below.refl _ _, fun h => h⟩⟩
              · intro o ho vals w1 hb hd hne hxx
                cases ho
                have e3 : vals 3 = _ := hd (3, 61) (.tail _ (.tail _ (.head _)))
                have e0 : vals 0 = _ := hd (0, 58) (.head _)
                obtain ⟨g, k, e2, h2, h2', h3⟩ := hd (2, 60) (.tail _ (.head _))
                simp only at e2
                rw [beginN_is] at h2
                obtain ⟨L, hL1, hL2, hL3⟩ := HWN.out.ex
                have hle := HLE.out
                have hsz := HK.out.size
                have hsb := hb.size
                simp only [World.drew] at hsb
                have hold : Below w2.heap.size w2 w1 := (show Keeps (fun j => j = br) wr w1 from (Keeps.of_below _ (Below.refl _ _).drew).trans hb).below HBW8.out HBW8.out.size fun j e => by rw [HB5E.out]; omega
                have hlx : BlkAt (br + 1) 23 #[.slice (some ⟨br, 0, none⟩) l.length l.length] w1 := BlkAt.kept (w := wr.drew) HL8.out hb (by omega)
                refine .call (f := 28) (vs := #[.agg #[.slice a1 m1 c1, .slice a2 (l.length + 1) c2], .slice (some ⟨g, 0, none⟩) k k, .func (.func 29) #[] #[.pointer (some ⟨br + 1, 0, none⟩)]]) (by simp [frA, execOp, Act.put, Act.eval, go_sem, e0, e2, e3])
                  ((graWalk_is (w := w1) (mayCyc (n := l.length) (B := w1.heap.size) (bl := br + 1) (br := br) HN.out (by omega) (by omega)) hL1 hold hL2 hL3 HWN.out.ins HWN.out.few HN.out (fun j e => by rw [HB5E.out]; omega) HWN.out.lt h2 (fun b' off q => by
                    simp only [Option.some.injEq, Addr.mk.injEq] at q
                    rw [← q.1]; exact ⟨by omega, h3⟩) (fun x hx => by
                      unfold beginN at hx
                      have h9 := List.eq_of_mem_replicate hx
                      have h8 : (List.replicate (min l.length 1) 0).length ≠ 0 := fun e => by
                        rw [List.eq_nil_of_length_eq_zero e] at hx; cases hx
                      rw [List.length_replicate] at h8
                      omega) (by unfold beginN; rw [List.length_replicate]; omega) (s := cycIn (nxN l) l.length T.ord) ⟨hlx, hxx rfl⟩).mono ?_)
                rintro e w' ⟨v, s', T2, rfl, h4, h5, h6, -, h7⟩
                exact ⟨_, rfl, ⟨T2, h4.mono (show wr.heap.size ≤ w1.heap.size by omega), s', h5, h6⟩, h7, fun q => by simp at q, fun q => absurd rfl q⟩
              · intro o ho vals w1 hb hd hne hxx
                cases ho
                exact .val (v := .pointer (some ⟨w1.heap.size, 0, none⟩)) (by simp [execOp, go_sem]) ⟨⟨_, rfl, BlkAt.new _ _ _, hb.size⟩, Keeps.of_below _ ((Below.refl _ _).alloc (Nat.le_refl _) _), fun q => by simp at q, fun _ => ⟨(Below.refl _ _).alloc (Nat.le_refl _) _, fun h => h.keep ((Below.refl _ _).alloc (Nat.le_refl _) _)⟩⟩
            · intro vals ax w1 hI
              have e := hI.frame (by kernel_rfl) (by kernel_rfl)
              subst e
              have e0 : vals 0 = _ := hI.psi 0 (by omega) (by decide)
              have e1 : vals 1 = _ := hI.psi 1 (by omega) (by decide)
              have e3 : vals 3 = _ := hI.psi 3 (by omega) (by decide)
              obtain ⟨T2, h1, h2⟩ := hI.psi 4 (by omega) (by decide)
              obtain ⟨b, e5, h51, h52⟩ := hI.psi 5 (by omega) (by decide)
              have hbc : ∀ bb ∈ [b], True := fun _ _ => trivial
              obtain ⟨bc9, bf9, ao9, co9, e4⟩ := h1.form
              have HI := Lib.hid hI
              generalize vals 2 = v2 at *
              have f0 := h51.free 0
              have f1 := h51.free 1
              have f2 := h51.free 2
              have y0 := h51.cell 0
              have y1 := h51.cell 1
              have y2 := h51.cell 2
              have HT := Lib.hid (And.intro h1 (And.intro h2 (And.intro h51 h52)))
              clear h1 h2 hI h51 h52
              refine SeqH.step rfl rfl fun K hK => ?_
              simp only [frA, List.foldl, e0, e1, e3, e4, e5]
              go_simp
              refine hK _ _ trivial (SeqH.done (NoPanic.normal ?_))
              go_wp2_with fail
              go_meet
              have kx : Keeps (fun j => j = b) w1 (((w1.setCell ⟨b, 0, none⟩ (.slice (some ⟨bc9, 0, none⟩) (szS l.length) (szS l.length))).setCell ⟨b, 1, none⟩ (.slice ao9 T2.ord.length co9)).setCell ⟨b, 2, none⟩ (.slice (some ⟨bf9, 0, none⟩) l.length l.length)) := ((Keeps.set1 _ _ _ _).trans (Keeps.set1 _ _ _ _)).trans (Keeps.set1 _ _ _ _)
              have hb0 : Keeps (fun j => j = br) wr w1 := (Keeps.of_below _ (Below.refl _ _).drew).trans HI.out.below
              exact ⟨b, T2, bc9, bf9, ao9, co9, rfl, (((HT.out.2.2.1.set 0 _).set 1 _).set 2 _).eq rfl, HT.out.2.1, HT.out.2.2.2, hb0.next kx fun j hj e => by have := HT.out.2.2.2; omega⟩
          case rest =>
            obtain ⟨b, T2, bc9, bf9, ao9, co9, rfl, h1, h2, h3, h4⟩ := hcut
            have y1 := h1.cell 1
            have hlt : b < wc.heap.size := h1.lt
            have HH := Lib.hid (And.intro h2 (And.intro h3 h4))
            clear h1 h2 h3 h4
            go_wp2_with fail
            go_ret
            obtain ⟨s2, g1, g2⟩ := HH.out.1
            refine ⟨⟨T, s2, T2, ?_, HP.out, g1, g2⟩, HH.out.2.2.below HB8.out HB8.out.size fun j e => by have := HLE.out; omega⟩
            rw [HMO.out]
            rfl
/-- Can a place be come to from itself? -/
noncomputable def cycB (l : List Int) : Bool := @decide (∃ p, Gra.Came (nxN l) (fun _ => true) (beginN l.length) p ∧ ∃ q ∈ nxN l p, Gra.Came (nxN l) (fun _ => true) [q] p) (Classical.propDecidable _)
theorem cycB_iff {l : List Int} : cycB l = true ↔ ∃ p, Gra.Came (nxN l) (fun _ => true) (beginN l.length) p ∧ ∃ q ∈ nxN l p, Gra.Came (nxN l) (fun _ => true) [q] p := by
  unfold cycB
  exact ⟨fun h => @of_decide_eq_true _ (Classical.propDecidable _) h, fun h => @decide_eq_true _ (Classical.propDecidable _) h⟩
theorem fw_came {N : Nat → List Nat} {ok : Nat → Prop} {l0 : List Nat} {x y : Nat} (h : Gra.Fw (fun x z => z ∈ N x) ok x y) (hx : Gra.Came N (fun _ => true) l0 x) : Gra.Came N (fun _ => true) l0 y := by
  induction h with
  | nil _ => exact hx
  | cons _ e _ ih => exact ih (.next hx e rfl)
theorem came_fw {N : Nat → List Nat} {ok : Nat → Prop} {q y : Nat} (hok : ∀ x, ok x → ∀ z ∈ N x, ok z) (hq : ok q) (h : Gra.Came N (fun _ => true) [q] y) : Gra.Fw (fun x z => z ∈ N x) ok q y := by
  induction h with
  | start h _ => obtain rfl := List.mem_singleton.1 h; exact .nil hq
  | next _ e _ ih => exact ih.snoc e (hok _ ih.lst _ e)
theorem cyc_is {l : List Int} {s2 : Nat → Int} {T T2 : Gra.Tr} (hn : l.length ≤ 60) (hP : PureT (fun _ => true) (nxN l) (beginN l.length) T) (he : T2.st = [])
    (hg : Gra.GoT Gra.cycM Gra.cycS (nxN l) ((Gra.waitS Gra.cycM Gra.cycS (fun _ => false) (-1) (beginN l.length) (cycIn (nxN l) l.length T.ord) []).1, Gra.startT (Gra.waitS Gra.cycM Gra.cycS (fun _ => false) (-1) (beginN l.length) (cycIn (nxN l) l.length T.ord) []).2) (s2, T2)) :
    decide (T2.ord.length < T.ord.length) = cycB l := by
  have h1 := Gra.GoP.came (mv := fun _ => true) (N := nxN l) (l0 := beginN l.length) hP.2 hP.1
  have hc : ∀ x, x ∈ T.ord ↔ Gra.Came (nxN l) (fun _ => true) (beginN l.length) x := fun x => (h1.2.2 x).trans (h1.1 x)
  rcases Nat.eq_zero_or_pos l.length with h0 | h0
  · have hno : ∀ x, ¬ Gra.Came (nxN l) (fun _ => true) (beginN l.length) x := fun x h => by have := came_lt h; omega
    have e1 : T.ord = [] := List.eq_nil_iff_forall_not_mem.2 fun x hx => hno x ((hc x).1 hx)
    have e2 : cycB l = false := by
      cases h : cycB l with
      | false => rfl
      | true => obtain ⟨p, hp, _⟩ := cycB_iff.1 h; exact absurd hp (hno p)
    rw [e1, e2]
    simp
  · have hb : beginN l.length = [0] := by unfold beginN; rw [Nat.min_eq_right h0]; rfl
    have hO2 : ∀ x ∈ T.ord, ∀ q ∈ nxN l x, q ∈ T.ord := fun x hx q hq => (hc q).2 (.next ((hc x).1 hx) hq rfl)
    have hlt : ∀ x ∈ T.ord, x < l.length := fun x hx => came_lt ((hc x).1 hx)
    have hlen : T.ord.length ≤ 60 := Nat.le_trans (Gra.nodup_lt h1.2.1 hlt) hn
    rw [hb] at hg
    have hst := Gra.kahn_start (N := nxN l) (O := T.ord) (f := -1) ((hc 0).2 (.start (by rw [hb]; simp) rfl)) (fun q hq h0 => by
      have := (hc q).1 hq
      cases this with
      | start h _ => rw [hb] at h; exact absurd (List.mem_singleton.1 h) h0
      | next hp h _ => exact ⟨_, (hc _).2 hp, h⟩) (fun q => by
      have h2 : (T.ord.flatMap (nxN l)).count q ≤ T.ord.length * 200 := Nat.le_trans List.count_le_length (flatMap_len (fun p => by
        unfold nxN
        split
        · rw [List.length_map]; have := nxl_len l p; omega
        · simp) _)
      have := Nat.mul_le_mul_right 200 hlen
      omega) (s0 := cycIn (nxN l) l.length T.ord) fun q => by unfold cycIn; rw [hb]
    have hK := Gra.GoT.ind (I := fun s T2 => Gra.KahnI (nxN l) T.ord s T2) hg hst fun s T2 st0 f x h e => h.step h1.2.1 hO2 e
    have hfin := Gra.kahn_cyc h1.2.1 hlt hO2 hK he
    rw [Bool.eq_iff_iff, decide_eq_true_iff, hfin, cycB_iff]
    constructor
    · rintro ⟨p, hp, q, hq, hw⟩
      exact ⟨p, (hc p).1 hp, q, hq, fw_came hw (.start (by simp) rfl)⟩
    · rintro ⟨p, hp, q, hq, hw⟩
      exact ⟨p, (hc p).2 hp, q, hq, came_fw hO2 (hO2 p ((hc p).2 hp) q hq) hw⟩
theorem graCyclic_c {l : List Int} {a : Option Addr} {c : Nat} {w : World} (h : Ws .u32 w a l.length c l) (hn : l.length ≤ 60) (hs : ShapesLaid w) (hb : ∀ i, i < l.length → 0 ≤ byAt l i ∧ byAt l i < 4294967296) :
    Calls Tryz.prog 11 #[.slice a l.length c] w fun e w' => e = .returned (.bool (cycB l)) ∧ Below w.heap.size w w' := by
  refine (graCyclic_is h hn hs hb).mono ?_
  rintro e w' ⟨⟨T, s2, T2, rfl, h1, h2, h3⟩, h4⟩
  rw [cyc_is hn h1 h2 h3]
  exact ⟨rfl, h4⟩

end Go.Proofs.YtggiaopdgijgnaaGreatDoor
