/- Package graph: the walks to all places, and to all past one. Conditions: ways lie in memory; no more than 60 places. -/
import Derived.Test.YtggiaopdgijgnaaDoorGraK
namespace Go.Proofs.YtggiaopdgijgnaaDoor
open Go.RowKit Go.IntWalk

/-- Ways in memory that walks may go. -/
structure WayN (w : World) (a : Option Addr) (m c : Nat) (a' : Option Addr) (c' n : Nat) (N : Nat → List Nat) : Prop where
  ex : ∃ L, WayG w a m c a' (n + 1) c' L ∧ L.length = n ∧ ∀ p, p < n → el L p = (N p).map Int.ofNat
  ins : ∀ p q, q ∈ N p → q < n
  few : ∀ p, (N p).length ≤ 200
  lt : ∀ b off, a = some ⟨b, off, none⟩ → b < w.heap.size
/-- Where each place leads. -/
def nxN (l : List Int) (p : Nat) : List Nat := if p < l.length then (nxl l p).map Int.toNat else []
theorem nxN_back {l : List Int} {p : Nat} (h : p < l.length) : (nxN l p).map Int.ofNat = nxl l p := by
  unfold nxN
  rw [if_pos h, List.map_map]
  conv => rhs; rw [← List.map_id (nxl l p)]
  apply List.map_congr_left
  intro q hq
  have := nxl_in hq
  simp only [Function.comp, id]
  show ((q.toNat : Nat) : Int) = q
  omega
theorem nxN_in {l : List Int} {p q : Nat} (h : q ∈ nxN l p) : q < l.length := by
  unfold nxN at h
  split at h
  · obtain ⟨x, hx, rfl⟩ := List.mem_map.1 h
    have := nxl_in hx
    omega
  · cases h
theorem nxN_mem {l : List Int} {p q : Nat} : q ∈ nxN l p ↔ p < l.length ∧ (q : Int) ∈ nxl l p := by
  constructor
  · intro h
    unfold nxN at h
    split at h
    · rename_i hp
      obtain ⟨x, hx, rfl⟩ := List.mem_map.1 h
      have := nxl_in hx
      exact ⟨hp, by rw [Int.toNat_of_nonneg this.1]; exact hx⟩
    · cases h
  · rintro ⟨hp, h⟩
    unfold nxN
    rw [if_pos hp]
    exact List.mem_map.2 ⟨_, h, by simp⟩
theorem wayL_el (l : List Int) {n p : Nat} (h : p < n) : el (wayL l n) p = nxl l p := by
  unfold el wayL
  rw [List.getD_eq_getElem?_getD, List.getElem?_map, List.getElem?_range h]
  rfl
theorem WaysV.ways {w : World} {v : Value} {l : List Int} (h : WaysV w v (wayL l l.length)) : ∃ a m c a' c', v = .agg #[.slice a m c, .slice a' (l.length + 1) c'] ∧ WaysAt w a m c a' (l.length + 1) c' (wayL l l.length) ∧ WayN w a m c a' c' l.length (nxN l) := by
  obtain ⟨a, m, c, a', n1, c', rfl, hw, hlt⟩ := h
  have hn := hw.len
  rw [wayL_len] at hn
  subst hn
  refine ⟨a, m, c, a', c', rfl, hw, ⟨_, hw.g, wayL_len _ _, fun p hp => ?_⟩, fun p q h => nxN_in h, fun p => ?_, hlt⟩
  · rw [wayL_el l hp, nxN_back hp]
  · unfold nxN
    split
    · have := nxl_len l p
      rw [List.length_map]; omega
    · simp
/-- What a walk comes to that asks always the same. -/
def PureT (mv : Nat → Bool) (N : Nat → List Nat) (l : List Nat) (T : Gra.Tr) : Prop :=
  T.st = [] ∧ Gra.GoT (σ := Unit) (fun _ p => mv p) (fun _ _ => ()) N ((), Gra.startT (Gra.waitS (σ := Unit) (fun _ p => mv p) (fun _ _ => ()) (fun _ => false) (-1) l () []).2) ((), T)
def beginN (n : Nat) : List Nat := List.replicate (min n 1) 0
theorem beginN_is (n : Nat) : beginL n = (beginN n).map Int.ofNat := by simp [beginL, beginN]
theorem TripV.keep {w w' : World} {base n : Nat} {v : Value} {T : Gra.Tr} (h : TripV w base n v T) (k : Below w.heap.size w w') : TripV w' base n v T := by
  obtain ⟨bc, bf, bo, ov, e, h1, h2, h3, h4⟩ := h
  exact ⟨bc, bf, bo, ov, e, h1.keep k, h2.keep k, h3.keep k, h4⟩
theorem TripV.mono {w : World} {base base' n : Nat} {v : Value} {T : Gra.Tr} (h : TripV w base n v T) (k : base' ≤ base) : TripV w base' n v T := by
  obtain ⟨bc, bf, bo, ov, e, h1, h2, h3, h4, h5, h6, h7⟩ := h
  exact ⟨bc, bf, bo, ov, e, h1, h2, h3, by omega, by omega, h6, by omega⟩
theorem TripV.kept {F : Nat → Prop} {w w' : World} {base n : Nat} {v : Value} {T : Gra.Tr} (h : TripV w base n v T) (k : Keeps F w w') (hF : ∀ j, F j → j < base) : TripV w' base n v T := by
  obtain ⟨bc, bf, bo, ov, e, h1, h2, h3, h4, h5, h6, h7⟩ := h
  exact ⟨bc, bf, bo, ov, e, h1.kept k fun q => by have := hF _ q; omega, h2.kept k fun j e q => by have := (h2.lt j e).1; have := hF _ q; omega, h3.kept k fun q => by have := hF _ q; omega, h4, h5, h6, h7⟩
/-- What is asked of each place to which a way leads, when all may be come to. -/
theorem mayAll (n B : Nat) : MayAt 44 #[] n B (fun _ => False) (fun (_ : Unit) _ => True) (fun _ _ => true) (fun _ _ => ()) where
  ask s w p hp _ := by
    show Calls Tryd.prog 44 #[.int .i32 p] w _
    go_enter Tryd.func44, Tryd.ntmps44
    go_wp2
    go_ret
    exact ⟨rfl, trivial, Keeps.refl _ _⟩
  keep _ _ _ _ _ := trivial
  lt _ h := h.elim
  cf _ _ := by kernel_rfl
theorem mayPast {n B bx : Nat} {q : Int} (hn : n ≤ 60) (hb : bx < B) : MayAt 45 #[.pointer (some ⟨bx, 0, none⟩)] n B (fun _ => False) (fun (_ : Unit) w => BlkAt bx 3 #[.int .i64 q] w) (fun _ p => decide ((p : Int) ≠ q)) (fun _ _ => ()) where
  ask s w p hp h := by
    show Calls Tryd.prog 45 #[.int .i32 p, .pointer (some ⟨bx, 0, none⟩)] w _
    have c0 := h.cell 0
    have hw : IntKind.i64.wrap (p : Int) = (p : Int) := IntWalk.i64_in _ (by omega)
    have H := Lib.hid h
    clear h
    go_enter Tryd.func45, Tryd.ntmps45
    go_wp2
    go_ret
    exact ⟨by by_cases h : (p : Int) = q <;> simp [h], H.out, Keeps.refl _ _⟩
  keep _ _ _ h k := (k.block bx hb).trans h
  lt _ h := h.elim
  cf _ _ := by kernel_rfl
/-- A walk's trip, its parts told. -/
theorem TripV.form {w : World} {base n : Nat} {v : Value} {T : Gra.Tr} (h : TripV w base n v T) : ∃ bc bf ao co, v = .agg #[.slice (some ⟨bc, 0, none⟩) (szS n) (szS n), .slice ao T.ord.length co, .slice (some ⟨bf, 0, none⟩) n n] := by
  obtain ⟨bc, bf, bo, ov, rfl, -, h2, -⟩ := h
  obtain ⟨ao, co, rfl, -⟩ := h2.wsn (m := T.ord.length) (by simp)
  exact ⟨bc, bf, ao, co, rfl⟩
set_option maxRecDepth 100000 in
set_option maxHeartbeats 4000000 in
theorem graAll_is {w0 w : World} {a : Option Addr} {m c : Nat} {a' : Option Addr} {c' n : Nat} {N : Nat → List Nat} (hW : WayN w0 a m c a' c' n N) (hold : Below w0.heap.size w0 w) (hn : n ≤ 60) :
    Calls Tryd.prog 26 #[.agg #[.slice a m c, .slice a' (n + 1) c']] w fun e w' => ∃ v T, e = .returned v ∧ TripV w' w.heap.size n v T ∧ PureT (fun _ => true) N (beginN n) T ∧ Below w.heap.size w w' := by
  have HW := Lib.hid hW
  have HOLD := Lib.hid hold
  clear hW hold
  go_enter Tryd.func26, Tryd.ntmps26
  go_upto_region 1 with (fail)
  obtain ⟨W0, hW0⟩ : ∃ W0, (w.alloc (.cells #[.slice a m c, .slice a' (n + 1) c'] 51)).alloc (.cells #[.slice none 0 0, .slice none 0 0, .slice none 0 0] 49) = W0 := ⟨_, rfl⟩
  rw [hW0]
  have HX := Lib.hid (show BlkAt w.heap.size 51 #[.slice a m c, .slice a' (n + 1) c'] W0 from hW0 ▸ (BlkAt.new w _ _).al _)
  have HR0 := Lib.hid (show BlkAt (w.heap.size + 1) 49 #[.slice none 0 0, .slice none 0 0, .slice none 0 0] W0 from hW0 ▸ BlkAt.newb _ _ _ (by simp))
  have HB0 := Lib.hid (show Below w.heap.size w W0 from hW0 ▸ ((Below.refl _ _).alloc (Nat.le_refl _) _).alloc (by simp) _)
  clear hW0
  refine wp_region_free (fun _ => True) [(0, 0, 4, 2), (1, 0, 5, 2), (2, 2, 6, 16), (3, 5, 7, 40), (4, 15, 0, 68)] 4 [(0, 3), (1, 4), (2, 5), (3, 6)] [(0, []), (1, []), (2, [(1, 4)]), (3, [(0, 3), (2, 5)])] [(false, 4, 31)] []
    (fun i v w' => match i with
      | 0 => v = .agg #[.slice a m c, .slice a' (n + 1) c']
      | 1 => v = .agg #[.slice a m c, .slice a' (n + 1) c']
      | 2 => ∃ g k, v = .slice (some ⟨g, 0, none⟩) k k ∧ Ws .i32 w' (some ⟨g, 0, none⟩) k k (beginL n) ∧ g < w'.heap.size
      | 3 => ∃ T, TripV w' W0.heap.size n v T ∧ PureT (fun _ => true) N (beginN n) T
      | _ => True) (by kernel_rfl) (by kernel_rfl) (by kernel_rfl) (by kernel_rfl) (by kernel_rfl) (fun _ _ => trivial) ?_ ?_ ?_
  · intro i v w1 w2 h hb
    match i, h with
    | 0, h | 1, h => exact h
    | 2, ⟨g, k, e, h, h'⟩ => exact ⟨g, k, e, h.keep hb, Nat.lt_of_lt_of_le h' hb.size⟩
    | 3, ⟨T, h, h'⟩ => exact ⟨T, h.keep hb, h'⟩
    | _ + 4, _ => trivial
  · refine ⟨?_, ?_, ?_, ?_, trivial⟩
    · intro o ho vals w1 hb hd hne
      cases ho
      have g0 := (BlkAt.keep (w := W0.drew) HX.out hb).cell 0
      have g1 := (BlkAt.keep (w := W0.drew) HX.out hb).cell 1
      exact .val (v := .agg #[.slice a m c, .slice a' (n + 1) c']) (w' := w1) (by simp [frA, execOp, Act.eval, go_sem, g0, g1]) ⟨rfl, Below.refl _ _, fun q => by simp at q⟩
    · intro o ho vals w1 hb hd hne
      cases ho
      have g0 := (BlkAt.keep (w := W0.drew) HX.out hb).cell 0
      have g1 := (BlkAt.keep (w := W0.drew) HX.out hb).cell 1
      exact .val (v := .agg #[.slice a m c, .slice a' (n + 1) c']) (w' := w1) (by simp [frA, execOp, Act.eval, go_sem, g0, g1]) ⟨rfl, Below.refl _ _, fun q => by simp at q⟩
    · intro o ho vals w1 hb hd hne
      cases ho
      have e0 : vals 1 = _ := hd (1, 4) (.head _)
      refine .call (f := 38) (vs := #[.agg #[.slice a m c, .slice a' (n + 1) c']]) (by simp [frA, execOp, Act.put, Act.eval, go_sem, e0]) ((graBegin_is (w := w1) (n := n) _ _ _ (by omega)).mono ?_)
      rintro e w' ⟨g, k, rfl, h1, h2, h3, hq⟩
      exact ⟨_, rfl, ⟨g, k, rfl, h1, h3⟩, hq, fun q => by simp at q⟩
    · intro o ho vals w1 hb hd hne
      cases ho
      have e0 : vals 0 = _ := hd (0, 3) (.head _)
      obtain ⟨g, k, e2, h2, h3⟩ := hd (2, 5) (.tail _ (.head _))
      simp only at e2
      have hbw : Below w.heap.size w w1 := HB0.out.trans (((Below.refl W0.heap.size W0).drew.trans hb).mono HB0.out.size)
      rw [beginN_is] at h2
      obtain ⟨L, hL1, hL2, hL3⟩ := HW.out.ex
      refine .call (f := 35) (vs := #[.agg #[.slice a m c, .slice a' (n + 1) c'], .slice (some ⟨g, 0, none⟩) k k, .func (.func 44) #[] #[]]) (by simp [frA, execOp, Act.put, Act.eval, go_sem, e0, e2])
        ((graWalk_is (w := w1) (mayAll n _) hL1 (HOLD.out.trans (hbw.mono HOLD.out.size)) hL2 hL3 HW.out.ins HW.out.few hn (fun _ h => h.elim) HW.out.lt h2 (fun b' off q => ⟨id, by
          simp only [Option.some.injEq, Addr.mk.injEq] at q
          rw [← q.1]; exact h3⟩) (fun x hx => by
            unfold beginN at hx
            have h9 := List.eq_of_mem_replicate hx
            have h8 : (List.replicate (min n 1) 0).length ≠ 0 := fun e => by
              rw [List.eq_nil_of_length_eq_zero e] at hx; cases hx
            rw [List.length_replicate] at h8
            omega) (by unfold beginN; rw [List.length_replicate]; omega) (s := ()) trivial).mono ?_)
      rintro e w' ⟨v, s', T, rfl, h4, h5, h6, -, h7⟩
      have hq := h7.nought
      exact ⟨_, rfl, ⟨T, h4.mono (show W0.heap.size ≤ w1.heap.size from hb.size), h5, h6⟩, hq, fun q => by simp at q⟩
  · intro vals a1 w1 hI
    have e := hI.frame (by kernel_rfl) (by kernel_rfl)
    subst e
    have e0 : vals 0 = _ := hI.psi 0 (by omega) (by decide)
    have e1 : vals 1 = _ := hI.psi 1 (by omega) (by decide)
    obtain ⟨T, h1, h2⟩ := hI.psi 3 (by omega) (by decide)
    obtain ⟨bc, bf, ao, co, e3⟩ := h1.form
    have HI := Lib.hid hI
    generalize vals 2 = v2 at *
    have hr := BlkAt.keep (w := W0.drew) HR0.out hI.below
    have f0 := hr.free 0
    have f1 := hr.free 1
    have f2 := hr.free 2
    have y0 := hr.cell 0
    have y1 := hr.cell 1
    have y2 := hr.cell 2
    have HT := Lib.hid (And.intro h1 h2)
    clear h1 h2 hI
    refine SeqH.step rfl rfl fun K hK => ?_
    simp only [frA, List.foldl, e0, e1, e3]
    go_simp
    refine hK _ _ trivial (SeqH.done (NoPanic.normal ?_))
    go_wp2_with fail
    refine bodyPost_ret (v := .agg #[.slice (some ⟨bc, 0, none⟩) (szS n) (szS n), .slice ao T.ord.length co, .slice (some ⟨bf, 0, none⟩) n n]) (by simp [results, Tryd.results26, go_sem, y0, y1, y2]) rfl ?_
    have hb1 : Below W0.heap.size W0 w1 := (Below.refl _ _).drew.trans HI.out.below
    have kx : Keeps (fun j => j = w.heap.size + 1) w1 (((w1.setCell ⟨w.heap.size + 1, 0, none⟩ (.slice (some ⟨bc, 0, none⟩) (szS n) (szS n))).setCell ⟨w.heap.size + 1, 1, none⟩ (.slice ao T.ord.length co)).setCell ⟨w.heap.size + 1, 2, none⟩ (.slice (some ⟨bf, 0, none⟩) n n)) := ((Keeps.set1 _ _ _ _).trans (Keeps.set1 _ _ _ _)).trans (Keeps.set1 _ _ _ _)
    have hlt := HR0.out.lt
    exact ⟨_, T, rfl, (e3 ▸ HT.out.1.kept kx fun j e => by omega).mono (by omega), HT.out.2, kx.below (HB0.out.trans (hb1.mono HB0.out.size)) (Nat.le_trans HB0.out.size hb1.size) fun j e => by omega⟩
set_option maxRecDepth 100000 in
set_option maxHeartbeats 4000000 in
theorem graPast_is {q : Int} {w0 w : World} {a : Option Addr} {m c : Nat} {a' : Option Addr} {c' n : Nat} {N : Nat → List Nat} (hW : WayN w0 a m c a' c' n N) (hold : Below w0.heap.size w0 w) (hn : n ≤ 60) :
    Calls Tryd.prog 29 #[.agg #[.slice a m c, .slice a' (n + 1) c'], .int .i64 q] w fun e w' => ∃ v T, e = .returned v ∧ TripV w' w.heap.size n v T ∧ PureT (fun p => decide ((p : Int) ≠ q)) N (beginN n) T ∧ Below w.heap.size w w' := by
  have HW := Lib.hid hW
  have HOLD := Lib.hid hold
  clear hW hold
  go_enter Tryd.func29, Tryd.ntmps29
  go_upto_region 1 with (fail)
  obtain ⟨W0, hW0⟩ : ∃ W0, ((w.alloc (.cells #[.slice a m c, .slice a' (n + 1) c'] 51)).alloc (.cells #[.int .i64 q] 3)).alloc (.cells #[.slice none 0 0, .slice none 0 0, .slice none 0 0] 49) = W0 := ⟨_, rfl⟩
  rw [hW0]
  have HX := Lib.hid (show BlkAt w.heap.size 51 #[.slice a m c, .slice a' (n + 1) c'] W0 from hW0 ▸ ((BlkAt.new w _ _).al _).al _)
  have HQ0 := Lib.hid (show BlkAt (w.heap.size + 1) 3 #[.int .i64 q] W0 from hW0 ▸ (BlkAt.newb _ _ _ (by simp)).al _)
  have HR0 := Lib.hid (show BlkAt (w.heap.size + 1 + 1) 49 #[.slice none 0 0, .slice none 0 0, .slice none 0 0] W0 from hW0 ▸ BlkAt.newb _ _ _ (by simp))
  have HB0 := Lib.hid (show Below w.heap.size w W0 from hW0 ▸ (((Below.refl _ _).alloc (Nat.le_refl _) _).alloc (by simp) _).alloc (by simp; omega) _)
  clear hW0
  refine wp_region_free (fun _ => True) [(0, 0, 6, 4), (1, 0, 7, 4), (2, 2, 8, 64), (3, 0, 9, 8), (4, 13, 10, 416), (5, 31, 0, 528)] 5 [(0, 5), (1, 6), (2, 7), (3, 8), (4, 9)] [(0, []), (1, []), (2, [(1, 6)]), (3, []), (4, [(0, 5), (2, 7), (3, 8)])] [(false, 5, 63)] []
    (fun i v w' => match i with
      | 0 => v = .agg #[.slice a m c, .slice a' (n + 1) c']
      | 1 => v = .agg #[.slice a m c, .slice a' (n + 1) c']
      | 2 => ∃ g k, v = .slice (some ⟨g, 0, none⟩) k k ∧ Ws .i32 w' (some ⟨g, 0, none⟩) k k (beginL n) ∧ g < w'.heap.size
      | 3 => v = .func (.func 45) #[] #[.pointer (some ⟨w.heap.size + 1, 0, none⟩)]
      | 4 => ∃ T, TripV w' W0.heap.size n v T ∧ PureT (fun p => decide ((p : Int) ≠ q)) N (beginN n) T
      | _ => True) (by kernel_rfl) (by kernel_rfl) (by kernel_rfl) (by kernel_rfl) (by kernel_rfl) (fun _ _ => trivial) ?_ ?_ ?_
  · intro i v w1 w2 h hb
    match i, h with
    | 0, h | 1, h | 3, h => exact h
    | 2, ⟨g, k, e, h, h'⟩ => exact ⟨g, k, e, h.keep hb, Nat.lt_of_lt_of_le h' hb.size⟩
    | 4, ⟨T, h, h'⟩ => exact ⟨T, h.keep hb, h'⟩
    | _ + 5, _ => trivial
  · refine ⟨?_, ?_, ?_, ?_, ?_, trivial⟩
    · intro o ho vals w1 hb hd hne
      cases ho
      have g0 := (BlkAt.keep (w := W0.drew) HX.out hb).cell 0
      have g1 := (BlkAt.keep (w := W0.drew) HX.out hb).cell 1
      exact .val (v := .agg #[.slice a m c, .slice a' (n + 1) c']) (w' := w1) (by simp [frA, execOp, Act.eval, go_sem, g0, g1]) ⟨rfl, Below.refl _ _, fun q => by simp at q⟩
    · intro o ho vals w1 hb hd hne
      cases ho
      have g0 := (BlkAt.keep (w := W0.drew) HX.out hb).cell 0
      have g1 := (BlkAt.keep (w := W0.drew) HX.out hb).cell 1
      exact .val (v := .agg #[.slice a m c, .slice a' (n + 1) c']) (w' := w1) (by simp [frA, execOp, Act.eval, go_sem, g0, g1]) ⟨rfl, Below.refl _ _, fun q => by simp at q⟩
    · intro o ho vals w1 hb hd hne
      cases ho
      have e0 : vals 1 = _ := hd (1, 6) (.head _)
      refine .call (f := 38) (vs := #[.agg #[.slice a m c, .slice a' (n + 1) c']]) (by simp [frA, execOp, Act.put, Act.eval, go_sem, e0]) ((graBegin_is (w := w1) (n := n) _ _ _ (by omega)).mono ?_)
      rintro e w' ⟨g, k, rfl, h1, h2, h3, hq⟩
      exact ⟨_, rfl, ⟨g, k, rfl, h1, h3⟩, hq, fun q => by simp at q⟩
    · intro o ho vals w1 hb hd hne
      cases ho
      exact .val (v := .func (.func 45) #[] #[.pointer (some ⟨w.heap.size + 1, 0, none⟩)]) (w' := w1) (by simp [frA, execOp, Act.eval, go_sem]) ⟨rfl, Below.refl _ _, fun q => by simp at q⟩
    · intro o ho vals w1 hb hd hne
      cases ho
      have e4 : vals 3 = _ := hd (3, 8) (.tail _ (.tail _ (.head _)))
      have e0 : vals 0 = _ := hd (0, 5) (.head _)
      obtain ⟨g, k, e2, h2, h3⟩ := hd (2, 7) (.tail _ (.head _))
      simp only at e2
      have hbw : Below w.heap.size w w1 := HB0.out.trans (((Below.refl W0.heap.size W0).drew.trans hb).mono HB0.out.size)
      rw [beginN_is] at h2
      obtain ⟨L, hL1, hL2, hL3⟩ := HW.out.ex
      refine .call (f := 35) (vs := #[.agg #[.slice a m c, .slice a' (n + 1) c'], .slice (some ⟨g, 0, none⟩) k k, .func (.func 45) #[] #[.pointer (some ⟨w.heap.size + 1, 0, none⟩)]]) (by simp [frA, execOp, Act.put, Act.eval, go_sem, e0, e2, e4])
        ((graWalk_is (w := w1) (mayPast (bx := w.heap.size + 1) (q := q) hn (Nat.lt_of_lt_of_le HQ0.out.lt hb.size)) hL1 (HOLD.out.trans (hbw.mono HOLD.out.size)) hL2 hL3 HW.out.ins HW.out.few hn (fun _ h => h.elim) HW.out.lt h2 (fun b' off q => ⟨id, by
          simp only [Option.some.injEq, Addr.mk.injEq] at q
          rw [← q.1]; exact h3⟩) (fun x hx => by
            unfold beginN at hx
            have h9 := List.eq_of_mem_replicate hx
            have h8 : (List.replicate (min n 1) 0).length ≠ 0 := fun e => by
              rw [List.eq_nil_of_length_eq_zero e] at hx; cases hx
            rw [List.length_replicate] at h8
            omega) (by unfold beginN; rw [List.length_replicate]; omega) (s := ()) (BlkAt.keep (w := W0.drew) HQ0.out hb)).mono ?_)
      rintro e w' ⟨v, s', T, rfl, h4, h5, h6, -, h7⟩
      have hq := h7.nought
      exact ⟨_, rfl, ⟨T, h4.mono (show W0.heap.size ≤ w1.heap.size from hb.size), h5, h6⟩, hq, fun q => by simp at q⟩
  · intro vals a1 w1 hI
    have e := hI.frame (by kernel_rfl) (by kernel_rfl)
    subst e
    have e0 : vals 0 = _ := hI.psi 0 (by omega) (by decide)
    have e1 : vals 1 = _ := hI.psi 1 (by omega) (by decide)
    have e3 : vals 3 = _ := hI.psi 3 (by omega) (by decide)
    obtain ⟨T, h1, h2⟩ := hI.psi 4 (by omega) (by decide)
    obtain ⟨bc, bf, ao, co, e4⟩ := h1.form
    have HI := Lib.hid hI
    generalize vals 2 = v2 at *
    have hr := BlkAt.keep (w := W0.drew) HR0.out hI.below
    have f0 := hr.free 0
    have f1 := hr.free 1
    have f2 := hr.free 2
    have y0 := hr.cell 0
    have y1 := hr.cell 1
    have y2 := hr.cell 2
    have HT := Lib.hid (And.intro h1 h2)
    clear h1 h2 hI
    refine SeqH.step rfl rfl fun K hK => ?_
    simp only [frA, List.foldl, e0, e1, e3, e4]
    go_simp
    refine hK _ _ trivial (SeqH.done (NoPanic.normal ?_))
    go_wp2_with fail
    refine bodyPost_ret (v := .agg #[.slice (some ⟨bc, 0, none⟩) (szS n) (szS n), .slice ao T.ord.length co, .slice (some ⟨bf, 0, none⟩) n n]) (by simp [results, Tryd.results29, go_sem, y0, y1, y2]) rfl ?_
    have hb1 : Below W0.heap.size W0 w1 := (Below.refl _ _).drew.trans HI.out.below
    have kx : Keeps (fun j => j = w.heap.size + 1 + 1) w1 (((w1.setCell ⟨w.heap.size + 1 + 1, 0, none⟩ (.slice (some ⟨bc, 0, none⟩) (szS n) (szS n))).setCell ⟨w.heap.size + 1 + 1, 1, none⟩ (.slice ao T.ord.length co)).setCell ⟨w.heap.size + 1 + 1, 2, none⟩ (.slice (some ⟨bf, 0, none⟩) n n)) := ((Keeps.set1 _ _ _ _).trans (Keeps.set1 _ _ _ _)).trans (Keeps.set1 _ _ _ _)
    have hlt := HR0.out.lt
    exact ⟨_, T, rfl, (e4 ▸ HT.out.1.kept kx fun j e => by omega).mono (by omega), HT.out.2, kx.below (HB0.out.trans (hb1.mono HB0.out.size)) (Nat.le_trans HB0.out.size hb1.size) fun j e => by omega⟩
end Go.Proofs.YtggiaopdgijgnaaDoor
