/- Package image: the reader: take, head, word, pair, flag, end. -/
import Derived.Test.YtochnjbacglhbaaDoorImgE
import Derived.Test.YtochnjbacglhbaaDoorImgJ
import Derived.Test.YtochnjbacglhbaaDoorWordF
import Derived.Deep.QuietTactic
import Derived.BigQuiet
namespace Go.Proofs.YtochnjbacglhbaaDoor
open Go.RowKit Go.IntWalk

/-- A reader's fault goes up. -/
abbrev panE (x : Int) : Ending := .panicked [{ v := .iface 31 (.int .i64 x), recovered := false }]
/-- A reader at block R: what is left, in a block ahead of B. -/
structure RaAt (B : Nat) (W : World) (R : Nat) (l : List Int) : Prop where
  ex : ∃ a n c, BlkAt R 66 #[.slice a n c] W ∧ By W a n c l ∧ ∀ b off, a = some ⟨b, off, none⟩ → b < B
  low : B ≤ R
/-- What a reading leaves: its own block alone may read otherwise. -/
def RaTo (B : Nat) (W : World) (R : Nat) (l : List Int) (W' : World) : Prop := RaAt B W' R l ∧ OnlyB R W W'
theorem RaAt.kept {B R : Nat} {F : Nat → Prop} {W W' : World} {l : List Int} (h : RaAt B W R l) (k : Keeps F W W') (hR : ¬ F R) (hF : ∀ j, F j → B ≤ j) : RaAt B W' R l := by
  obtain ⟨a, n, c, hb, hB, hn⟩ := h.ex
  exact ⟨⟨a, n, c, hb.kept k hR, hB.on fun b off q hlt => k.block b hlt fun f => absurd (hF b f) (by have := hn b off q; omega), hn⟩, h.low⟩
theorem RaAt.keep {B R : Nat} {W W' : World} {l : List Int} (h : RaAt B W R l) (k : Below W.heap.size W W') : RaAt B W' R l := h.kept (Keeps.of_below (fun _ => False) k) id fun _ q => q.elim
theorem RaAt.bd {B R : Nat} {W : World} {l : List Int} (h : RaAt B W R l) : Bd8 l := by
  obtain ⟨a, n, c, -, hB, -⟩ := h.ex
  exact hB.bd
theorem RaAt.short {B R : Nat} {W : World} {l : List Int} (h : RaAt B W R l) : l.length ≤ 9223372036854775807 := by
  obtain ⟨a, n, c, -, hB, -⟩ := h.ex
  have h1 := hB.len
  have h2 := hB.cap
  have h3 := hB.big
  unfold maxLen at h3
  omega
theorem RaTo.on {B R : Nat} {W W' W2 : World} {l : List Int} (t : RaTo B W R l W') (k : Below W'.heap.size W' W2) : RaTo B W R l W2 := ⟨t.1.keep k, t.2.on k⟩
/-- A method of the reader reads as p does: what is read, or the fault that goes up. -/
def RaPz {α : Type} (p : Pz α) (enc : α → Value) (B : Nat) (W : World) (R : Nat) (l : List Int) (e : Ending) (W' : World) : Prop :=
  (∃ v r, p l = .ok (v, r) ∧ e = .returned (enc v) ∧ RaTo B W R r W') ∨ ∃ x, p l = .error x ∧ e = panE x ∧ OnlyB R W W'
theorem RaPz.ok {α : Type} {p : Pz α} {enc : α → Value} {B R : Nat} {W : World} {l r : List Int} {v : α} {f : FuncId} {args : Array Value} (h : Calls Tryd.prog f args W (RaPz p enc B W R l)) (hp : p l = .ok (v, r)) : Calls Tryd.prog f args W fun e W' => e = .returned (enc v) ∧ RaTo B W R r W' := by
  refine h.mono ?_
  rintro e W' (⟨v', r', h1, rfl, t⟩ | ⟨x, h1, -, -⟩)
  · rw [hp] at h1
    cases h1
    exact ⟨rfl, t⟩
  · rw [hp] at h1; cases h1
theorem RaPz.no {α : Type} {p : Pz α} {enc : α → Value} {B R : Nat} {W : World} {l : List Int} {x : Int} {f : FuncId} {args : Array Value} (h : Calls Tryd.prog f args W (RaPz p enc B W R l)) (hp : p l = .error x) : Calls Tryd.prog f args W fun e W' => e = panE x ∧ OnlyB R W W' := by
  refine h.mono ?_
  rintro e W' (⟨v', r', h1, -, -⟩ | ⟨x', h1, rfl, t⟩)
  · rw [hp] at h1; cases h1
  · rw [hp] at h1
    cases h1
    exact ⟨rfl, t⟩
theorem pNum_no {k : Nat} {l : List Int} (h : l.length < k) : pNum k l = .error 4 := by unfold pNum; rw [if_pos h]
theorem pNum_ok {k : Nat} {l : List Int} (h : k ≤ l.length) : pNum k l = .ok (beV (l.take k), l.drop k) := by unfold pNum; rw [if_neg (by omega)]
theorem cells_2 {l : List Int} (b off : Nat) (w : World) (d : ∀ i, i < 2 → w.cell? ⟨b, off + i, none⟩ = some (.int .u8 (byAt (l.take 2) i))) : w.cell? ⟨b, off, none⟩ = some (.int .u8 (byAt l 0)) ∧ w.cell? ⟨b, off + 1, none⟩ = some (.int .u8 (byAt l 1)) :=
  ⟨by have := d 0 (by decide); rwa [byAt_take (by decide), Nat.add_zero] at this, by have := d 1 (by decide); rwa [byAt_take (by decide)] at this⟩
theorem cells_1 {l : List Int} (b off : Nat) (w : World) (d : ∀ i, i < 1 → w.cell? ⟨b, off + i, none⟩ = some (.int .u8 (byAt (l.take 1) i))) : w.cell? ⟨b, off, none⟩ = some (.int .u8 (byAt l 0)) := by
  have := d 0 (by decide)
  rwa [byAt_take (by decide), Nat.add_zero] at this
theorem take_1 {l : List Int} (h : 1 ≤ l.length) : beV (l.take 1) = byAt l 0 := by
  rw [show l.take 1 = l.take 0 ++ [byAt l 0] from take_snoc8 (by omega), beV_snoc]
  show 256 * 0 + _ = _
  omega
theorem take_2 {l : List Int} (h : 2 ≤ l.length) : beV (l.take 2) = 256 * byAt l 0 + byAt l 1 := by
  rw [show l.take 2 = l.take 1 ++ [byAt l 1] from take_snoc8 (by omega), beV_snoc, take_1 (by omega)]
theorem take_4 {l : List Int} (h : 4 ≤ l.length) : beV (l.take 4) = 256 * (256 * (256 * byAt l 0 + byAt l 1) + byAt l 2) + byAt l 3 := by
  rw [show l.take 4 = l.take 3 ++ [byAt l 3] from take_snoc8 (by omega), beV_snoc, show l.take 3 = l.take 2 ++ [byAt l 2] from take_snoc8 (by omega), beV_snoc, take_2 (by omega)]
section
variable {W : World} {B R k : Nat} {l : List Int} {z : Int}
set_option maxRecDepth 100000 in
set_option maxHeartbeats 2000000 in
theorem imgTake_no (h : RaAt B W R l) (hl : l.length < k) (hz : z = (k : Int)) : Calls Tryd.prog 57 #[.pointer (some ⟨R, 0, none⟩), .int .i64 z] W fun r W' => r = panE 4 ∧ W = W' := by
  subst hz
  obtain ⟨a, n, c, hb, hB, hn⟩ := h.ex
  have hbn := hB.len
  have hlt : (n : Int) < k := by omega
  have p0 := hb.cell 0
  clear h hb hB hn
  go_enter Tryd.func57, Tryd.ntmps57
  go_wp2
  exact ⟨rfl, rfl, rfl⟩
set_option maxRecDepth 100000 in
set_option maxHeartbeats 2000000 in
theorem imgTake_ok (h : RaAt B W R l) (hl : k ≤ l.length) (hz : z = (k : Int)) (hk0 : 0 < k) : Calls Tryd.prog 57 #[.pointer (some ⟨R, 0, none⟩), .int .i64 z] W fun r W' => (∃ a c, r = .returned (.slice a k c) ∧ By W' a k c (l.take k)) ∧ RaTo B W R (l.drop k) W' := by
  subst hz
  obtain ⟨a, n, c, hb, hB, hn⟩ := h.ex
  have HB := Lib.hid hb
  have hbn := hB.len
  have hcap := hB.cap
  have hbig := hB.big
  unfold maxLen at hbig
  obtain ⟨b, off, rfl, dd⟩ := hB.lie (by omega)
  have HY := Lib.hid hB
  have HN := Lib.hid (hn b off rfl)
  have LO := Lib.hid h.low
  have hge : (k : Int) ≤ n := by omega
  have p0 := hb.cell 0
  have fr := hb.free 0
  have HP := Lib.hid (fun v => (HY.out.pre (k := k) (by omega)).on (w' := W.setCell ⟨R, 0, none⟩ v) (by
    intro b' off' e hlt
    cases e
    exact (OnlyB.set R 0 W _).block b (by have := HN.out; have := LO.out; omega) hlt))
  clear h hb hB hn dd
  go_enter Tryd.func57, Tryd.ntmps57
  by_cases hck : c - k = 0
  · have hnk : n - k = 0 := by omega
    have hlk := Lib.hid (show l.drop k = [] from List.drop_eq_nil_of_le (by have := HY.out.len; omega))
    have HK := Lib.hid hnk
    clear hnk
    go_wp2
    go_ret
    refine ⟨⟨_, _, rfl, HP.out _⟩, ⟨⟨_, _, _, (HB.out.set 0 _).eq rfl, ?_, ?_⟩, LO.out⟩, OnlyB.set _ _ _ _⟩
    · rw [hlk.out, HK.out]
      exact ⟨rfl, Nat.le_refl _, Nat.zero_le _, fun h => (nomatch h), Bd8.nil, fun h => absurd h (Nat.lt_irrefl _)⟩
    · intro b' off' e
      cases e
      exact HN.out
  · go_wp2
    go_ret
    refine ⟨⟨_, _, rfl, HP.out _⟩, ⟨⟨_, _, _, (HB.out.set 0 _).eq rfl, (HY.out.post (k := k) (by omega)).on ?_, ?_⟩, LO.out⟩, OnlyB.set _ _ _ _⟩
    · intro b' off' e hlt
      cases e
      exact (OnlyB.set R 0 W _).block b (by have := HN.out; have := LO.out; omega) hlt
    · intro b' off' e
      cases e
      exact HN.out
set_option maxRecDepth 100000 in
set_option maxHeartbeats 2000000 in
theorem imgWord_is (h : RaAt B W R l) : Calls Tryd.prog 50 #[.pointer (some ⟨R, 0, none⟩)] W (RaPz (pNum 4) (fun x => .int .i32 (wrap32 x)) B W R l) := by
  have H := Lib.hid h
  by_cases hl : l.length < 4
  · clear h
    go_enter Tryd.func50, Tryd.ntmps50
    go_wp2_with (go_at_call 57; ((with_reducible refine (imgTake_no (k := 4) H.out hl (by omega)).mono ?_); rintro e w1 ⟨rfl, rfl⟩))
    exact ⟨rfl, .inr ⟨4, pNum_no hl, rfl, OnlyB.refl _ _⟩⟩
  · have hp := Lib.hid (pNum_ok (k := 4) (l := l) (by omega))
    have hbd := Lib.hid h.bd
    have hv := Lib.hid (show wrap32 (accN (byAt (l.take 4)) 4) = wrap32 (beV (l.take 4)) by
      rw [take_4 (by omega)]
      simp only [accN, byAt_take (show 0 < 4 by omega), byAt_take (show 1 < 4 by omega), byAt_take (show 2 < 4 by omega), byAt_take (show 3 < 4 by omega)]
      congr 1
      omega)
    have HL := Lib.hid hl
    clear h hl
    go_enter Tryd.func50, Tryd.ntmps50
    go_wp2_with (first
      | (go_at_call 57; ((with_reducible refine (imgTake_ok (k := 4) H.out (by have := HL.out; omega) (by omega) (by decide)).mono ?_); rintro e w1 ⟨⟨a1, c1, rfl, hY⟩, t⟩); obtain ⟨b, off, rfl, d⟩ := hY.lie (by decide); have D := Lib.hid d; have T := Lib.hid t; clear d t hY)
      | (go_at_call 59; ((with_reducible refine (from_four b off _ (byAt (l.take 4)) _ _ hv.out D.out (fun i hi => (hbd.out.take 4).at (by rw [List.length_take]; have := HL.out; omega))).mono ?_); rintro e w2 ⟨rfl, rfl⟩)))
    go_ret
    exact .inl ⟨_, _, hp.out, rfl, T.out⟩
set_option maxRecDepth 100000 in
set_option maxHeartbeats 2000000 in
theorem imgRPair_is (h : RaAt B W R l) : Calls Tryd.prog 49 #[.pointer (some ⟨R, 0, none⟩)] W (RaPz (pNum 2) (fun x => .int .i64 x) B W R l) := by
  have H := Lib.hid h
  by_cases hl : l.length < 2
  · clear h
    go_enter Tryd.func49, Tryd.ntmps49
    go_wp2_with (go_at_call 57; ((with_reducible refine (imgTake_no (k := 2) H.out hl (by omega)).mono ?_); rintro e w1 ⟨rfl, rfl⟩))
    exact ⟨rfl, .inr ⟨4, pNum_no hl, rfl, OnlyB.refl _ _⟩⟩
  · have hp := Lib.hid (pNum_ok (k := 2) (l := l) (by omega))
    have e2 := take_2 (l := l) (by omega)
    obtain ⟨x0, x1⟩ := h.bd.at (i := 0) (by omega)
    obtain ⟨y0, y1⟩ := h.bd.at (i := 1) (by omega)
    have hd := Lib.hid (cells_2 (l := l))
    generalize byAt l 0 = x at *
    generalize byAt l 1 = y at *
    have hz := pair_is x y _ (h1 := x0) (h2 := x1) (h3 := y0) (h4 := y1) (h := rfl)
    obtain ⟨z, hz'⟩ : ∃ z, wrap16 (x * 256 + y) = z := ⟨_, rfl⟩
    rw [hz'] at hz
    have HZ := Lib.hid hz
    have hw := Lib.hid (show wrap64 (IntKind.u16.wrap z) = beV (l.take 2) by
      rw [e2, ← hz']
      simp [IntKind.wrap, IntKind.bits, IntKind.signed, wrap16, wrap64]
      omega)
    have HL := Lib.hid hl
    clear h hl e2 hz hz'
    go_enter Tryd.func49, Tryd.ntmps49
    go_upto_region 2 with (go_at_call 57; ((with_reducible refine (imgTake_ok (k := 2) H.out (by have := HL.out; omega) (by omega) (by decide)).mono ?_); rintro e w1 ⟨⟨a1, c1, rfl, hY⟩, t⟩); obtain ⟨b, off, rfl, d⟩ := hY.lie (by decide); obtain ⟨d0, d1⟩ := hd.out _ _ _ d; have T := Lib.hid t; clear d t hY)
    go_quiet ((first | (go_at_call 58; with_reducible exact quiet_here (HZ.out _))))
    go_wp2
    go_ret
    refine .inl ⟨_, _, hp.out, ?_, T.out.on (below_drewN (Below.refl _ _) _)⟩
    rw [← hw.out]
    rfl
/-- A byte that says whether a word is secret. -/
def pFlag : Pz Bool := pBind (pNum 1) fun s => pBind (pMust (decide (s < 2)) 3) fun _ => pRet (decide (s = 1))
theorem pFlag_0 (h : 1 ≤ l.length) (e : byAt l 0 = 0) : pFlag l = .ok (false, l.drop 1) := by
  unfold pFlag
  rw [pBind_ok (pNum_ok h), take_1 h, e]
  rfl
theorem pFlag_1 (h : 1 ≤ l.length) (e : byAt l 0 = 1) : pFlag l = .ok (true, l.drop 1) := by
  unfold pFlag
  rw [pBind_ok (pNum_ok h), take_1 h, e]
  rfl
theorem pFlag_2 (h : 1 ≤ l.length) (e : 2 ≤ byAt l 0) : pFlag l = .error 3 := by
  unfold pFlag
  rw [pBind_ok (pNum_ok h), take_1 h]
  unfold pBind pMust
  rw [decide_eq_false (show ¬ byAt l 0 < 2 by omega)]
  rfl
set_option maxRecDepth 100000 in
set_option maxHeartbeats 2000000 in
theorem imgRFlag_is (h : RaAt B W R l) : Calls Tryd.prog 51 #[.pointer (some ⟨R, 0, none⟩)] W (RaPz pFlag (fun b => .bool b) B W R l) := by
  have H := Lib.hid h
  by_cases hl : l.length < 1
  · clear h
    go_enter Tryd.func51, Tryd.ntmps51
    go_wp2_with (go_at_call 57; ((with_reducible refine (imgTake_no (k := 1) H.out hl (by omega)).mono ?_); rintro e w1 ⟨rfl, rfl⟩))
    exact ⟨rfl, .inr ⟨4, by unfold pFlag; exact pBind_err (pNum_no hl), rfl, OnlyB.refl _ _⟩⟩
  · obtain ⟨x0, x1⟩ := h.bd.at (i := 0) (by omega)
    have f0 := Lib.hid (pFlag_0 (l := l) (by omega))
    have f1 := Lib.hid (pFlag_1 (l := l) (by omega))
    have f2 := Lib.hid (pFlag_2 (l := l) (by omega))
    have hd := Lib.hid (cells_1 (l := l))
    generalize byAt l 0 = x at *
    have HL := Lib.hid hl
    clear h hl
    rcases (show x = 0 ∨ x = 1 ∨ 2 ≤ x by omega) with rfl | rfl | hx
    · go_enter Tryd.func51, Tryd.ntmps51
      go_wp2_with (go_at_call 57; ((with_reducible refine (imgTake_ok (k := 1) H.out (by have := HL.out; omega) (by omega) (by decide)).mono ?_); rintro e w1 ⟨⟨a1, c1, rfl, hY⟩, t⟩); obtain ⟨b, off, rfl, d⟩ := hY.lie (by decide); have d0 := hd.out _ _ _ d; have T := Lib.hid t; clear d t hY)
      go_ret
      exact .inl ⟨_, _, f0.out trivial, rfl, T.out⟩
    · go_enter Tryd.func51, Tryd.ntmps51
      go_wp2_with (go_at_call 57; ((with_reducible refine (imgTake_ok (k := 1) H.out (by have := HL.out; omega) (by omega) (by decide)).mono ?_); rintro e w1 ⟨⟨a1, c1, rfl, hY⟩, t⟩); obtain ⟨b, off, rfl, d⟩ := hY.lie (by decide); have d0 := hd.out _ _ _ d; have T := Lib.hid t; clear d t hY)
      go_ret
      exact .inl ⟨_, _, f1.out trivial, rfl, T.out⟩
    · have q0 : (x == 0) = false := by rw [beq_eq_false_iff_ne]; omega
      have q1 : (x == 1) = false := by rw [beq_eq_false_iff_ne]; omega
      have HX := Lib.hid hx
      clear hx
      go_enter Tryd.func51, Tryd.ntmps51
      go_wp2_with (go_at_call 57; ((with_reducible refine (imgTake_ok (k := 1) H.out (by have := HL.out; omega) (by omega) (by decide)).mono ?_); rintro e w1 ⟨⟨a1, c1, rfl, hY⟩, t⟩); obtain ⟨b, off, rfl, d⟩ := hY.lie (by decide); have d0 := hd.out _ _ _ d; have T := Lib.hid t; clear d t hY)
      exact ⟨rfl, .inr ⟨3, f2.out HX.out, rfl, T.out.2⟩⟩
/-- Nothing is left. -/
def pEnd : Pz Unit := fun l => if l = [] then .ok ((), []) else .error 5
set_option maxRecDepth 100000 in
set_option maxHeartbeats 2000000 in
theorem imgREnd_is (h : RaAt B W R l) : Calls Tryd.prog 53 #[.pointer (some ⟨R, 0, none⟩)] W (RaPz pEnd (fun _ => .tuple #[]) B W R l) := by
  have H := Lib.hid h
  obtain ⟨a, n, c, hb, hB, -⟩ := h.ex
  have hbn := hB.len
  have p0 := hb.cell 0
  clear h hb hB
  by_cases hl : l = []
  · subst hl
    obtain rfl : n = 0 := by simpa using hbn.symm
    clear hbn
    go_enter Tryd.func53, Tryd.ntmps53
    go_wp2
    first | go_ret | go_end0
    exact .inl ⟨(), [], rfl, rfl, H.out, OnlyB.refl _ _⟩
  · have hlt : (0 : Int) < n := by
      have := List.length_pos_iff.2 hl
      omega
    have HL := Lib.hid hl
    clear hl hbn
    go_enter Tryd.func53, Tryd.ntmps53
    go_wp2
    exact ⟨rfl, .inr ⟨5, by unfold pEnd; rw [if_neg HL.out], rfl, OnlyB.refl _ _⟩⟩
/-- The first four bytes. -/
def pHead : Pz Unit := pBind (pNum 4) fun x => pMust (decide (x = 1095980081)) 3
theorem head_iff (hb : Bd8 l) (h : 4 ≤ l.length) : beV (l.take 4) = 1095980081 ↔ l.take 4 = [65, 83, 84, 49] := by
  constructor
  · intro e
    have := beB_beV 4 (l.take 4) (hb.take 4) (by rw [List.length_take]; omega)
    rw [← this, e]
    rfl
  · intro e
    rw [e]
    rfl
set_option maxRecDepth 100000 in
set_option maxHeartbeats 2000000 in
theorem imgRHead_is (h : RaAt B W R l) : Calls Tryd.prog 48 #[.pointer (some ⟨R, 0, none⟩)] W (RaPz pHead (fun _ => .tuple #[]) B W R l) := by
  have H := Lib.hid h
  by_cases hl : l.length < 4
  · clear h
    go_enter Tryd.func48, Tryd.ntmps48
    go_wp2_with (go_at_call 57; ((with_reducible refine (imgTake_no (k := 4) H.out hl (by omega)).mono ?_); rintro e w1 ⟨rfl, rfl⟩))
    exact ⟨rfl, .inr ⟨4, by unfold pHead; exact pBind_err (pNum_no hl), rfl, OnlyB.refl _ _⟩⟩
  · have hp := pNum_ok (k := 4) (l := l) (by omega)
    have hi := head_iff h.bd (by omega)
    have hbd := h.bd.take 4
    have HL := Lib.hid hl
    by_cases he : l.take 4 = [65, 83, 84, 49]
    · have hs := str_const8 (l := l.take 4) (k := [65, 83, 84, 49]) (by rw [he]; rfl)
      have HF := Lib.hid (show pHead l = .ok ((), l.drop 4) by
        unfold pHead
        rw [pBind_ok hp, hi.2 he]
        rfl)
      clear h hl hp hi hbd he
      go_enter Tryd.func48, Tryd.ntmps48
      go_wp2_with (go_at_call 57; ((with_reducible refine (imgTake_ok (k := 4) H.out (by have := HL.out; omega) (by omega) (by decide)).mono ?_); rintro e w1 ⟨⟨a1, c1, rfl, hY⟩, t⟩); have hq := str_run hY; have T := Lib.hid t; clear t hY)
      first | go_ret | go_end0
      exact .inl ⟨(), _, HF.out, rfl, T.out⟩
    · have hs : ((strOfNums (l.take 4)).toList == [65, 83, 84, 49]) = false := by
        refine str_no fun e => he ?_
        refine strOfNums_inj hbd (m := [65, 83, 84, 49]) (Bd8.cons (by decide) (by decide) (Bd8.cons (by decide) (by decide) (Bd8.cons (by decide) (by decide) (Bd8.cons (by decide) (by decide) Bd8.nil)))) (str_ext ?_)
        rw [e, strOfNums_data]
        rfl
      have HF := Lib.hid (show pHead l = .error 3 by
        unfold pHead
        rw [pBind_ok hp]
        unfold pMust
        rw [decide_eq_false (fun q => he (hi.1 q))]
        rfl)
      clear h hl hp hi hbd he
      go_enter Tryd.func48, Tryd.ntmps48
      go_wp2_with (go_at_call 57; ((with_reducible refine (imgTake_ok (k := 4) H.out (by have := HL.out; omega) (by omega) (by decide)).mono ?_); rintro e w1 ⟨⟨a1, c1, rfl, hY⟩, t⟩); have hq := str_run hY; have T := Lib.hid t; clear t hY)
      exact ⟨rfl, .inr ⟨3, HF.out, rfl, T.out.2⟩⟩
end
end Go.Proofs.YtochnjbacglhbaaDoor
