/- Package image: the reader's places. -/
import Derived.Test.YtochnjbacglhbaaDoorImgK
import Derived.Test.YtochnjbacglhbaaDoorImgF
namespace Go.Proofs.YtochnjbacglhbaaDoor
open Go.RowKit Go.IntWalk

theorem pBind_ret {α : Type} (p : Pz (List α)) (l : List Int) : pBind p (fun vs => pRet ([] ++ vs)) l = p l := by
  unfold pBind pRet
  split <;> simp_all
theorem many_zero {α β : Type} {p : Pz α} {g : List α → Pz β} {l : List Int} : pBind (pMany p 0) g l = g [] l := rfl
theorem many_ok {α β : Type} {p : Pz α} {g : List α → Pz β} {j : Nat} {l r : List Int} {v : α} (h : p l = .ok (v, r)) : pBind (pMany p (j + 1)) g l = pBind (pMany p j) (fun vs => g (v :: vs)) r := by
  show pBind (pBind p fun v => pBind (pMany p j) fun vs => pRet (v :: vs)) g l = _
  have e : pBind p (fun v => pBind (pMany p j) fun vs => pRet (v :: vs)) l = pBind (pMany p j) (fun vs => pRet (v :: vs)) r := pBind_ok h
  unfold pBind at e ⊢
  rw [e]
  cases pMany p j r with
  | error x => rfl
  | ok q => rfl
theorem many_no {α β : Type} {p : Pz α} {g : List α → Pz β} {j : Nat} {l : List Int} {x : Int} (h : p l = .error x) : pBind (pMany p (j + 1)) g l = .error x := pBind_err (pBind_err h)
theorem pBind_assoc {α β γ : Type} (p : Pz α) (f : α → Pz β) (g : β → Pz γ) : pBind (pBind p f) g = pBind p (fun v => pBind (f v) g) := by
  funext l
  unfold pBind
  cases p l with
  | error x => rfl
  | ok q => rfl
theorem RaTo.keeps {B R : Nat} {W W' : World} {l : List Int} (h : RaTo B W R l W') : Keeps (fun j => j = R) W W' := ⟨h.2.os, h.2.tape, h.2.output, h.2.size, fun j hj hn => h.2.block j hn hj⟩
/-- A row of the call's own is no reader's block. -/
theorem RaAt.off {B R base size n : Nat} {W : World} {l : List Int} {T : TypeId} {v : Value} {xs : List Value} (h : RaAt B W R l) (o : W.ownsRow base T size v n xs) (hT : 66 ≠ T) : ∀ j, v.ownBlock = some j → ¬ (j = R) := by
  obtain ⟨a, n, c, hb, -, -⟩ := h.ex
  exact fun j q e => own_off_type o hb hT (e ▸ q)
theorem RaAt.lt {B R : Nat} {W : World} {l : List Int} (h : RaAt B W R l) : B ≤ W.heap.size := by
  obtain ⟨a, n, c, hb, -, -⟩ := h.ex
  have := cell_lt (hb.cell 0)
  have := h.low
  simp only at *
  omega
theorem RaTo.trans {B R : Nat} {W W1 W2 : World} {l r : List Int} (h : RaTo B W R l W1) (k : RaTo B W1 R r W2) : RaTo B W R r W2 := ⟨k.1, h.2.trans k.2⟩
theorem RaTo.grown {κ : IntKind} {B R : Nat} {W W1 W2 : World} {l acc : List Int} {T : TypeId} {v : Value} (t : RaTo B W R l W1) (hB : B ≤ W.heap.size) (ho : OwnW κ W1 W.heap.size T v acc) (hT : 66 ≠ T) (g : W1.grownBy W2 v.ownBlock) : RaTo B W R l W2 :=
  ⟨t.1.kept (Keeps.of_grown (F := fun j => v.ownBlock = some j) g fun _ q => q) (fun e => t.1.off ho hT R e rfl) (fun j q => by have := (ho.lt j q).1; omega),
    ⟨g.os.trans t.2.os, g.tape.trans t.2.tape, g.output.trans t.2.output, Nat.le_trans t.2.size g.size, fun j hj hl => (g.block j (Nat.lt_of_lt_of_le hl t.2.size) (fun q => by have := (ho.lt j q.symm).1; omega)).trans (t.2.block j hj hl)⟩⟩
/-- As many addresses as a byte says. -/
def pPl : Pz (List Int) := pBind (pNum 1) fun i => pMany (pNum 2) i.toNat
theorem infoIntG : (Tryd.prog.info? 3).map (fun i => (i.zero, i.size, i.bytes)) = some (some (.int .i64 0), 1, 8) := by kernel_rfl
theorem u8_next {k : Nat} (h : k < 255) : IntKind.u8.wrap ((k : Int) + 1) = ((k + 1 : Nat) : Int) := by
  simp [IntKind.wrap, IntKind.bits, IntKind.signed]
  omega
section
variable {W : World} {B R : Nat} {l : List Int}
set_option maxRecDepth 100000 in
set_option maxHeartbeats 4000000 in
theorem imgRPlaces_is (h : RaAt B W R l) : Calls Tryd.prog 52 #[.pointer (some ⟨R, 0, none⟩)] W fun e W' =>
    (∃ q r v, pPl l = .ok (q, r) ∧ e = .returned v ∧ OwnW .i64 W' W.heap.size 3 v q ∧ RaTo B W R r W') ∨ ∃ x, pPl l = .error x ∧ e = panE x ∧ OnlyB R W W' := by
  obtain ⟨i0, hi, hz0, hz1, hz2⟩ := info_parts infoIntG
  have H := Lib.hid h
  by_cases hl : l.length < 1
  · clear h
    go_enter Tryd.func52, Tryd.ntmps52
    go_wp2_with (go_at_call 57; ((with_reducible refine (imgTake_no (k := 1) H.out hl (by omega)).mono ?_); rintro e w1 ⟨rfl, rfl⟩))
    exact ⟨rfl, .inr ⟨4, by unfold pPl; exact pBind_err (pNum_no hl), rfl, OnlyB.refl _ _⟩⟩
  · obtain ⟨x0, x1⟩ := h.bd.at (i := 0) (by omega)
    have hp := pBind_ok (f := fun i => pMany (pNum 2) i.toNat) (pNum_ok (k := 1) (l := l) (by omega))
    rw [take_1 (by omega)] at hp
    have HP := Lib.hid (show pPl l = pMany (pNum 2) (byAt l 0).toNat (l.drop 1) from hp)
    have hd := Lib.hid (cells_1 (l := l))
    generalize byAt l 0 = x at *
    obtain ⟨n, rfl⟩ : ∃ n : Nat, x = n := ⟨x.toNat, by omega⟩
    rw [Int.toNat_natCast] at HP
    have HL := Lib.hid hl
    have HL2 := Lib.hid h.lt
    clear h hl hp
    go_enter Tryd.func52, Tryd.ntmps52
    go_wp2_with (go_at_call 57; ((with_reducible refine (imgTake_ok (k := 1) H.out (by have := HL.out; omega) (by omega) (by decide)).mono ?_); rintro e w1 ⟨⟨a1, c1, rfl, hY⟩, t⟩); obtain ⟨b, off, rfl, d⟩ := hY.lie (by decide); have d0 := hd.out _ _ _ d; have T := Lib.hid t; clear d t hY)
    clear d0
    go_loopw [3, 8] (fun v i wr => ∃ (k : Nat) (acc r : List Int), k ≤ n ∧ i = .int .u8 k ∧ OwnW .i64 wr W.heap.size 3 v acc ∧ acc.length = k ∧ RaTo B W R r wr ∧ pPl l = pBind (pMany (pNum 2) (n - k)) (fun vs => pRet (acc ++ vs)) r) (fun _ i _ => n - (intOf i).toNat)
    case atStart => exact ⟨0, [], _, by omega, rfl, OwnW.nil _ _ _, rfl, T.out, by rw [HP.out]; exact (pBind_ret _ _).symm⟩
    case round =>
      obtain ⟨k, acc, r, hk, rfl, ho, hlk, hr, he⟩ := hrel
      have HR := Lib.hid hr
      have HE := Lib.hid he
      have HO := Lib.hid ho
      have hsz := hr.2.size
      obtain ⟨av, cv, rfl, -⟩ := ho.wsn hlk
      clear ho hr he
      by_cases hlt : k < n
      · have hlt' : (k : Int) < n := by omega
        have hw := u8_next (k := k) (by omega)
        have hnk : n - k = (n - (k + 1)) + 1 := by omega
        cases hq : pNum 2 r with
        | error y =>
          have HN := Lib.hid (RaPz.no (imgRPair_is HR.out.1) hq)
          have HX := Lib.hid (show pPl l = .error y by rw [HE.out, hnk]; exact many_no hq)
          clear hq hnk
          go_wp2_with (go_at_call 49; ((with_reducible refine HN.out.mono ?_); rintro e w5 ⟨rfl, t⟩))
          exact ⟨rfl, .inr ⟨y, HX.out, rfl, HR.out.2.trans t⟩⟩
        | ok q =>
          obtain ⟨x, r2⟩ := q
          have HN := Lib.hid (RaPz.ok (imgRPair_is HR.out.1) hq)
          have HX := Lib.hid (show pPl l = pBind (pMany (pNum 2) (n - (k + 1))) (fun vs => pRet ((acc ++ [x]) ++ vs)) r2 by
            rw [HE.out, hnk, many_ok hq]
            simp only [List.append_assoc, List.singleton_append])
          clear hq hnk
          go_wp2_with (first
            | (go_at_call 49; ((with_reducible refine HN.out.mono ?_); rintro e w5 ⟨rfl, t⟩); have O5 := Lib.hid (HO.out.kept t.keeps (HR.out.1.off HO.out (by decide))); have T5 := Lib.hid t; have hs5 := t.2.size; clear t)
            | (at_builtin; refine wpList_append_1 rfl _ _ 25 rfl W.heap.size 3 i0 (.int .i64 0) Tryd.underlying25 hi hz0 hz1 (by omega) rfl rfl (O5.out.keep ((Below.refl _ _).alloc (Nat.le_refl _) _)) rfl ((BlkAt.new _ _ _).cell 0) (by omega) (by simp; omega) ?_; intro v' w' hown hgr hnx))
          go_roundw
          case rel => exact ⟨k + 1, acc ++ [x], r2, by omega, by go_num, hown, by rw [List.length_append, hlk]; rfl, ((HR.out.trans T5.out).on ((Below.refl _ _).alloc (Nat.le_refl _) _)).grown HL2.out (O5.out.keep ((Below.refl _ _).alloc (Nat.le_refl _) _)) (by decide) hgr, HX.out⟩
          case measure => simp [intOf]; omega
      · obtain rfl : k = n := by omega
        have HX := Lib.hid (show pPl l = .ok (acc, r) by
          rw [HE.out, Nat.sub_self]
          show pRet (acc ++ []) r = _
          rw [List.append_nil]; rfl)
        go_wp2
        go_ret
        exact .inl ⟨acc, r, _, HX.out, rfl, HO.out, HR.out⟩
end
end Go.Proofs.YtochnjbacglhbaaDoor
