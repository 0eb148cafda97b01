/- Package image: the reader's image. -/
import Derived.Test.YtochnjbacglhbaaDoorImgM
import Derived.BigRegion
import Derived.Deep.RegionLaw
import Derived.Deep.DeepCutAuto
namespace Go.Proofs.YtochnjbacglhbaaDoor
open Go.RowKit Go.IntWalk

theorem infoI32N : (Tryd.prog.info? 21).map (fun i => (i.zero, i.size, i.bytes)) = some (some (.int .i32 0), 1, 4) := by kernel_rfl
theorem infoBoolN : (Tryd.prog.info? 4).map (fun i => (i.zero, i.size, i.bytes)) = some (some (.bool false), 1, 1) := by kernel_rfl
theorem pEnd_nil {l r : List Int} {u : Unit} (h : pEnd l = .ok (u, r)) : r = [] := by
  unfold pEnd at h
  split at h
  · cases h; rfl
  · cases h
theorem pRet_bind {α β : Type} (v : α) (f : α → Pz β) : pBind (pRet v) f = f v := rfl
theorem pNum_bd {k : Nat} {l r : List Int} {x : Int} (hb : Bd8 l) (h : pNum k l = .ok (x, r)) : 0 ≤ x ∧ x < 256 ^ k := ((Cod.num k).back l x r hb h).2
theorem u32_back {x : Int} (h : 0 ≤ x ∧ x < 256 ^ 4) : IntKind.u32.wrap (wrap32 x) = x := by
  have h : 0 ≤ x ∧ x < 4294967296 := h
  rw [wrap_u32]
  unfold wrap32
  omega
/-- What is to be read yet, from the words of code, of data, the In, the Out on. -/
def t4 (code : List Int) (ds : List (Int × Bool)) (inn : List Int) : Pz Img := pBind pPl fun out => pBind pEnd fun _ => pRet ⟨code, ds.map (·.1), ds.map (·.2), inn, out⟩
def t3 (code : List Int) (ds : List (Int × Bool)) : Pz Img := pBind pPl fun inn => t4 code ds inn
def t2 (code : List Int) : Pz Img := pBind (pNum 2) fun d => pBind (pMany pDatum d.toNat) fun ds => t3 code ds
def t1 : Pz Img := pBind (pNum 2) fun n => pBind (pMany (pNum 4) n.toNat) fun code => t2 code
/-- All, and nothing behind it. -/
def pAll : Pz Img := pBind pBody fun m => pBind pEnd fun _ => pRet m
theorem pAll_eq : pAll = pBind pHead fun _ => t1 := by
  simp only [pAll, pBody, pHead, t1, t2, t3, t4, pPl, pBind_assoc, pRet_bind]
theorem pDatum_eq : pDatum = pBind (pNum 4) fun x => pBind pFlag fun b => pRet (wrap32 x, b) := by
  simp only [pDatum, pFlag, pBind_assoc, pRet_bind]
theorem GmAt.new {w : World} {B R : Nat} {l : List Int} (h : RaAt B w R l) : GmAt B w ((w.alloc (.cells #[.slice none 0 0, .slice none 0 0, .slice none 0 0, .slice none 0 0, .slice none 0 0] 27)).alloc (.cells #[.slice none 0 0, .slice none 0 0, .slice none 0 0, .slice none 0 0, .slice none 0 0] 27)) R (w.heap.size + 1) w.heap.size l (.slice none 0 0) (.slice none 0 0) (.slice none 0 0) (.slice none 0 0) (.slice none 0 0) img0 := by
  have k1 := (Below.refl w.heap.size w).alloc (Nat.le_refl _) (.cells #[.slice none 0 0, .slice none 0 0, .slice none 0 0, .slice none 0 0, .slice none 0 0] 27)
  have k2 := k1.alloc k1.size (.cells #[.slice none 0 0, .slice none 0 0, .slice none 0 0, .slice none 0 0, .slice none 0 0] 27)
  obtain ⟨a, n, c, hb, -, -⟩ := h.ex
  have hlt := cell_lt (hb.cell 0)
  simp only at hlt
  exact ⟨BlkAt.newb _ _ _ (by simp), OwnW.nil _ _ _, OwnW.nil _ _ _, OwnEl.nil _ _ _ _, OwnW.nil _ _ _, OwnW.nil _ _ _, h.keep k2, by omega, by omega, OnlyB.of k2, hlt, (BlkAt.new w _ _).keep ((Below.refl _ _).alloc (Nat.le_refl _) _), by omega, by omega, Nat.le_refl _⟩
/-- Five slices that lie in blocks that were not there at V. -/
def NewA (V : World) (a : Option Addr) : Prop := ∀ b off, a = some ⟨b, off, none⟩ → V.heap.size ≤ b
structure New5 (V : World) (a0 a1 a2 a3 a4 : Option Addr) : Prop where
  a0 : NewA V a0
  a1 : NewA V a1
  a2 : NewA V a2
  a3 : NewA V a3
  a4 : NewA V a4
theorem new_own {V W : World} {size n m c : Nat} {T : TypeId} {a : Option Addr} {xs : List Value} (o : W.ownsRow V.heap.size T size (.slice a m c) n xs) : NewA V a := fun b off e => by
  subst e
  exact (World.ownsRow.lt o b rfl).1
/-- What a reading of all comes to. -/
def AllTo (R : Nat) (V : World) (l : List Int) (e : Ending) (w' : World) : Prop :=
  (∃ m a0 n0 c0 a1 n1 c1 a2 n2 c2 a3 n3 c3 a4 n4 c4, pAll l = .ok (m, []) ∧ e = .returned (.agg #[.slice a0 n0 c0, .slice a1 n1 c1, .slice a2 n2 c2, .slice a3 n3 c3, .slice a4 n4 c4]) ∧ ImgAt w' a0 n0 c0 a1 n1 c1 a2 n2 c2 a3 n3 c3 a4 n4 c4 m ∧ New5 V a0 a1 a2 a3 a4 ∧ OnlyB R V w') ∨
    ∃ x, pAll l = .error x ∧ e = panE x ∧ OnlyB R V w'
theorem ws_of {κ : IntKind} {w : World} {base n c : Nat} {e : TypeId} {a : Option Addr} {l : List Int} (h : OwnW κ w base e (.slice a n c) l) : Ws κ w a n c l := by
  obtain ⟨a', c', e', hw⟩ := h.ws
  injection e' with e1 e2 e3
  subst e1 e2 e3
  exact hw
theorem els_of {α : Type} [Inhabited α] {K : Kd α} {w : World} {base n c : Nat} {e : TypeId} {a : Option Addr} {l : List α} (h : OwnEl K w base e (.slice a n c) l) : ElAt K w a n c l := by
  obtain ⟨a', c', e', hw⟩ := h.at
  injection e' with e1 e2 e3
  subst e1 e2 e3
  exact hw
theorem els_shape {α : Type} [Inhabited α] {K : Kd α} {w : World} {base : Nat} {e : TypeId} {v : Value} {l : List α} (h : OwnEl K w base e v l) : ∃ a n c, v = .slice a n c := by
  obtain ⟨a, c, e, -⟩ := h.at
  exact ⟨a, _, c, e⟩
theorem row_shape {κ : IntKind} {w : World} {base : Nat} {e : TypeId} {v : Value} {l : List Int} (h : OwnW κ w base e v l) : ∃ a n c, v = .slice a n c := by
  obtain ⟨a, c, e, -⟩ := h.ws
  exact ⟨a, _, c, e⟩
def ImOn (R b : Nat) (x0 x1 x2 x3 x4 : Value) (V W : World) : Prop := (W.cell? ⟨b, 0, none⟩ = some x0 ∧ W.cell? ⟨b, 1, none⟩ = some x1 ∧ W.cell? ⟨b, 2, none⟩ = some x2 ∧ W.cell? ⟨b, 3, none⟩ = some x3 ∧ W.cell? ⟨b, 4, none⟩ = some x4) ∧ OnlyB R V W
theorem only_set {R b i : Nat} {V W : World} (h : OnlyB R V W) (hb : V.heap.size ≤ b) (v : Value) : OnlyB R V (W.setCell ⟨b, i, none⟩ v) := only_kept h (Keeps.set1 W b i v) fun _ e => e ▸ hb
theorem im_on {R b : Nat} {T : TypeId} {V W : World} {x0 x1 x2 x3 x4 : Value} (h : BlkAt b T #[x0, x1, x2, x3, x4] W) (hb : OnlyB R V W) (hB : V.heap.size ≤ b) (y0 y1 y2 y3 y4 : Value) : ImOn R b y0 y1 y2 y3 y4 V (((((W.setCell ⟨b, 0, none⟩ y0).setCell ⟨b, 1, none⟩ y1).setCell ⟨b, 2, none⟩ y2).setCell ⟨b, 3, none⟩ y3).setCell ⟨b, 4, none⟩ y4) := by
  have k : BlkAt b T #[y0, y1, y2, y3, y4] (((((W.setCell ⟨b, 0, none⟩ y0).setCell ⟨b, 1, none⟩ y1).setCell ⟨b, 2, none⟩ y2).setCell ⟨b, 3, none⟩ y3).setCell ⟨b, 4, none⟩ y4) := (((((h.set 0 y0).set 1 y1).set 2 y2).set 3 y3).set 4 y4).eq rfl
  exact ⟨⟨k.cell 0, k.cell 1, k.cell 2, k.cell 3, k.cell 4⟩, only_set (only_set (only_set (only_set (only_set hb hB _) hB _) hB _) hB _) hB _⟩
/-- All five are handed back by way of the result's block. -/
theorem GmAt.done {V W : World} {B R M Q : Nat} {s : List Int} {m : Img} {a0 a1 a2 a3 a4 : Option Addr} {n0 n1 n2 n3 n4 c0 c1 c2 c3 c4 : Nat} (h : GmAt B V W R M Q s (.slice a0 n0 c0) (.slice a1 n1 c1) (.slice a2 n2 c2) (.slice a3 n3 c3) (.slice a4 n4 c4) m) :
    ImOn R Q (.slice a0 n0 c0) (.slice a1 n1 c1) (.slice a2 n2 c2) (.slice a3 n3 c3) (.slice a4 n4 c4) V (((((W.setCell ⟨Q, 0, none⟩ (.slice a0 n0 c0)).setCell ⟨Q, 1, none⟩ (.slice a1 n1 c1)).setCell ⟨Q, 2, none⟩ (.slice a2 n2 c2)).setCell ⟨Q, 3, none⟩ (.slice a3 n3 c3)).setCell ⟨Q, 4, none⟩ (.slice a4 n4 c4)) ∧
    ImgAt (((((W.setCell ⟨Q, 0, none⟩ (.slice a0 n0 c0)).setCell ⟨Q, 1, none⟩ (.slice a1 n1 c1)).setCell ⟨Q, 2, none⟩ (.slice a2 n2 c2)).setCell ⟨Q, 3, none⟩ (.slice a3 n3 c3)).setCell ⟨Q, 4, none⟩ (.slice a4 n4 c4)) a0 n0 c0 a1 n1 c1 a2 n2 c2 a3 n3 c3 a4 n4 c4 m ∧ New5 V a0 a1 a2 a3 a4 := by
  have hb := h.res
  have k : ∀ {size n : Nat} {T : TypeId} {v : Value} {xs : List Value}, W.ownsRow V.heap.size T size v n xs → 27 ≠ T → (((((W.setCell ⟨Q, 0, none⟩ (.slice a0 n0 c0)).setCell ⟨Q, 1, none⟩ (.slice a1 n1 c1)).setCell ⟨Q, 2, none⟩ (.slice a2 n2 c2)).setCell ⟨Q, 3, none⟩ (.slice a3 n3 c3)).setCell ⟨Q, 4, none⟩ (.slice a4 n4 c4)).ownsRow V.heap.size T size v n xs :=
    fun o hT => own_setM (own_setM (own_setM (own_setM (own_setM o hb hT) (hb.set 0 _) hT) ((hb.set 0 _).set 1 _) hT) (((hb.set 0 _).set 1 _).set 2 _) hT) ((((hb.set 0 _).set 1 _).set 2 _).set 3 _) hT
  exact ⟨im_on hb h.bel h.lq _ _ _ _ _, ⟨ws_of (k h.r0 (by decide)), ws_of (k h.r1 (by decide)), els_of (k h.r2 (by decide)), ws_of (k h.r3 (by decide)), ws_of (k h.r4 (by decide))⟩, ⟨new_own h.r0, new_own h.r1, new_own h.r2, new_own h.r3, new_own h.r4⟩⟩
theorem datum_step {β : Type} {g : List (Int × Bool) → Pz β} {j : Nat} : pBind (pMany pDatum (j + 1)) g = pBind (pNum 4) fun x => pBind pFlag fun b => pBind (pMany pDatum j) fun vs => g ((wrap32 x, b) :: vs) := by
  show pBind (pBind pDatum fun v => pBind (pMany pDatum j) fun vs => pRet (v :: vs)) g = _
  simp only [pDatum_eq, pBind_assoc, pRet_bind]
theorem AllTo.no {R : Nat} {V w' : World} {l : List Int} {x : Int} (h : pAll l = .error x) (k : OnlyB R V w') : AllTo R V l (panE x) w' := .inr ⟨x, h, rfl, k⟩
section
variable {w : World} {B R : Nat} {l : List Int}
theorem GmAt.gone {W W' : World} {M Q : Nat} {s : List Int} {v0 v1 v2 v3 v4 : Value} {m : Img} (h : GmAt B w W R M Q s v0 v1 v2 v3 v4 m) (k : OnlyB R W W') : OnlyB R w W' := h.bel.trans k
set_option maxRecDepth 100000 in
set_option maxHeartbeats 4000000 in
theorem imgImage_is (h : RaAt B w R l) : Calls Tryd.prog 43 #[.pointer (some ⟨R, 0, none⟩)] w (AllTo R w l) := by
  obtain ⟨i0, hi, hz0, hz1, hz2⟩ := info_parts infoU32G
  obtain ⟨i2, hi2, hz20, hz21, hz22⟩ := info_parts infoI32N
  obtain ⟨i3, hi3, hz30, hz31, hz32⟩ := info_parts infoBoolN
  have GN := GmAt.new h
  clear h
  go_enter Tryd.func43, Tryd.ntmps43
  go_upto_region 2 with (fail)
  generalize (w.alloc (.cells #[.slice none 0 0, .slice none 0 0, .slice none 0 0, .slice none 0 0, .slice none 0 0] 27)).alloc (.cells #[.slice none 0 0, .slice none 0 0, .slice none 0 0, .slice none 0 0, .slice none 0 0] 27) = W0 at *
  obtain ⟨M, hM⟩ : ∃ M, w.heap.size + 1 = M := ⟨_, rfl⟩
  obtain ⟨Q, hQ⟩ : ∃ Q, w.heap.size = Q := ⟨_, rfl⟩
  rw [hM, hQ] at GN
  simp only [hM]
  simp only [hQ]
  clear hM hQ
  have HA := Lib.hid (congrFun pAll_eq l)
  cases hp : pHead l with
  | error x =>
    have HN := Lib.hid (RaPz.no (imgRHead_is GN.rd) hp)
    have HX := Lib.hid (show pAll l = .error x by rw [HA.out]; exact pBind_err hp)
    have HG := Lib.hid GN
    clear hp GN
    go_wp2_with (go_at_call 48; ((with_reducible refine HN.out.mono ?_); rintro e w5 ⟨rfl, t⟩))
    exact ⟨rfl, .inr ⟨x, HX.out, rfl, HG.out.gone t⟩⟩
  | ok q =>
    obtain ⟨u, r1⟩ := q
    have HN := Lib.hid (RaPz.ok (imgRHead_is GN.rd) hp)
    have HX := Lib.hid (show pAll l = t1 r1 by rw [HA.out]; exact pBind_ok hp)
    clear hp HA
    go_upto_region 3 with (go_at_call 48; ((with_reducible refine HN.out.mono ?_); rintro e w5 ⟨rfl, t⟩); have G1 := GN.read t; clear t)
    clear GN HN
    cases hp : pNum 2 r1 with
    | error x =>
      have HN := Lib.hid (RaPz.no (imgRPair_is G1.rd) hp)
      have HX1 := Lib.hid (show pAll l = .error x by rw [HX.out]; exact pBind_err hp)
      have HG := Lib.hid G1
      clear hp G1
      go_wp2_with (go_at_call 49; ((with_reducible refine HN.out.mono ?_); rintro e w6 ⟨rfl, t⟩))
      exact ⟨rfl, .inr ⟨x, HX1.out, rfl, HG.out.gone t⟩⟩
    | ok q =>
      obtain ⟨x, r2⟩ := q
      have HN := Lib.hid (RaPz.ok (imgRPair_is G1.rd) hp)
      obtain ⟨b1, b2⟩ : 0 ≤ x ∧ x < 65536 := pNum_bd (k := 2) G1.rd.bd hp
      obtain ⟨n, rfl⟩ : ∃ n : Nat, x = n := ⟨x.toNat, by omega⟩
      have HX1 := Lib.hid (show pAll l = pBind (pMany (pNum 4) n) (fun code => t2 ([] ++ code)) r2 by rw [HX.out]; unfold t1; rw [pBind_ok hp, Int.toNat_natCast]; rfl)
      clear hp HX
      go_wp2_with (go_at_call 49; ((with_reducible refine HN.out.mono ?_); rintro e w6 ⟨rfl, t⟩); have G2 := G1.read t; clear t)
      clear G1 HN
      go_loopw [8] (fun i wr => ∃ (k : Nat) (acc r : List Int) (v0 : Value), k ≤ n ∧ i = .int .i64 (k : Int) ∧ GmAt B w wr R M Q r v0 (.slice none 0 0) (.slice none 0 0) (.slice none 0 0) (.slice none 0 0) ⟨acc, [], [], [], []⟩ ∧ acc.length = k ∧ pAll l = pBind (pMany (pNum 4) (n - k)) (fun vs => t2 (acc ++ vs)) r) (fun i _ => n - (intOf i).toNat)
      case atStart => exact ⟨0, [], r2, _, by omega, rfl, G2, rfl, HX1.out⟩
      case round =>
        clear G2 HX1
        obtain ⟨k, acc, r, v0, hk, rfl, G, hlk, he⟩ := hrel
        have HE := Lib.hid he
        clear he
        by_cases hlt : k < n
        · have hlt' : (k : Int) < n := by omega
          have hnk : n - k = (n - (k + 1)) + 1 := by omega
          have HG := Lib.hid (G.keep (W' := wr.drew) (Below.refl _ _).drew)
          have cd := HG.out.blk.cell 0
          have HNO := Lib.hid (fun y (hq : pNum 4 r = .error y) => (show pAll l = .error y by rw [HE.out, hnk]; exact many_no hq))
          have HYES := Lib.hid (fun x r3 (hq : pNum 4 r = .ok (x, r3)) => (show pAll l = pBind (pMany (pNum 4) (n - (k + 1))) (fun vs => t2 ((acc ++ [x]) ++ vs)) r3 by
              rw [HE.out, hnk, many_ok hq]
              simp only [List.append_assoc, List.singleton_append]))
          clear hnk G
          obtain ⟨av, cv, rfl, -⟩ := HG.out.r0.wsn hlk
          go_upto_region 5 with (fail)
          go_region_law (first
            | (go_simp; go_at_call 50; go_loud (((with_reducible refine (imgWord_is HG.out.rd).mono ?_); rintro e w5 (⟨x, r3, hq, rfl, t⟩ | ⟨y, hq, rfl, t⟩)); rotate_left; exact And.intro rfl (AllTo.no (HNO.out y hq) (HG.out.gone t))); have HX := Lib.hid (HYES.out _ _ hq); have hxw := u32_back (pNum_bd (k := 4) HG.out.rd.bd hq); have G5 := HG.out.read t; have H5 := Lib.hid G5; have c5 := G5.blk.cell 0; have c8 := (fun o => ((G5.blk.keep ((Below.refl w5.heap.size w5).alloc (Nat.le_refl _) o)).cell 0)); have HALL := Lib.hid (fun o => G5.r0.keep ((Below.refl w5.heap.size w5).alloc (Nat.le_refl _) o)); have hsz5 := G5.bel.size; clear t G5 hq)
            | (refine step_append_n rfl _ _ 22 rfl w.heap.size 43 i0 (.int .u32 0) Tryd.underlying22 hi hz0 hz1 (by omega) rfl rfl (HALL.out _) rfl ((BlkAt.newb _ _ _ rfl).cell 0) (by show acc.length + 1 ≤ _; omega) (by simp; omega) ?_; intro v' w6 hown hgr hnx; obtain ⟨a6, c6, rfl, -⟩ := hown.wsn (m := k + 1) (by simp; omega); have hbk := ((H5.out.blk).keep ((Below.refl w5.heap.size w5).alloc (Nat.le_refl _) _)).kept (Keeps.of_grown (F := fun j => (Value.slice av k cv).ownBlock = some j) hgr fun _ q => q) (own_off_type H5.out.r0 H5.out.blk (by decide)); have q1 := hbk.cell 0; have q2 := hbk.free 0; have HC := Lib.hid ((H5.out.keep ((Below.refl w5.heap.size w5).alloc (Nat.le_refl _) _)).code hown hgr); clear hown hgr hnx hbk))
          all_goals
            go_wp2
            have hc := HC.out
            exact ⟨⟨k + 1, acc ++ [x], r3, _, by omega, by go_num, hc, by rw [List.length_append, hlk]; rfl, HX.out⟩, by simp [intOf]; omega⟩
        · obtain rfl : k = n := by omega
          have HN := Lib.hid (show pAll l = t2 acc r by rw [HE.out, Nat.sub_self, many_zero, List.append_nil])
          have HNO := Lib.hid (fun y (hq : pNum 2 r = .error y) => (show pAll l = .error y by rw [HN.out]; unfold t2; exact pBind_err hq))
          have HYES := Lib.hid (fun x r3 (hq : pNum 2 r = .ok (x, r3)) => (show pAll l = pBind (pMany pDatum x.toNat) (fun ds => t3 acc ([] ++ ds)) r3 by rw [HN.out]; unfold t2; rw [pBind_ok hq]; rfl))
          have HG := Lib.hid G
          clear G
          go_wp2_with (go_at_call 49; (((with_reducible refine (imgRPair_is HG.out.rd).mono ?_); rintro e w5 (⟨x, r3, hq, rfl, t⟩ | ⟨y, hq, rfl, t⟩)); rotate_left; exact And.intro rfl (AllTo.no (HNO.out y hq) (HG.out.gone t))); have HX := Lib.hid (HYES.out _ _ hq); obtain ⟨y1, y2⟩ := pNum_bd (k := 2) HG.out.rd.bd hq; have G5 := HG.out.read t; clear t hq)
          obtain ⟨n2, rfl⟩ : ∃ n2 : Nat, x = n2 := ⟨x.toNat, by omega⟩
          have y2 : (n2 : Int) < 65536 := y2
          rw [Int.toNat_natCast] at HX
          clear y1 hlt hk
          go_loopw [21] (fun i wr => ∃ (k : Nat) (ds : List (Int × Bool)) (r : List Int) (v1 v2 : Value), k ≤ n2 ∧ i = .int .i64 (k : Int) ∧ GmAt B w wr R M Q r v0 v1 v2 (.slice none 0 0) (.slice none 0 0) ⟨acc, ds.map (·.1), ds.map (·.2), [], []⟩ ∧ ds.length = k ∧ pAll l = pBind (pMany pDatum (n2 - k)) (fun vs => t3 acc (ds ++ vs)) r) (fun i _ => n2 - (intOf i).toNat)
          case atStart => exact ⟨0, [], r3, _, _, by omega, rfl, G5, rfl, HX.out⟩
          case round =>
            clear G5 HX HNO HYES HN HE
            obtain ⟨k, ds, r, v1, v2, hk, rfl, G, hld, he⟩ := hrel
            have HE := Lib.hid he
            clear he
            by_cases hlt : k < n2
            · have hlt' : (k : Int) < n2 := by omega
              have hnk : n2 - k = (n2 - (k + 1)) + 1 := by omega
              have hs := HE.out
              rw [hnk, datum_step] at hs
              have HG := Lib.hid (G.keep (W' := wr.drew) (Below.refl _ _).drew)
              have cd := HG.out.blk.cell 1
              have HNO := Lib.hid (fun y (hq : pNum 4 r = .error y) => (show pAll l = .error y by rw [hs]; exact pBind_err hq))
              have HYES := Lib.hid (fun x r3 (hq : pNum 4 r = .ok (x, r3)) => (show pAll l = pBind pFlag (fun b => pBind (pMany pDatum (n2 - (k + 1))) fun vs => t3 acc (ds ++ ((wrap32 x, b) :: vs))) r3 by rw [hs, pBind_ok hq]))
              clear hnk G hs HE
              have hl1 : (ds.map (·.1)).length = k := by rw [List.length_map]; exact hld
              have hl2 : (ds.map (·.2)).length = k := by rw [List.length_map]; exact hld
              obtain ⟨av, cv, rfl, -⟩ := HG.out.r1.wsn hl1
              obtain ⟨aw, nw, cw, rfl⟩ : ∃ a n c, v2 = .slice a n c := els_shape HG.out.r2
              have HL1 := Lib.hid hl1
              have HL2 := Lib.hid hl2
              clear hl1 hl2
              go_upto_region 9 with (fail)
              go_region_law (first
                | (go_simp; go_at_call 50; go_loud (((with_reducible refine (imgWord_is HG.out.rd).mono ?_); rintro e w5 (⟨x, r3, hq, rfl, t⟩ | ⟨y, hq, rfl, t⟩)); rotate_left; exact And.intro rfl (AllTo.no (HNO.out y hq) (HG.out.gone t))); have HX := Lib.hid (HYES.out _ _ hq); have G5 := HG.out.read t; have H5 := Lib.hid G5; have c5 := G5.blk.cell 1; have c8 := (fun o => ((G5.blk.keep ((Below.refl w5.heap.size w5).alloc (Nat.le_refl _) o)).cell 1)); have HALL := Lib.hid (fun o => G5.r1.keep ((Below.refl w5.heap.size w5).alloc (Nat.le_refl _) o)); have hsz5 := G5.bel.size; clear t G5 hq)
                | (refine step_append_n rfl _ _ 23 rfl w.heap.size 21 i2 (.int .i32 0) Tryd.underlying23 hi2 hz20 hz21 (by omega) rfl rfl (HALL.out _) rfl ((BlkAt.newb _ _ _ rfl).cell 0) (by have := HL1.out; simp only at *; omega) (by simp; omega) ?_; intro v' w6 hown hgr hnx; obtain ⟨a6, c6, rfl, -⟩ := hown.wsn (m := k + 1) (by have := HL1.out; simp only [List.length_append, List.length_singleton] at *; omega); have hbk := ((H5.out.blk).keep ((Below.refl w5.heap.size w5).alloc (Nat.le_refl _) _)).kept (Keeps.of_grown (F := fun j => (Value.slice av k cv).ownBlock = some j) hgr fun _ q => q) (own_off_type H5.out.r1 H5.out.blk (by decide)); have q1 := hbk.cell 1; have q2 := hbk.free 1; have HC := Lib.hid ((H5.out.keep ((Below.refl w5.heap.size w5).alloc (Nat.le_refl _) _)).data hown hgr); clear hown hgr hnx hbk))
              all_goals
                go_upto_region 10 with (fail)
                generalize w6.setCell ⟨M, 1, none⟩ (.slice a6 (k + 1) c6) = W7 at HC ⊢
                have HD := Lib.hid (HC.out.keep (W' := W7.drew) (Below.refl _ _).drew)
                have HNO2 := Lib.hid (fun y (hq : pFlag r3 = .error y) => (show pAll l = .error y by rw [HX.out]; exact pBind_err hq))
                have HYES2 := Lib.hid (fun b r4 (hq : pFlag r3 = .ok (b, r4)) => (show pAll l = pBind (pMany pDatum (n2 - (k + 1))) (fun vs => t3 acc ((ds ++ [(wrap32 x, b)]) ++ vs)) r4 by
                  rw [HX.out, pBind_ok hq]
                  simp only [List.append_assoc, List.singleton_append]))
                clear q1 q2 c5 c8 HALL hsz5 H5 HG HNO HYES HL1 cd HC HX
                have ce := HD.out.blk.cell 2
                go_region_law (first
                  | (go_simp; go_at_call 51; go_loud (((with_reducible refine (imgRFlag_is HD.out.rd).mono ?_); rintro e w8 (⟨b, r4, hq, rfl, t⟩ | ⟨y, hq, rfl, t⟩)); rotate_left; exact And.intro rfl (AllTo.no (HNO2.out y hq) (HD.out.gone t))); have HX := Lib.hid (HYES2.out _ _ hq); have G5 := HD.out.read t; have H5 := Lib.hid G5; have c5 := G5.blk.cell 2; have c8 := (fun o => ((G5.blk.keep ((Below.refl w8.heap.size w8).alloc (Nat.le_refl _) o)).cell 2)); have HALL := Lib.hid (fun o => G5.r2.keep ((Below.refl w8.heap.size w8).alloc (Nat.le_refl _) o)); have hsz5 := G5.bel.size; clear t G5 hq)
                  | (refine step_append_el1 rfl _ _ 24 rfl w.heap.size 4 i3 (.bool false) Tryd.underlying24 hi3 hz30 hz31 (by omega) rfl rfl (HALL.out _) rfl (ElAt.one (K := boolK) w8 4 b #[.bool b] rfl) (by have := HL2.out; simp only at *; omega) (by simp; omega) ?_; intro v' w9 hown hgr hnx; obtain ⟨a7, n7, c7, rfl⟩ : ∃ a n c, v' = .slice a n c := els_shape hown; have hbk := ((H5.out.blk).keep ((Below.refl w8.heap.size w8).alloc (Nat.le_refl _) _)).kept (Keeps.of_grown (F := fun j => (Value.slice aw nw cw).ownBlock = some j) hgr fun _ q => q) (own_off_type H5.out.r2 H5.out.blk (by decide)); have q1 := hbk.cell 2; have q2 := hbk.free 2; have HF := Lib.hid ((H5.out.keep ((Below.refl w8.heap.size w8).alloc (Nat.le_refl _) _)).sec hown hgr); clear hown hgr hnx hbk))
                all_goals
                  go_wp2
                  have hc := HF.out
                  exact ⟨⟨k + 1, ds ++ [(wrap32 x, b)], r4, _, _, by omega, by go_num, by rw [List.map_append, List.map_append]; exact hc, by rw [List.length_append, hld]; rfl, HX.out⟩, by simp [intOf]; omega⟩
            · obtain rfl : k = n2 := by omega
              have HN := Lib.hid (show pAll l = t3 acc ds r by rw [HE.out, Nat.sub_self, many_zero, List.append_nil])
              have HNO := Lib.hid (fun y (hq : pPl r = .error y) => (show pAll l = .error y by rw [HN.out]; unfold t3; exact pBind_err hq))
              have HYES := Lib.hid (fun q r3 (hq : pPl r = .ok (q, r3)) => (show pAll l = t4 acc ds q r3 by rw [HN.out]; unfold t3; rw [pBind_ok hq]))
              have HG := Lib.hid G
              clear G HE
              go_upto_region 13 with (go_at_call 52; (((with_reducible refine (imgRPlaces_is HG.out.rd).mono ?_); rintro e w5 (⟨q3, r3, v3, hq, rfl, o3, t⟩ | ⟨y, hq, rfl, t⟩)); rotate_left; exact And.intro rfl (AllTo.no (HNO.out y hq) (HG.out.gone t))); have HX := Lib.hid (HYES.out _ _ hq); have G5 := HG.out.read t; obtain ⟨a3, n3, c3, rfl⟩ : ∃ a n c, v3 = .slice a n c := row_shape o3; have HI := Lib.hid (G5.inn (o3.mono HG.out.bel.size)); have q1 := G5.blk.cell 3; have q2 := G5.blk.free 3; clear t hq G5 o3)
              generalize w5.setCell ⟨M, 3, none⟩ (.slice a3 n3 c3) = W6 at HI ⊢
              have HNO2 := Lib.hid (fun y (hq : pPl r3 = .error y) => (show pAll l = .error y by rw [HX.out]; unfold t4; exact pBind_err hq))
              have HYES2 := Lib.hid (fun q4 r4 (hq : pPl r3 = .ok (q4, r4)) => (show pAll l = pBind pEnd (fun _ => pRet ⟨acc, ds.map (·.1), ds.map (·.2), q3, q4⟩) r4 by rw [HX.out]; unfold t4; rw [pBind_ok hq]))
              clear q1 q2 HG HNO HYES HN HX
              go_upto_region 14 with (go_at_call 52; (((with_reducible refine (imgRPlaces_is HI.out.rd).mono ?_); rintro e w7 (⟨q4, r4, v4, hq, rfl, o4, t⟩ | ⟨y, hq, rfl, t⟩)); rotate_left; exact And.intro rfl (AllTo.no (HNO2.out y hq) (HI.out.gone t))); have HX := Lib.hid (HYES2.out _ _ hq); have G7 := HI.out.read t; obtain ⟨a4, n4, c4, rfl⟩ : ∃ a n c, v4 = .slice a n c := row_shape o4; have HO := Lib.hid (G7.out (o4.mono HI.out.bel.size)); have q1 := G7.blk.cell 4; have q2 := G7.blk.free 4; clear t hq G7 o4)
              generalize w7.setCell ⟨M, 4, none⟩ (.slice a4 n4 c4) = W8 at HO ⊢
              have HNO3 := Lib.hid (fun y (hq : pEnd r4 = .error y) => (show pAll l = .error y by rw [HX.out]; exact pBind_err hq))
              have HYES3 := Lib.hid (fun u r5 (hq : pEnd r4 = .ok (u, r5)) => (show pAll l = .ok (⟨acc, ds.map (·.1), ds.map (·.2), q3, q4⟩, []) by rw [HX.out, pBind_ok hq, pEnd_nil hq]; rfl))
              clear q1 q2 HNO2 HYES2 HX HI
              obtain ⟨a0, n0, c0, rfl⟩ : ∃ a n c, v0 = .slice a n c := row_shape HO.out.r0
              obtain ⟨a1, n1, c1, rfl⟩ : ∃ a n c, v1 = .slice a n c := row_shape HO.out.r1
              obtain ⟨a2, n2', c2, rfl⟩ : ∃ a n c, v2 = .slice a n c := els_shape HO.out.r2
              go_wp2_with (go_at_call 53; (((with_reducible refine (imgREnd_is HO.out.rd).mono ?_); rintro e w9 (⟨u, r5, hq, rfl, t⟩ | ⟨y, hq, rfl, t⟩)); rotate_left; exact And.intro rfl (AllTo.no (HNO3.out y hq) (HO.out.gone t))); have HX := Lib.hid (HYES3.out _ _ hq); have G9 := HO.out.read t; have H9 := Lib.hid G9; have m0 := G9.blk.cell 0; have m1 := G9.blk.cell 1; have m2 := G9.blk.cell 2; have m3 := G9.blk.cell 3; have m4 := G9.blk.cell 4; have z0 := G9.res.cell 0; have z1 := G9.res.cell 1; have z2 := G9.res.cell 2; have z3 := G9.res.cell 3; have z4 := G9.res.cell 4; have f0 := G9.res.free 0; have f1 := G9.res.free 1; have f2 := G9.res.free 2; have f3 := G9.res.free 3; have f4 := G9.res.free 4; clear t hq G9)
              have hB := H9.out.done
              generalize ((((w9.setCell ⟨Q, 0, none⟩ (.slice a0 n0 c0)).setCell ⟨Q, 1, none⟩ (.slice a1 n1 c1)).setCell ⟨Q, 2, none⟩ (.slice a2 n2' c2)).setCell ⟨Q, 3, none⟩ (.slice a3 n3 c3)).setCell ⟨Q, 4, none⟩ (.slice a4 n4 c4) = W5 at hB ⊢
              obtain ⟨⟨⟨p0, p1, p2, p3, p4⟩, pb⟩, im, nw⟩ := hB
              exact bodyPost_ret (v := .agg #[.slice a0 n0 c0, .slice a1 n1 c1, .slice a2 n2' c2, .slice a3 n3 c3, .slice a4 n4 c4]) (by simp [results, Tryd.results43, go_sem, p0, p1, p2, p3, p4]) rfl (.inl ⟨_, _, _, _, _, _, _, _, _, _, _, _, _, _, _, _, HX.out, rfl, im, nw, pb⟩)
end
end Go.Proofs.YtochnjbacglhbaaDoor
