/- The library's Insert of one number into a list of the call's own. Condition: as few numbers as 2048. -/
import Derived.Test.YtpgjdbnhbkggpaaPlaA
import Derived.Test.YtpgjdbnhbkggpaaShelfG
namespace Go.Proofs.Ytpgjdbnhbkggpaa
open Go.RowKit Go.IntWalk

theorem BlkAt.shape {b : Nat} {T : TypeId} {cs : Array Value} {w : World} (h : BlkAt b T cs w) : w.shape? b = some (T, cs.size) := by
  unfold BlkAt at h
  unfold World.shape?
  rw [h]
theorem setsA_size : ∀ (l : List Value) (cs : Array Value) (o : Nat), (setsA cs o l).size = cs.size
  | [], _, _ => rfl
  | v :: r, cs, o => by unfold setsA; rw [setsA_size r]; simp
/-- A block whose first cells are a list's. -/
theorem own_of_blk {base g cap : Nat} {T : TypeId} {cur : Array Value} {l : List Int} {w : World} (h : BlkAt g T cur w) (hb : base ≤ g) (hn : l.length ≤ cap) (hc : cap ≤ maxLen) (hs : cur.size = cap) (he : ∀ i, i < l.length → cur[i]? = some (.int .i64 (el l i))) :
    OwnEl (numK .i64) w base T (.slice (some ⟨g, 0, none⟩) l.length cap) l := by
  refine ⟨Kd.vs_len _ _, .inr ⟨g, cap, cur, rfl, hb, h, hn, hc, by rw [hs]; exact (Nat.mul_one cap).symm, ?_⟩⟩
  rw [numK_vs, show l.length * (numK .i64).k = l.length from Nat.mul_one _]
  apply List.ext_getElem?
  intro i
  rw [List.getElem?_take, List.getElem?_map]
  by_cases hi : i < l.length
  · rw [if_pos hi, Array.getElem?_toList, he i hi, List.getElem?_eq_getElem hi, el_eq hi]; rfl
  · rw [if_neg hi, List.getElem?_eq_none (by omega)]; rfl
/-- What Insert answers: a list of the call's own. -/
def InsTo (B : Nat) (v : Value) (l : List Int) (w : World) (e : Ending) (w' : World) : Prop :=
  ∃ v', e = .returned v' ∧ OwnEl (numK .i64) w' B 3 v' l ∧ w.grownBy w' v.ownBlock ∧ Nexts w v v'
theorem ins_len (ns : List Int) (x : Int) {p : Nat} (hp : p ≤ ns.length) : (ns.take p ++ x :: ns.drop p).length = ns.length + 1 := by simp; omega
theorem end_cells (ns : List Int) (x : Int) (Z : Array Value) {i : Nat} (hi : i < ns.length + 1) : (((ns.map (Value.int .i64)) ++ [Value.int .i64 x]).toArray ++ Z)[i]? = some (.int .i64 (el (ns.take ns.length ++ x :: ns.drop ns.length) i)) := by
  rw [Array.getElem?_append_left (by simp; omega), List.getElem?_toArray, el_ins ns ns.length x (Nat.le_refl _)]
  by_cases h : i < ns.length
  · rw [if_pos h, List.getElem?_append_left (by simpa using h), List.getElem?_map, List.getElem?_eq_getElem h, el_eq h]; rfl
  · obtain rfl : i = ns.length := by omega
    rw [if_neg h, if_pos rfl, List.getElem?_append_right (by simp)]
    simp
section
variable {B vb p : Nat} {v : Value} {ns : List Int} {x : Int} {w : World}
theorem plaInsert_is (h : OwnEl (numK .i64) w B 3 v ns) (hv : BlkAt vb 3 #[.int .i64 x] w) (hne : v.ownBlock ≠ some vb) (hp : p ≤ ns.length) (hn : ns.length ≤ 2048) (hB : B ≤ w.heap.size) :
    Calls Try.prog 23 #[v, .int .i64 p, .slice (some ⟨vb, 0, none⟩) 1 1] w (InsTo B v (ns.take p ++ x :: ns.drop p) w) := by
  have hlen := ins_len ns x hp
  have hvs : ∀ j u, [Value.int .i64 x][j]? = some u → w.cell? ⟨vb, 0 + j, none⟩ = some u := fun j u hj => by
    cases j with
    | zero => simp at hj; subst hj; exact hv.cell 0
    | succ j => simp at hj
  have h1v : ∀ u ∈ [Value.int .i64 x], u.oneCell' = true := fun u hu => by simp at hu; subst hu; rfl
  have h1c : ∀ u ∈ ns.map (Value.int .i64), u.oneCell' = true := fun u hu => by
    obtain ⟨y, _, rfl⟩ := List.mem_map.1 hu; rfl
  have hcl : (ns.map (Value.int .i64)).length = ns.length := List.length_map _
  have grow : ∀ {cap : Nat} (cur : Array Value) (W : World), BlkAt w.heap.size 3 cur W → Below w.heap.size w W → cur.size = cap → ns.length + 1 ≤ cap → cap ≤ maxLen → (∀ i, i < ns.length + 1 → cur[i]? = some (.int .i64 (el (ns.take p ++ x :: ns.drop p) i))) →
      InsTo B v (ns.take p ++ x :: ns.drop p) w (.returned (.slice (some ⟨w.heap.size, 0, none⟩) (ns.length + 1) cap)) W := fun {cap} cur W hb hW hs h1 h2 he => by
    refine ⟨_, rfl, ?_, ⟨hW.os, hW.tape, hW.output, hW.size, fun k hk _ => hW.block k hk⟩, ?_⟩
    · have := own_of_blk (l := ns.take p ++ x :: ns.drop p) hb hB (by rw [hlen]; exact h1) h2 hs (fun i hi => he i (by rw [← hlen]; exact hi))
      rwa [hlen] at this
    · intro j q
      simp only [Value.ownBlock, Option.some.injEq] at q
      exact .inr (by omega)
  obtain ⟨hl0, hcase⟩ := id h
  rcases hcase with ⟨rfl, h0⟩ | ⟨g, cap, cur, rfl, hg, hh, hnc, hcm, hsz, htake⟩
  · obtain rfl : ns = [] := List.eq_nil_of_length_eq_zero h0
    obtain rfl : p = 0 := by simpa using hp
    refine (Any2.slices_Insert_int_end_grow insInt none 0 0 vb 0 1 1 [] [.int .i64 x] w (by decide) (by decide) (by decide) (by decide) rfl rfl (fun _ => rfl) (fun a e => (nomatch e)) hvs h1v).mono ?_
    rintro e w' ⟨rfl, rfl⟩
    have hge := grownCap_ge w (0 + 1) 0 (insInt_ren.t 3)
    have hle := grownCap_le_maxLen w (0 + 1) 0 (insInt_ren.t 3) (by unfold maxLen; omega)
    obtain ⟨cap, hcap⟩ : ∃ cap, grownCap w (0 + 1) 0 (insInt_ren.t 3) = cap := ⟨_, rfl⟩
    rw [hcap] at hge hle ⊢
    exact grow _ _ (BlkAt.new w.drew _ _) ((Below.refl _ _).drew.alloc (Nat.le_refl _) _) (by rw [Array.size_append, size_zeroCells]; simp [Value.cells]; omega) hge hle (fun i hi => end_cells [] x _ hi)
  · have hgw := (Array.getElem?_eq_some_iff.1 hh).1
    have hbk : BlkAt g 3 cur w := hh
    have hcs : ∀ j u, (ns.map (Value.int .i64))[j]? = some u → w.cell? ⟨g, 0 + j, none⟩ = some u := fun j u hj => by
      have hj' : j < ns.length := by have := (List.getElem?_eq_some_iff.1 hj).1; rwa [hcl] at this
      rw [Nat.zero_add]
      have := OwnEl.cell h rfl hj' (j := 0) (by decide)
      simp only [numK, Nat.mul_one, Nat.add_zero] at this
      rw [this]
      rw [List.getElem?_map, List.getElem?_eq_getElem hj', el_eq hj'] at hj
      simpa using hj
    have hcur : ∀ i, i < ns.length → cur[i]? = some (.int .i64 (el ns i)) := fun i hi => by
      have := hcs i (.int .i64 (el ns i)) (by rw [List.getElem?_map, List.getElem?_eq_getElem hi, el_eq hi]; rfl)
      rw [Nat.zero_add, hbk.cell] at this
      exact this
    have hcz : cur.size = cap := by rw [hsz]; exact Nat.mul_one cap
    have hvg : vb ≠ g := fun e => hne (by simp [Value.ownBlock, e])
    have place : ∀ (cur' : Array Value) (W : World), BlkAt g 3 cur' W → Keeps (fun j => j = g) w W → cur'.size = cap → ns.length + 1 ≤ cap → (∀ i, i < ns.length + 1 → cur'[i]? = some (.int .i64 (el (ns.take p ++ x :: ns.drop p) i))) →
        InsTo B (.slice (some ⟨g, 0, none⟩) ns.length cap) (ns.take p ++ x :: ns.drop p) w (.returned (.slice (some ⟨g, 0, none⟩) (ns.length + 1) cap)) W := fun cur' W hb hW hs h1 he => by
      refine ⟨_, rfl, ?_, ⟨hW.os, hW.tape, hW.output, hW.size, fun k hk hk2 => hW.block k hk (fun e => hk2 (by simp [Value.ownBlock, e]))⟩, ?_⟩
      · have := own_of_blk (l := ns.take p ++ x :: ns.drop p) hb hg (by rw [hlen]; exact h1) hcm hs (fun i hi => he i (by rw [← hlen]; exact hi))
        rwa [hlen] at this
      · intro j q
        exact .inl q
    by_cases hroom : ns.length + 1 ≤ cap
    · by_cases hend : p = ns.length
      · subst hend
        refine (Any2.slices_Insert_int_end_room insInt g 0 ns.length cap vb 0 1 1 [.int .i64 x] w (by decide) hroom (by unfold maxLen at hcm; omega) rfl (fun j hj => ?_) (fun j hj => hbk.free _) hvs h1v).mono ?_
        · obtain rfl : j = 0 := by omega
          rw [hbk.cell, Array.getElem?_eq_getElem (by omega)]; rfl
        · rintro e w' ⟨rfl, rfl⟩
          obtain ⟨k1, k2⟩ := setCells_blk [.int .i64 x] (0 + ns.length) hbk
          refine place _ _ k1 k2 (by simp [setsA]; exact hcz) hroom (fun i hi => ?_)
          rw [el_ins ns ns.length x (Nat.le_refl _)]
          by_cases q : i < ns.length
          · rw [if_pos q, setsA_out _ _ _ (.inl (by omega))]; exact hcur i q
          · obtain rfl : i = ns.length := by omega
            rw [if_neg q, if_pos rfl, setsA_in _ _ _ (by omega) (by simp) (by omega)]; simp
      · refine (Any2.slices_Insert_int_shift insInt g 0 ns.length cap p vb 0 1 1 (ns.map (Value.int .i64)) [.int .i64 x] w (by omega) (by decide) hroom (by unfold maxLen at hcm; omega) hvg hcl rfl hcs (fun j hj => ?_) (fun j hj => hbk.free _) hvs h1c h1v 3 3 1 cap (by rw [hv.shape]; rfl) (by rw [hbk.shape, hcz]) (by omega) (hv.free _) (hv.free _)).mono ?_
        · rw [hbk.cell, Array.getElem?_eq_getElem (by omega)]; rfl
        · rintro e w' ⟨rfl, rfl⟩
          have hbd := hbk.keep (Below.refl w.heap.size w).drew
          obtain ⟨k1, k2⟩ := setCells_blk ((ns.map (Value.int .i64)).drop p) (0 + (p + 1)) hbd
          obtain ⟨k3, k4⟩ := setCells_blk [.int .i64 x] (0 + p) k1
          have hz1 : (setsA cur (0 + (p + 1)) ((ns.map (Value.int .i64)).drop p)).size = cap := by
            have := k1.shape
            rw [setsA_size]; exact hcz
          refine place _ _ k3 (((Keeps.of_below _ (Below.refl w.heap.size w).drew).trans k2).trans k4) (by rw [setsA_size]; exact hz1) hroom (fun i hi => ?_)
          have hdl : ((ns.map (Value.int .i64)).drop p).length = ns.length - p := by rw [List.length_drop, hcl]
          rw [el_ins ns p x hp]
          by_cases q : i < p
          · rw [if_pos q, setsA_out _ _ _ (.inl (by omega)), setsA_out _ _ _ (.inl (by omega))]; exact hcur i (by omega)
          · rw [if_neg q]
            by_cases q2 : i = p
            · subst q2
              rw [if_pos rfl, setsA_in _ _ _ (by omega) (by simp) (by omega)]; simp
            · rw [if_neg q2, setsA_out _ _ _ (.inr (by simp; omega)), setsA_in _ _ _ (by omega) (by omega) (by omega), List.getElem?_drop, List.getElem?_map, show p + (i - (0 + (p + 1))) = i - 1 by omega, List.getElem?_eq_getElem (by omega), el_eq (by omega)]; rfl
    · by_cases hend : p = ns.length
      · subst hend
        refine (Any2.slices_Insert_int_end_grow insInt (some ⟨g, 0, none⟩) ns.length cap vb 0 1 1 (ns.map (Value.int .i64)) [.int .i64 x] w (by decide) hnc (by omega) (by omega) hcl rfl (fun e => (nomatch e)) (fun a e j u hj => by
          obtain rfl : (⟨g, 0, none⟩ : Addr) = a := by simpa using e
          rw [Addr.add_lit]; exact hcs j u hj) hvs h1v).mono ?_
        rintro e w' ⟨rfl, rfl⟩
        have hge := grownCap_ge w (ns.length + 1) cap (insInt_ren.t 3)
        have hle := grownCap_le_maxLen w (ns.length + 1) cap (insInt_ren.t 3) (by unfold maxLen; omega)
        obtain ⟨cap2, hcap⟩ : ∃ c, grownCap w (ns.length + 1) cap (insInt_ren.t 3) = c := ⟨_, rfl⟩
        rw [hcap] at hge hle ⊢
        exact grow _ _ (BlkAt.new w.drew _ _) ((Below.refl _ _).drew.alloc (Nat.le_refl _) _) (by rw [Array.size_append, size_zeroCells]; simp [Value.cells]; omega) hge hle (fun i hi => end_cells ns x _ hi)
      · refine (Any2.slices_Insert_int_grow insInt g 0 ns.length cap p vb 0 1 1 (ns.map (Value.int .i64)) [.int .i64 x] w (by omega) (by decide) hnc (by omega) (by omega) hcl rfl hcs hvs h1c h1v).mono ?_
        rintro e w' ⟨rfl, rfl⟩
        have hge := grownCap_ge w (ns.length + 1) cap (insInt_ren.t 3)
        have hle := grownCap_le_maxLen w (ns.length + 1) cap (insInt_ren.t 3) (by unfold maxLen; omega)
        obtain ⟨cap2, hcap⟩ : ∃ c, grownCap w (ns.length + 1) cap (insInt_ren.t 3) = c := ⟨_, rfl⟩
        rw [hcap] at hge hle ⊢
        obtain ⟨A, hA⟩ : ∃ A, ((ns.map (Value.int .i64)).take p).toArray ++ Builtin.zeroCells (Value.int .i64 0).cells (ns.length + 1 - p) ++ Builtin.zeroCells (Value.int .i64 0).cells (cap2 - (ns.length + 1)) = A := ⟨_, rfl⟩
        have hAs : A.size = cap2 := by
          rw [← hA, Array.size_append, Array.size_append, size_zeroCells, size_zeroCells]; simp [Value.cells]; omega
        have hAp : ∀ i, i < p → A[i]? = some (.int .i64 (el ns i)) := fun i hi => by
          rw [← hA, Array.getElem?_append_left (by rw [Array.size_append]; simp; omega), Array.getElem?_append_left (by simp; omega), List.getElem?_toArray, List.getElem?_take, if_pos hi, List.getElem?_map, List.getElem?_eq_getElem (by omega), el_eq (by omega)]; rfl
        rw [hA]
        have b0 := BlkAt.new w (insInt_ren.t 3) A
        have b1 := b0.keep (Below.refl (w.alloc (.cells A (insInt_ren.t 3))).heap.size _).drew
        obtain ⟨k1, k2⟩ := setCells_blk [.int .i64 x] p b1
        have k1' := k1.keep (Below.refl _ _).drew
        obtain ⟨k3, k4⟩ := setCells_blk ((ns.map (Value.int .i64)).drop p) (p + 1) k1'
        have hdl : ((ns.map (Value.int .i64)).drop p).length = ns.length - p := by rw [List.length_drop, hcl]
        have hz1 : (setsA A p [.int .i64 x]).size = cap2 := by rw [setsA_size]; exact hAs
        have KK : Keeps (fun j => j = w.heap.size) (w.alloc (.cells A (insInt_ren.t 3))) _ := (((Keeps.of_below _ (Below.refl (w.alloc (.cells A (insInt_ren.t 3))).heap.size _).drew).trans k2).trans (Keeps.of_below _ (Below.refl _ _).drew)).trans k4
        refine grow _ _ k3 (KK.below ((Below.refl w.heap.size w).alloc (Nat.le_refl _) _) (by simp) (fun j q => by omega)) (by rw [setsA_size]; exact hz1) hge hle (fun i hi => ?_)
        rw [el_ins ns p x hp]
        by_cases q : i < p
        · rw [if_pos q, setsA_out _ _ _ (.inl (by omega)), setsA_out _ _ _ (.inl (by omega))]; exact hAp i q
        · rw [if_neg q]
          by_cases q2 : i = p
          · subst q2
            rw [if_pos rfl, setsA_out _ _ _ (.inl (by omega)), setsA_in _ _ _ (by omega) (by simp) (by omega)]; simp
          · rw [if_neg q2, setsA_in _ _ _ (by omega) (by omega) (by omega), List.getElem?_drop, List.getElem?_map, show p + (i - (p + 1)) = i - 1 by omega, List.getElem?_eq_getElem (by omega), el_eq (by omega)]; rfl
end
end Go.Proofs.Ytpgjdbnhbkggpaa
