/- Rows: all together are all marks, nothing hangs on the marks' order; the most stand first. Nothing of any program. -/
import Derived.Test.YthmojdmdhabogaaTraH
namespace Go.Proofs.Ythmojdmdhabogaa
open Go.RowKit

theorem sumI_perm {l m : List Int} (h : l.Perm m) : l.sum = m.sum := by
  induction h with
  | nil => rfl
  | cons x _ ih => simp [ih]
  | swap x y l => simp only [List.sum_cons]; omega
  | trans _ _ ih1 ih2 => exact ih1.trans ih2
theorem exC_perm {l m : List Mk} (h : l.Perm m) : exC l = exC m := sumI_perm (h.map _)
theorem rowOf_perm {l m : List Mk} (h : l.Perm m) (k : Ky) : rowOf l k = rowOf m k := by
  have hp : (ofKy l k).Perm (ofKy m k) := h.filter _
  unfold rowOf tCost
  rw [hp.length_eq, exC_perm hp]
theorem keys_perm {l m : List Mk} (h : l.Perm m) : keys l = keys m := rise_same kLt_tot fun _ => (h.map mKy).mem_iff
theorem tRows_perm {l m : List Mk} (h : l.Perm m) : tRows l = tRows m := by
  unfold tRows
  rw [keys_perm h]
  exact List.map_congr_left fun k _ => rowOf_perm h k
theorem tRows_back (l : List Mk) : tRows l.reverse = tRows l := tRows_perm (List.reverse_perm l)

theorem none_sum {q : Ky} (v : Int) : ∀ {ks : List Ky}, q ∉ ks → (ks.map fun k => if q = k then v else 0).sum = 0
  | [], _ => rfl
  | k :: ks, h => by
    have h1 : q ≠ k := fun e => h (by simp [e])
    have h2 : q ∉ ks := fun e => h (by simp [e])
    rw [List.map_cons, List.sum_cons, if_neg h1, none_sum v h2]; rfl
theorem pick_sum {q : Ky} (v : Int) : ∀ {ks : List Ky}, ks.Nodup → q ∈ ks → (ks.map fun k => if q = k then v else 0).sum = v
  | [], _, h => by cases h
  | k :: ks, hn, h => by
    obtain ⟨h1, h2⟩ := List.nodup_cons.1 hn
    rw [List.map_cons, List.sum_cons]
    by_cases e : q = k
    · subst e
      rw [none_sum v h1, if_pos rfl]; omega
    · rw [if_neg e, pick_sum v h2 ((List.mem_cons.1 h).resolve_left e)]; omega
theorem sum_both (f g : Ky → Int) : ∀ ks : List Ky, (ks.map fun k => f k + g k).sum = (ks.map f).sum + (ks.map g).sum
  | [] => rfl
  | k :: ks => by simp only [List.map_cons, List.sum_cons, sum_both f g ks]; omega
theorem zero_sum : ∀ ks : List Ky, (ks.map fun _ => (0 : Int)).sum = 0
  | [] => rfl
  | k :: ks => by simp only [List.map_cons, List.sum_cons, zero_sum ks]; rfl
theorem parts_sum (f : Mk → Int) {ks : List Ky} (hn : ks.Nodup) : ∀ l : List Mk, (∀ m ∈ l, mKy m ∈ ks) → (ks.map fun k => ((ofKy l k).map f).sum).sum = (l.map f).sum
  | [], _ => by
    have : (fun k : Ky => ((ofKy [] k).map f).sum) = fun _ => (0 : Int) := by funext k; simp [ofKy]
    rw [this, zero_sum]; rfl
  | m :: l, h => by
    have : (fun k : Ky => ((ofKy (m :: l) k).map f).sum) = fun k => (if mKy m = k then f m else 0) + ((ofKy l k).map f).sum := by
      funext k
      unfold ofKy
      rw [List.filter_cons]
      by_cases e : mKy m = k <;> simp [e]
    rw [this, sum_both, pick_sum (f m) hn (h m (by simp)), parts_sum f hn l fun x hx => h x (by simp [hx])]
    simp
theorem ones_sum : ∀ l : List Mk, (l.map fun _ => (1 : Int)).sum = l.length
  | [] => rfl
  | m :: l => by simp only [List.map_cons, List.sum_cons, ones_sum l, List.length_cons]; omega
theorem w64_sums (g : Ky → Int) : ∀ (ks : List Ky) (x : Int), wrap64 (x - (ks.map fun k => wrap64 (g k)).sum) = wrap64 (x - (ks.map g).sum)
  | [], _ => rfl
  | k :: ks, x => by
    simp only [List.map_cons, List.sum_cons]
    rw [show x - (wrap64 (g k) + (ks.map fun k => wrap64 (g k)).sum) = (x - (ks.map fun k => wrap64 (g k)).sum) - wrap64 (g k) by omega, w64_subr,
      show (x - (ks.map fun k => wrap64 (g k)).sum) - g k = (x - g k) - (ks.map fun k => wrap64 (g k)).sum by omega, w64_sums g ks (x - g k)]
    congr 1
    omega
/-- What the first k rows have, together. -/
def sTi (R : List Ht) (k : Nat) : Int := ((R.take k).map fun h => h.2.2.1).sum
def sCo (R : List Ht) (k : Nat) : Int := ((R.take k).map fun h => h.2.2.2).sum
theorem sTi_zero (R : List Ht) : sTi R 0 = 0 := rfl
theorem sCo_zero (R : List Ht) : sCo R 0 = 0 := rfl
theorem sTi_next {R : List Ht} {k : Nat} (h : k < R.length) : sTi R (k + 1) = sTi R k + (el R k).2.2.1 := by
  unfold sTi; rw [take_el h]; simp
theorem sCo_next {R : List Ht} {k : Nat} (h : k < R.length) : sCo R (k + 1) = sCo R k + (el R k).2.2.2 := by
  unfold sCo; rw [take_el h]; simp
theorem rows_times (l : List Mk) : sTi (tRows l) (tRows l).length = l.length := by
  unfold sTi
  rw [List.take_length]
  unfold tRows
  rw [List.map_map, ← ones_sum l, ← parts_sum (fun _ => 1) (keys_nodup l) l fun m hm => (mem_keys l _).2 (List.mem_map_of_mem hm)]
  congr 1
  refine List.map_congr_left fun k _ => ?_
  rw [ones_sum]
  rfl
theorem rows_cost (l : List Mk) : wrap64 (exC l - sCo (tRows l) (tRows l).length) = 0 := by
  unfold sCo
  rw [List.take_length]
  unfold tRows
  rw [List.map_map]
  have e : ((fun h : Ht => h.2.2.2) ∘ rowOf l) = fun k => wrap64 (exC (ofKy l k)) := rfl
  rw [e, w64_sums (fun k => exC (ofKy l k))]
  have := parts_sum (fun m => m.2.2) (keys_nodup l) l fun m hm => (mem_keys l _).2 (List.mem_map_of_mem hm)
  have e2 : ((keys l).map fun k => exC (ofKy l k)).sum = exC l := this
  rw [e2, Int.sub_self, w64_zero]
theorem tTop_all (l : List Mk) {n : Nat} (hn : l.length = n) : tTop l n = tMost l := by
  have h := tRows_len l
  have h2 := tMost_len l
  unfold tTop
  rw [List.take_of_length_le (by omega)]
theorem most_down (l : List Mk) {i : Nat} (h : i + 1 < (tMost l).length) : (el (tMost l) (i + 1)).2.2.2 ≤ (el (tMost l) i).2.2.2 := by
  have hs : (tMost l).Pairwise fun a b => cLt b a = false := most_sorted' _
  have := (List.pairwise_iff_getElem.1 hs) i (i + 1) (by omega) h (by omega)
  rw [el_eq, el_eq, cLt_not] at this
  omega
/-- A list turned about, so far. -/
theorem back_next {l : List Mk} {k : Nat} (h : k < l.length) : l.reverse.take (k + 1) = l.reverse.take k ++ [mkAt l (l.length - 1 - k)] := by
  have hk : k < l.reverse.length := by simpa using h
  rw [take_el hk]
  congr 2
  rw [← el_eq hk, List.getElem_reverse, mkAt_eq]
end Go.Proofs.Ythmojdmdhabogaa
