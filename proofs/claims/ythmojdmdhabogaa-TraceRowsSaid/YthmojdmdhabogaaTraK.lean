/- Places and addresses as keys of a map; where a row stands. Conditions: numbers of 64 bits. -/
import Derived.Test.YthmojdmdhabogaaProg
import Derived.Test.YthmojdmdhabogaaTraG
import Derived.Maps.OwnSet
import Derived.Maps.OwnOps
import Derived.DeepKeys4
namespace Go.Proofs.Ythmojdmdhabogaa
open Go.RowKit Go.IntWalk Go.Maps

theorem laidOutK : laidOutB Try.prog = true := by kernel_rfl
theorem spotLaw : Keyed Try.prog 58 := Keyed.of_law (deep_law_laid laidOutK (m := 4) (by decide) (by decide +kernel) (by kernel_rfl) (by kernel_rfl))
def kLit (k : Ky) : Lit := .string (keyBytes [.int .i64 k.1, .int .i64 k.2])
theorem wf64 {x : Int} (h : B64 x) : (Lit.int .i64 x).wf = true := by
  rw [← w64_fit h]; exact RowKit.wrap64_wf _
theorem spot_key (k : Ky) (h1 : B64 k.1) (h2 : B64 k.2) : keyOf Try.prog 58 (.agg #[.int .i64 k.1, .int .i64 k.2]) = some (kLit k) := by
  have hkt : Try.prog.keyType 58 = true := by kernel_rfl
  have hu := Try.underlying58
  have hi := Try.underlying3
  have hc : Try.prog.cellsOf 58 = 2 := by kernel_rfl
  have hc3 : Try.prog.cellsOf 3 = 1 := by kernel_rfl
  obtain ⟨m, hm⟩ : ∃ m, Try.prog.types.size = m + 1 := ⟨Try.prog.types.size - 1, by kernel_rfl⟩
  unfold keyOf
  simp only [hu]
  rw [if_pos (by simp [hkt, Value.formed, hu, hc]), hm]
  unfold Program.keyLits
  simp only [hu, Value.cells]
  rw [if_pos (by rw [hc]; exact ⟨rfl, by simp⟩)]
  simp [hc3, Program.keyLits, hi, wf64 h1, wf64 h2, kLit]
def B64k (k : Ky) : Prop := B64 k.1 ∧ B64 k.2
theorem kLit_key {k : Ky} (h : B64k k) : WideAt.IsKeyLit (kLit k) := spotLaw.key (spot_key k h.1 h.2)
theorem kLit_ne {k q : Ky} (h : B64k k) (g : B64k q) (e : k ≠ q) : kLit k ≠ kLit q := fun z => by
  have a := spot_key k h.1 h.2
  have b := spot_key q g.1 g.2
  rw [z] at a
  have := spotLaw.inj a b
  simp at this
  exact e (Prod.ext this.1 this.2)
/-- The map tells where each key's row stands. -/
structure MapIs (D : DataW Unit) (ks : List Ky) : Prop where
  isMap : IsMap D
  far : ∀ k, B64k k → k ∉ ks → Maps.has D (kLit k) = false
  here : ∀ i, i < ks.length → Maps.has D (kLit (el ks i)) = true ∧ D.atKey (kLit (el ks i)) (.lit (.int .i64 0)) = .lit (.int .i64 (i : Nat))
  bd : ∀ k ∈ ks, B64k k
theorem MapIs.nil : MapIs (.map []) [] := ⟨isMap_empty, fun _ _ _ => rfl, fun i h => absurd h (Nat.not_lt_zero _), fun _ h => by cases h⟩
theorem MapIs.put {D : DataW Unit} {ks : List Ky} (h : MapIs D ks) {k : Ky} (hk : B64k k) (hn : k ∉ ks) : MapIs (D.put (kLit k) (.lit (.int .i64 (ks.length : Nat)))) (ks ++ [k]) := by
  refine ⟨h.isMap.put _ _, fun q hq hqn => ?_, fun i hi => ?_, fun q hq => ?_⟩
  · have h1 : q ≠ k := fun e => hqn (by simp [e])
    have h2 : q ∉ ks := fun e => hqn (by simp [e])
    rw [has_put_other (kLit_ne hq hk h1)]
    exact h.far q hq h2
  · rw [List.length_append, List.length_singleton] at hi
    rcases Nat.lt_succ_iff_lt_or_eq.1 hi with z | z
    · have hm : el ks i ∈ ks := by rw [← el_eq z]; exact List.getElem_mem _
      have h1 : el ks i ≠ k := fun e => hn (e ▸ hm)
      rw [el_left z, has_put_other (kLit_ne (h.bd _ hm) hk h1), atKey_put_other (kLit_ne (h.bd _ hm) hk h1)]
      exact h.here i z
    · subst z
      rw [el_last, has_put_same h.isMap (kLit_key hk), atKey_put_same h.isMap (kLit_key hk)]
      exact ⟨rfl, rfl⟩
  · rcases List.mem_append.1 hq with hq | hq
    · exact h.bd q hq
    · rw [List.mem_singleton.1 hq]; exact hk
theorem zeroT (w : World) : (zeroValue 3).run Try.prog w = .ok (.int .i64 0) w := by kernel_rfl
theorem infoHt : (Try.prog.info? 40).map (fun i => (i.zero, i.size, i.bytes)) = some (some (.agg #[.int .i64 0, .int .i64 0, .int .i64 0, .int .i64 0]), 4, 32) := by kernel_rfl
theorem ht_one {b : Nat} (w : World) (x : Ht) (h : w.heap.size = b) : HtAt (w.alloc (.cells #[.int .i64 x.1, .int .i64 x.2.1, .int .i64 x.2.2.1, .int .i64 x.2.2.2] 40)) (some ⟨b, 0, none⟩) 1 1 [x] := by
  subst h; exact ElAt.one w _ x _ rfl
end Go.Proofs.Ythmojdmdhabogaa
