/- What the document's own plain answers for operations (package astrolaberef06) give. Conditions: the numbers are of the parameters' kinds. -/
import Derived.Test.YtekhgidbnpfmnaaGreatDoorProg
import Derived.Test.YtekhgidbnpfmnaaGreatDoorNum
import Derived.Test.YtekhgidbnpfmnaaGreatDoorLayers
import Derived.Test.YtekhgidbnpfmnaaGreatDoorMem
import Derived.Handy
import Derived.Lib.Hide
import Derived.Laws.Rows
import Derived.PlainAid
namespace Go.Proofs.YtekhgidbnpfmnaaGreatDoor
open Go.RowKit

/-- Is a number among some? -/
def inB (n : Int) (zs : List Int) : Bool := decide (n ∈ zs)
/-- The number at place k. -/
def at0 (zs : List Int) (k : Nat) : Int := zs.getD k 0
theorem at0_lt {zs : List Int} {k : Nat} (h : k < zs.length) : at0 zs k = zs[k] := by
  unfold at0; rw [List.getD, List.getElem?_eq_getElem h]; rfl
def intsC (zs : List Int) : Array Value := (zs.map fun z => Value.int .i64 z).toArray
def nmsC : Array Value := (nms.map Value.string).toArray
theorem intsC_at (w : World) (zs : List Int) (t : TypeId) {k : Nat} (h : k < zs.length) : (w.alloc (.cells (intsC zs) t)).cell? ⟨w.heap.size, k, none⟩ = some (.int .i64 (at0 zs k)) := by
  rw [cell_of_row _ _ _ _ _ _ (heap_alloc_new _ _)]
  rw [at0_lt h]; simp [intsC, List.getElem?_eq_getElem h]
theorem intsC_atb (w : World) (zs : List Int) (t : TypeId) (b : Nat) (hb : b = w.heap.size) {k : Nat} (h : k < zs.length) : (w.alloc (.cells (intsC zs) t)).cell? ⟨b, k, none⟩ = some (.int .i64 (at0 zs k)) := by
  subst hb; exact intsC_at w zs t h
theorem nmsC_at (w : World) (t : TypeId) {k : Nat} (h : k < 43) : (w.alloc (.cells nmsC t)).cell? ⟨w.heap.size, k, none⟩ = some (.string (nm k)) := by
  have hk : k < nms.length := h
  rw [cell_of_row _ _ _ _ _ _ (heap_alloc_new _ _), nm_at hk]
  simp [nmsC, List.getElem?_eq_getElem hk]

/-- The names lie in a row of their own. -/
def NamesAt (B : Nat) (w : World) (e : Ending) (w' : World) : Prop := ∃ b, e = .returned (.slice (some ⟨b, 0, none⟩) 43 43) ∧ (∀ k, k < 43 → w'.cell? ⟨b, k, none⟩ = some (.string (nm k))) ∧ Below B w w'
theorem refNames_is (w : World) :
    Calls Tryz.prog 101 #[] w (NamesAt w.heap.size w) := by
  go_enter Tryz.func101, Tryz.ntmps101
  go_wp2
  go_ret
  exact ⟨_, rfl, fun k hk => nmsC_at _ _ hk, (Below.refl _ _).alloc (Nat.le_refl _) _⟩

theorem refName_is (n : Int) (w : World) (n1 : -9223372036854775808 ≤ n) (n2 : n ≤ 9223372036854775807) :
    Calls Tryz.prog 64 #[.int .i64 n] w fun e w' => e = .returned (.string (wName n)) ∧ Below w.heap.size w w' := by
  by_cases h1 : n < 1
  · have E := Lib.hid (show wName n = ⟨#[]⟩ by unfold wName; rw [if_neg (by omega)])
    go_enter Tryz.func64, Tryz.ntmps64
    go_wp2_with (go_at_call 101; refine (refNames_is _).mono ?_; rintro e w1 ⟨b, rfl, hc, hb⟩; have HC := Lib.hid hc; clear hc)
    go_ret
    exact ⟨by rw [E.out]; rfl, hb⟩
  by_cases h2 : 43 < n
  · have E := Lib.hid (show wName n = ⟨#[]⟩ by unfold wName; rw [if_neg (by omega)])
    go_enter Tryz.func64, Tryz.ntmps64
    go_wp2_with (go_at_call 101; refine (refNames_is _).mono ?_; rintro e w1 ⟨b, rfl, hc, hb⟩; have HC := Lib.hid hc; clear hc)
    go_ret
    exact ⟨by rw [E.out]; rfl, hb⟩
  have E := Lib.hid (show wName n = nm (n.toNat - 1) by unfold wName; rw [if_pos (by omega)]; congr 1; omega)
  have b1 : 0 ≤ n - 1 := by omega
  have b2 : n - 1 < 43 := by omega
  have b3 : n.toNat - 1 < 43 := by omega
  go_enter Tryz.func64, Tryz.ntmps64
  go_wp2_with (go_at_call 101; refine (refNames_is _).mono ?_; rintro e w1 ⟨b, rfl, hc, hb⟩; have HC := Lib.hid hc; have hk := hc (n.toNat - 1) b3; clear hc)
  go_ret
  exact ⟨by rw [E.out]; rfl, hb⟩

theorem refFind_is (s : ByteArray) (w : World) :
    Calls Tryz.prog 118 #[.string s] w fun e w' => e = .returned (.int .i64 (wFind s)) ∧ Below w.heap.size w w' := by
  go_enter Tryz.func118, Tryz.ntmps118
  go_wp2_with (go_at_call 101; refine (refNames_is _).mono ?_; rintro e w1 ⟨b, rfl, hc, hb⟩; have HC := Lib.hid hc; clear hc)
  go_loop [4] (fun i => ∃ k : Nat, k ≤ 43 ∧ i = .int .i64 k ∧ ∀ j, j < k → nm j ≠ s) (fun i => 43 - (intOf i).toNat)
  case atStart => exact ⟨0, by omega, rfl, fun j hj => by omega⟩
  case round =>
    obtain ⟨k, hk, rfl, hn⟩ := hrel
    have HN := Lib.hid hn
    clear hn
    by_cases hlt : k < 43
    · have hx := HC.out k hlt
      by_cases h1 : nm k = s
      · have E := Lib.hid (find_at HN.out hlt h1)
        have E1 := str_same h1
        have H1 := Lib.hid h1
        clear h1
        go_wp2
        go_ret
        exact ⟨ret_int E.out.symm, hb⟩
      · have E1 := str_apart h1
        have H1 := Lib.hid h1
        clear h1
        go_wp2
        go_round
        case rel => exact ⟨k + 1, by omega, by go_num, fun j hj => by
                      rcases (show j < k ∨ j = k by omega) with h | rfl
                      · exact HN.out j h
                      · exact H1.out⟩
        case measure => simp [intOf]; omega
    · have E := Lib.hid (find_0 fun j hj => HN.out j (by omega))
      go_wp2
      go_ret
      exact ⟨by rw [E.out]; rfl, hb⟩

set_option maxHeartbeats 1000000 in
theorem refShape_is (n : Int) (w : World) :
    Calls Tryz.prog 63 #[.int .i64 n] w fun e w' => e = .returned (.string (wShape n)) ∧ w = w' := by
  go_enter Tryz.func63, Tryz.ntmps63
  go_wp2
  all_goals go_ret
  all_goals refine ⟨ret_str ?_, rfl⟩
  all_goals (try simp only [beq_iff_eq, beq_eq_false_iff_ne] at *)
  all_goals first
    | (symm; exact wShape_at (k := 0) (by decide) (by simp [loZ]; omega) (by simp [hiZ]; omega))
    | (symm; exact wShape_at (k := 1) (by decide) (by simp [loZ]; omega) (by simp [hiZ]; omega))
    | (subst_vars; rfl)
    | (symm; exact wShape_out (by omega))

end Go.Proofs.YtekhgidbnpfmnaaGreatDoor
