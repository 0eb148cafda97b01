/- strings.Cut at a separator of one byte: what is ahead of the first, what is behind it, and whether there is one. Condition: the text is no longer than a text may be. -/
import Derived.Test.YtekhgidbnpfmnaaGreatDoorProg
import Derived.Test.YtekhgidbnpfmnaaGreatDoorMem
import Derived.Test.YtekhgidbnpfmnaaGreatDoorNum
import Derived.Test.YtekhgidbnpfmnaaGreatDoorLayers
import Derived.IntWalk
import Derived.Handy
import Derived.Lib.Bytealg
import Derived.Lib.Hide
import Derived.RegionTactic
import Derived.Deep.QuietTactic
import Derived.BigQuiet
namespace Go.Proofs.YtekhgidbnpfmnaaGreatDoor
open Go.RowKit

set_option maxHeartbeats 1000000 in
set_option maxRecDepth 100000 in
theorem indexByte_is (s : ByteArray) (c : Int) (w : World) :
    Calls Tryz.prog 108 #[.string s, .int .u8 c] w fun e w' => e = .returned (.int .i64 (Lib.indexByte s.data.toList c.toNat.toUInt8)) ∧ w = w' := by
  go_enter Tryz.func108, Tryz.ntmps108
  go_wp2
  rw [run_callFunc_extern Tryz.func138 (by kernel_rfl) (by kernel_rfl) (by kernel_rfl) (e := Extern.BytealgIndexByte.indexByte) (by kernel_rfl), Lib.run_indexByteString]
  simp only [Result.andThen]
  rw [Oper.upon_value]
  go_wp2
  go_ret
  exact ⟨rfl, rfl⟩

set_option maxHeartbeats 1000000 in
set_option maxRecDepth 100000 in
theorem indexOne_is (s : ByteArray) (c : UInt8) (w : World) :
    Calls Tryz.prog 73 #[.string s, .string ⟨#[c]⟩] w fun e w' => e = .returned (.int .i64 (Lib.indexByte s.data.toList c)) ∧ w = w' := by
  go_enter Tryz.func73, Tryz.ntmps73
  go_wp2_with (go_at_call 108; refine (indexByte_is _ _ _).mono ?_; rintro e w' ⟨rfl, rfl⟩)
  · have e : s.data.toList = [c] := by
      have h : ([c] == s.toList) = true := by assumption
      rw [← ByteArray.toList_eq]; exact (beq_iff_eq.1 h).symm
    go_ret
    exact ⟨ret_int (by rw [e]; simp [Lib.indexByte]), rfl⟩
  · go_ret
    exact ⟨rfl, rfl⟩

theorem index_lt : ∀ (l : List UInt8) (c : UInt8), Lib.indexByte l c < l.length
  | [], _ => by simp [Lib.indexByte]
  | b :: l, c => by
    have ih := index_lt l c
    unfold Lib.indexByte
    rw [List.length_cons]
    split
    · omega
    · split <;> omega

set_option maxHeartbeats 1000000 in
theorem cutLite_is (s : ByteArray) (c : UInt8) (w : World) (hs : s.size ≤ 1073741824) :
    Calls Tryz.prog 42 #[.string s, .string ⟨#[c]⟩] w fun e w' => e = .returned (.tuple #[.string (cutA s c), .string (cutB s c), .bool (cutF s c)]) ∧ ∃ m, w' = w.drewN m := by
  have hlt := index_lt s.data.toList c
  have hge := Lib.indexByte_ge s.data.toList c
  have hsz : s.data.toList.length = s.size := rfl
  rw [hsz] at hlt
  clear hsz
  by_cases h : Lib.indexByte s.data.toList c < 0
  · have EA := Lib.hid (show cutA s c = s by unfold cutA; rw [if_pos h])
    have EB := Lib.hid (show cutB s c = ⟨#[]⟩ by unfold cutB; rw [if_pos h])
    have EF := Lib.hid (show cutF s c = false by unfold cutF; rw [decide_eq_false (by omega)])
    go_enter Tryz.func42, Tryz.ntmps42
    go_wp2_with (go_at_call 73; refine (indexOne_is s c _).mono ?_; rintro e w' ⟨rfl, rfl⟩)
    go_returns
    exact ⟨by rw [EA.out, EB.out, EF.out]; rfl, 0, rfl⟩
  · obtain ⟨k, hk⟩ : ∃ k : Nat, Lib.indexByte s.data.toList c = k := ⟨(Lib.indexByte s.data.toList c).toNat, by omega⟩
    have EA := Lib.hid (show cutA s c = s.extract 0 k by unfold cutA; rw [if_neg h, hk, str_take]; rfl)
    have EB := Lib.hid (show cutB s c = s.extract (k + 1) s.size by unfold cutB; rw [if_neg h, hk, str_drop]; rfl)
    have EF := Lib.hid (show cutF s c = true by unfold cutF; rw [decide_eq_true (by omega)])
    have HK := Lib.hid hk
    rw [hk] at hlt
    have hlt2 : k < s.size := by omega
    clear hk h hge
    have s1 : IntKind.i64.wrap ((k : Int) + 1) = (k : Int) + 1 := IntWalk.i64_in _ (by omega)
    go_enter Tryz.func42, Tryz.ntmps42
    go_wp2_with (go_at_call 73; refine (indexOne_is s c _).mono ?_; rintro e w' ⟨rfl, rfl⟩; rw [HK.out])
    go_region
    go_wp2
    go_returns
    exact ⟨by rw [EA.out, EB.out, EF.out]; simp, 1, rfl⟩

theorem cut_is (s : ByteArray) (c : UInt8) (w : World) (hs : s.size ≤ 1073741824) :
    Calls Tryz.prog 17 #[.string s, .string ⟨#[c]⟩] w fun e w' => e = .returned (.tuple #[.string (cutA s c), .string (cutB s c), .bool (cutF s c)]) ∧ ∃ m, w' = w.drewN m := by
  go_enter Tryz.func17, Tryz.ntmps17
  go_wp2_with (go_at_call 42; refine (cutLite_is s c _ hs).mono ?_; rintro e w' ⟨rfl, m, rfl⟩)
  go_returns
  exact ⟨by simp, m, rfl⟩
end Go.Proofs.YtekhgidbnpfmnaaGreatDoor
