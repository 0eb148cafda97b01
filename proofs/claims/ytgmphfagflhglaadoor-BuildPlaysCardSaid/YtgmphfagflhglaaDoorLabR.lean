/- The document's own names of places: what it answers. Conditions: lists and texts as short as any can be. -/
import Derived.Test.YtgmphfagflhglaaDoorProg
import Derived.Test.YtgmphfagflhglaaDoorLabU
import Derived.IntWalk
import Derived.Handy
import Derived.Deep.QuietTactic
import Derived.BigQuiet
namespace Go.Proofs.YtgmphfagflhglaaDoor
open Go.RowKit Go.IntWalk

theorem infoRow : (Tryd.prog.info? 98).map (fun i => (i.zero, i.size, i.bytes)) = some (some (.agg #[.string ⟨#[]⟩, .int .i64 0]), 2, 24) := by kernel_rfl


/-- The document's table in memory: what was told, what is used; F: its blocks. -/
structure RefAt (B : Nat) (w : World) (x : Nat) (ds us : Df) (F : Nat → Prop) : Prop where
  ex : ∃ v u, BlkAt x 35 #[v, u] w ∧ OwnEl rowK w B 98 v ds ∧ OwnEl rowK w B 98 u us ∧ Apart v u ∧ (∀ j, v.ownBlock = some j → F j) ∧ (∀ j, u.ownBlock = some j → F j)
  own : F x
  low : ∀ j, F j → B ≤ j ∧ j < w.heap.size
theorem RefAt.kept {B x : Nat} {w w' : World} {ds us : Df} {F G : Nat → Prop} (h : RefAt B w x ds us F) (k : Keeps G w w') (hn : ∀ j, F j → ¬ G j) : RefAt B w' x ds us F := by
  obtain ⟨v, u, h1, h2, h3, h4, h5, h6⟩ := h.ex
  exact ⟨⟨v, u, h1.kept k (hn _ h.own), h2.kept k fun j q => hn j (h5 j q), h3.kept k fun j q => hn j (h6 j q), h4, h5, h6⟩, h.own, fun j q => ⟨(h.low j q).1, Nat.lt_of_lt_of_le (h.low j q).2 k.size⟩⟩
theorem RefAt.keep {B x : Nat} {w w' : World} {ds us : Df} {F : Nat → Prop} (h : RefAt B w x ds us F) (k : Below w.heap.size w w') : RefAt B w' x ds us F :=
  h.kept (Keeps.of_below (fun _ => False) k) fun _ _ q => q
theorem RefAt.new (w : World) (B : Nat) (hB : B ≤ w.heap.size) : RefAt B (w.alloc (.cells #[.slice none 0 0, .slice none 0 0] 35)) w.heap.size [] [] (fun j => j = w.heap.size) := by
  refine ⟨⟨_, _, BlkAt.new _ _ _, OwnEl.nil _ _ _ _, OwnEl.nil _ _ _ _, Apart.nil _, ?_, ?_⟩, rfl, ?_⟩
  · intro j q; cases q
  · intro j q; cases q
  · intro j q; subst q; simp; omega
set_option maxHeartbeats 2000000 in
theorem refPlace19_is (B x : Nat) (ds us : Df) (F : Nat → Prop) (s : ByteArray) (w : World) (h : RefAt B w x ds us F) (hn : ds.length ≤ 1000) :
    Calls Tryd.prog 47 #[.pointer (some ⟨x, 0, none⟩), .string s] w fun e w' => e = .returned (.tuple #[.int .i64 (plV ds s), .bool (plB ds s)]) ∧ w = w' := by
  obtain ⟨v, u, h1, h2, -⟩ := h.ex
  obtain ⟨a, c, rfl, h3⟩ := h2.at
  clear h2 h
  obtain ⟨n, hnl⟩ : ∃ n, ds.length = n := ⟨_, rfl⟩
  rw [hnl] at h1 h3 hn
  have c0 : w.cell? ⟨x, 0, none⟩ = some (.slice a n c) := h1.cell 0
  have HL := Lib.hid hnl
  have H3 := Lib.hid h3
  clear h1 h3 hnl
  go_enter Tryd.func47, Tryd.ntmps47
  go_wp2
  go_loop [6] (fun i => ∃ k : Nat, k ≤ n ∧ i = .int .i64 k ∧ ∀ j, j < k → (el ds j).1 ≠ s) (fun i => n - (intOf i).toNat)
  case atStart => exact ⟨0, by omega, rfl, fun j hj => by omega⟩
  case round =>
    obtain ⟨k, hk, rfl, hno⟩ := hrel
    have HNO := Lib.hid hno
    clear hno
    by_cases hlt : k < n
    · have hlt' : (k : Int) < n := by omega
      obtain ⟨b, off, rfl, d0, d1⟩ := H3.out.row hlt
      by_cases he : (el ds k).1 = s
      · obtain ⟨p1, p2⟩ := pl_hit (n := s) (by rw [HL.out]; exact hlt) HNO.out he
        have P1 := Lib.hid p1
        have P2 := Lib.hid p2
        have ht := str_same he
        clear p1 p2 he
        go_wp2
        go_ret2
        exact ⟨by rw [P1.out, P2.out]; first | done | rfl, rfl⟩
      · have HE := Lib.hid he
        have ht := str_apart he
        clear he
        go_wp2
        go_round
        case rel => exact ⟨k + 1, by omega, by go_num, fun j hj => by
          rcases Nat.lt_succ_iff_lt_or_eq.1 hj with q | q
          · exact HNO.out j q
          · subst q; exact HE.out⟩
        case measure => simp [intOf]; omega
    · obtain ⟨p1, p2⟩ := pl_none (ds := ds) (n := s) (fun d hd => by
        obtain ⟨j, hj, rfl⟩ := List.mem_iff_getElem.1 hd
        rw [el_eq hj]
        exact HNO.out j (by have := HL.out; omega))
      have P1 := Lib.hid p1
      have P2 := Lib.hid p2
      clear p1 p2
      obtain rfl : k = n := by omega
      go_wp2
      go_ret2
      exact ⟨by rw [P1.out, P2.out]; first | done | rfl, rfl⟩
end Go.Proofs.YtgmphfagflhglaaDoor
