/- Package label: what New, Define, Use, Place answer and leave. Conditions: as few names as 1000; texts as short as any can be. -/
import Derived.Test.YtgmphfagflhglaaGreatDoorLabA
import Derived.Carry
namespace Go.Proofs.YtgmphfagflhglaaGreatDoor
open Go.RowKit Go.Maps

theorem nodup_one {α β : Type} {l : List (α × β)} (h : (l.map (·.1)).Nodup) {a : α} {b c : β} (h1 : (a, b) ∈ l) (h2 : (a, c) ∈ l) : b = c := by
  induction l with
  | nil => cases h1
  | cons x l ih =>
    rw [List.map_cons, List.nodup_cons] at h
    rcases List.mem_cons.1 h1 with e1 | k1 <;> rcases List.mem_cons.1 h2 with e2 | k2
    · rw [← e1] at e2; cases e2; rfl
    · subst e1; exact absurd (List.mem_map_of_mem (f := (·.1)) k2) h.1
    · subst e2; exact absurd (List.mem_map_of_mem (f := (·.1)) k1) h.1
    · exact ih h.2 k1 k2
theorem nodup_two {α β : Type} {l : List (α × β)} (h : (l.map (·.2)).Nodup) {a c : α} {b : β} (h1 : (a, b) ∈ l) (h2 : (c, b) ∈ l) : a = c := by
  induction l with
  | nil => cases h1
  | cons x l ih =>
    rw [List.map_cons, List.nodup_cons] at h
    rcases List.mem_cons.1 h1 with e1 | k1 <;> rcases List.mem_cons.1 h2 with e2 | k2
    · rw [← e1] at e2; cases e2; rfl
    · subst e1; exact absurd (List.mem_map_of_mem (f := (·.2)) k2) h.1
    · subst e2; exact absurd (List.mem_map_of_mem (f := (·.2)) k1) h.1
    · exact ih h.2 k1 k2
section
variable {B t M m : Nat} {w w' : World} {ds us : Df} {F G : Nat → Prop} {D : DataW Unit} {rows : Rw} {v : Value}
/-- A name gets its place. -/
theorem LabIn.placed (h : LabIn B w t ds us F M m D rows v) {s : ByteArray} {b : Nat} (hr : (s, b) ∈ rows) (hp : plB ds s = false) (p : Int) :
    LabIn B ((w.setCell ⟨b, 1, none⟩ (.int .i64 p)).setCell ⟨b, 2, none⟩ (.bool true)) t (ds ++ [(s, p)]) us F M m D rows v ∧ Grows F w F ((w.setCell ⟨b, 1, none⟩ (.int .i64 p)).setCell ⟨b, 2, none⟩ (.bool true)) := by
  have k : ∀ (X : Nat → Prop), X b → Keeps X w ((w.setCell ⟨b, 1, none⟩ (.int .i64 p)).setCell ⟨b, 2, none⟩ (.bool true)) := fun X hX => (Keeps.set hX w 1 _).trans (Keeps.set hX _ 2 _)
  have k1 := k (fun j => j = b) rfl
  have hbk := h.spots _ hr
  obtain ⟨ub, u1, u2, u3⟩ := h.uses
  have hn : s ∉ ds.map (·.1) := fun q => by rw [pl_mem.2 q] at hp; cases hp
  refine ⟨⟨h.blk.kept k1 (blk_ne h.blk hbk (by decide)), map_kept h.map k1 fun e => map_ne h.map hbk e.symm, h.nms, ?_, h.apart, ?_, ⟨ub, u1.kept k1 fun j q e => own_blk_ne u1 hbk (by decide) (e ▸ q), u2, u3⟩, ?_, h.long, h.ft, h.fm, h.fs, h.fu, ?_⟩, ⟨k F (h.fs _ hr), fun _ q => .inl q⟩⟩
  · rintro ⟨n, c⟩ hr'
    by_cases e : n = s
    · subst e
      obtain rfl := nodup_one h.nms.once hr hr'
      obtain ⟨q1, q2⟩ := pl_snoc_same (p := p) hp
      simp only [q1, q2]
      exact ((hbk.set 1 (.int .i64 p)).set 2 (.bool true)).eq rfl
    · obtain ⟨q1, q2⟩ := pl_snoc_other (ds := ds) (p := p) e
      simp only [q1, q2]
      exact (h.spots _ hr').kept k1 fun e' => e (nodup_two h.apart (b := b) (by rw [← e']; exact hr') hr)
  · intro d hd
    rcases List.mem_append.1 hd with hd | hd
    · exact h.defs d hd
    · rw [List.mem_singleton.1 hd]; exact List.mem_map_of_mem (f := (·.1)) hr
  · have := h.once
    unfold Once at *
    rw [List.map_append, List.nodup_append]
    refine ⟨this, by simp, fun a ha b hb => ?_⟩
    simp at hb
    subst hb
    intro e; subst e
    exact hn ha
  · intro j q
    have := h.low j q
    simpa [World.setCell] using this
/-- A name is used. -/
theorem LabIn.used (h : LabIn B w t ds us F M m D rows v) {s : ByteArray} {b : Nat} (hr : (s, b) ∈ rows) (p : Int) (hB : B ≤ w.heap.size) {cs : Array Value} {w1 : World} {v' : Value} {ub : List (Nat × Int)}
    (u0 : OwnEl useK w B 117 v ub) (u2 : ub.length = us.length) (u3 : ∀ i, i < us.length → ((el us i).1, (el ub i).1) ∈ rows ∧ (el ub i).2 = (el us i).2)
    (o1 : OwnEl useK w1 B 117 v' (ub ++ [(b, p)])) (hg : (w.alloc (.cells cs 117)).grownBy w1 v.ownBlock) (hx : Nexts (w.alloc (.cells cs 117)) v v') :
    LabIn B (w1.setCell ⟨t, 1, none⟩ v') t ds (us ++ [(s, p)]) (Wide F w (w1.setCell ⟨t, 1, none⟩ v')) M m D rows v' ∧ Grows F w (Wide F w (w1.setCell ⟨t, 1, none⟩ v')) (w1.setCell ⟨t, 1, none⟩ v') := by
  have ba := (Below.refl w.heap.size w).alloc (Nat.le_refl _) (.cells cs 117)
  have h1 := h.keep ba
  have ua := u0.keep ba
  have kx : Keeps (fun j => v.ownBlock = some j) (w.alloc (.cells cs 117)) w1 := Keeps.of_grown hg fun _ q => q
  have bt : BlkAt t 81 #[.map (some M), v, .pointer (some ⟨t, 0, none⟩)] w1 := h1.blk.kept kx (own_blk_ne ua h1.blk (by decide))
  have km : w1.ownsMap Tryz.prog 9 ptrElem M m D := map_kept h1.map kx (map_own_ne h1.map ua)
  have kt : Keeps (fun j => j = t) w1 (w1.setCell ⟨t, 1, none⟩ v') := Keeps.set1 w1 t 1 v'
  have K := ((Keeps.of_below F ba).trans (Keeps.of_grown (F := F) hg h.fu)).trans (Keeps.set h.ft w1 1 v')
  refine ⟨⟨(bt.set 1 v').eq rfl, map_kept km kt fun e => map_ne km bt e.symm, h.nms, fun r hr => ?_, h.apart, h.defs, ⟨ub ++ [(b, p)], o1.kept kt fun j q e => own_blk_ne o1 bt (by decide) (e ▸ q), by rw [List.length_append, List.length_append, u2]; rfl, ?_⟩, h.once, h.long, .inl h.ft, .inl h.fm, fun r hr => .inl (h.fs r hr), ?_, ?_⟩, Wide.grows K⟩
  · have q1 := (h1.spots r hr).kept kx (own_blk_ne ua (h1.spots r hr) (by decide))
    exact q1.kept kt fun e => blk_ne q1 bt (by decide) e
  · intro i hi
    rw [List.length_append, List.length_singleton] at hi
    rcases Nat.lt_succ_iff_lt_or_eq.1 hi with q | q
    · rw [el_left q, el_left (by omega)]; exact u3 i q
    · subst q
      have e : el (ub ++ [(b, p)]) us.length = (b, p) := by rw [← u2]; exact el_last _ _
      rw [el_last, e]
      exact ⟨hr, rfl⟩
  · intro j q
    rcases hx j q with r | r
    · exact .inl (h.fu j r)
    · refine .inr ⟨by simp at r; omega, ?_⟩
      have := (o1.lt j q).2
      simpa [World.setCell] using this
  · rintro j (q | q)
    · exact ⟨(h.low j q).1, Nat.lt_of_lt_of_le (h.low j q).2 K.size⟩
    · exact ⟨by omega, q.2⟩
end
/-- What a call that tells leaves. -/
def LabTo (B t : Nat) (k : Int) (ds us : Df) (F : Nat → Prop) (w : World) (e : Ending) (w' : World) : Prop := ∃ F', e = .returned (.int .i64 k) ∧ LabAt B w' t ds us F' ∧ Grows F w F' w'
theorem infoUse : (Tryz.prog.info? 117).map (fun i => (i.zero, i.size, i.bytes)) = some (some (.agg #[.pointer none, .int .i64 0]), 2, 16) := by kernel_rfl
set_option maxRecDepth 100000 in
set_option maxHeartbeats 2000000 in
theorem labDefine_is (B t : Nat) (ds us : Df) (F : Nat → Prop) (s : ByteArray) (p : Int) (w : World) (h : LabAt B w t ds us F) (hs : s.size ≤ maxLen) (hn : ds.length + us.length ≤ 2000) (hB : B ≤ w.heap.size) :
    Calls Tryz.prog 20 #[.pointer (some ⟨t, 0, none⟩), .string s, .int .i64 p] w (LabTo B t (defE ds s) (defS ds s p) us F w) := by
  have H := Lib.hid h
  obtain ⟨M, m, D, rows, v, h, hm⟩ := h
  cases hN : nameB s
  · obtain ⟨e1, e2⟩ := def_no (ds := ds) p hN
    rw [e1, e2]
    have C := Lib.hid (labSpot_no h s hs hN)
    clear h hs hN e1 e2
    go_enter Tryz.func20, Tryz.ntmps20
    go_wp2_with (go_at_call 36; ((with_reducible refine (C.out).mono ?_); rintro e w1 ⟨rfl, rfl⟩))
    go_ret
    exact ⟨F, rfl, H.out, Grows.refl _ _⟩
  · by_cases hr : s ∈ rows.map (·.1)
    · obtain ⟨⟨n, b⟩, hr2, e⟩ := List.mem_map.1 hr
      simp only at e
      subst e
      clear hr
      have hr := hr2
      clear hr2
      have C := Lib.hid (labSpot_old h n b hs hN hr)
      have hbk := h.spots _ hr
      have c2 : w.cell? ⟨b, 2, none⟩ = some (.bool (plB ds n)) := hbk.cell 2
      cases hp : plB ds n
      · obtain ⟨e1, e2⟩ := def_yes (ds := ds) p hN hp
        rw [e1, e2]
        have c1 : w.cell? ⟨b, 1, none⟩ = some (.int .i64 (plV ds n)) := hbk.cell 1
        have f1 := hbk.free 1
        have f2 := hbk.free 2
        rw [hp] at c2
        have HP := Lib.hid (h.placed hr hp p)
        have HM := Lib.hid hm
        clear h hs hN e1 e2 hp hr hbk hm
        go_enter Tryz.func20, Tryz.ntmps20
        go_wp2_with (go_at_call 36; ((with_reducible refine (C.out).mono ?_); rintro e w1 ⟨rfl, rfl⟩))
        go_ret
        exact ⟨F, rfl, ⟨M, m, D, rows, v, HP.out.1, by have := HM.out; rw [List.length_append]; omega⟩, HP.out.2⟩
      · obtain ⟨e1, e2⟩ := def_twice (ds := ds) p hN hp
        rw [e1, e2]
        rw [hp] at c2
        clear h hs hN e1 e2 hp hr hbk
        go_enter Tryz.func20, Tryz.ntmps20
        go_wp2_with (go_at_call 36; ((with_reducible refine (C.out).mono ?_); rintro e w1 ⟨rfl, rfl⟩))
        go_ret
        exact ⟨F, rfl, H.out, Grows.refl _ _⟩
    · have C := Lib.hid (labSpot_new h s hs hN hr (by omega) hB)
      have hn' : s ∉ ds.map (·.1) := fun q => by
        obtain ⟨d, hd, rfl⟩ := List.mem_map.1 q
        exact hr (h.defs d hd)
      have hp := (pl_off hn').1
      obtain ⟨e1, e2⟩ := def_yes (ds := ds) p hN hp
      rw [e1, e2]
      have HP := Lib.hid hp
      have HM := Lib.hid hm
      clear h hs hN e1 e2 hp hr hm hn'
      go_enter Tryz.func20, Tryz.ntmps20
      go_wp2_with (go_at_call 36; ((with_reducible refine (C.out).mono ?_); rintro e w1 ⟨b, D', F', rfl, hI, hG⟩); have hbk := hI.spots (s, b) (by simp); have c1 : w1.cell? ⟨b, 1, none⟩ = some (.int .i64 (plV ds s)) := hbk.cell 1; have c2 : w1.cell? ⟨b, 2, none⟩ = some (.bool (plB ds s)) := hbk.cell 2; rw [HP.out] at c2; have f1 := hbk.free 1; have f2 := hbk.free 2; have HI := Lib.hid (hI.placed (s := s) (b := b) (by simp) HP.out p); have HG := Lib.hid hG; clear hI hG hbk)
      go_ret
      exact ⟨F', rfl, ⟨M, m + 1, D', _, v, HI.out.1, by have := HM.out; rw [List.length_append, List.length_singleton]; omega⟩, HG.out.trans HI.out.2⟩
end Go.Proofs.YtgmphfagflhglaaGreatDoor
