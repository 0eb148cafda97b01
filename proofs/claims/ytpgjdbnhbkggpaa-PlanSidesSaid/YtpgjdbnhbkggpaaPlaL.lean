/- Two plans beside one another: package plan's, and the document's. Conditions: as few regions as 1000; texts as short as any can be. -/
import Derived.Test.YtpgjdbnhbkggpaaPlaK
import Derived.Test.YtpgjdbnhbkggpaaPlaT
namespace Go.Proofs.Ytpgjdbnhbkggpaa
open Go.RowKit Go.IntWalk

/-- One of package plan, one of the document's. -/
def PPair (B : Nat) (w : World) (t x : Nat) (size : Int) (rs rs2 : Rgs) : Prop := ∃ F G, PlaAt B w t size rs F ∧ RefPn B w x size rs2 G ∧ ∀ j, F j → ¬ G j
/-- A call that asks for a region: what it answers, what it leaves. -/
def Asks (B : Nat) (w : World) (v k : Int) (Q : World → Prop) (e : Ending) (w' : World) : Prop := e = .returned (.tuple #[.int .i64 v, .int .i64 k]) ∧ Q w' ∧ Below B w w'
section
variable {B t x n : Nat} {w w' : World} {size m : Int} {rs rs2 : Rgs} {s : ByteArray} {k : Bool} {F : Nat → Prop}
theorem PPair.keep (h : PPair B w t x size rs rs2) (k : Below w.heap.size w w') : PPair B w' t x size rs rs2 := by
  obtain ⟨F, G, h1, h2, h3⟩ := h
  exact ⟨F, G, h1.keep k, h2.keep k, h3⟩
theorem pgrows_apart {F G F' : Nat → Prop} (h3 : ∀ j, F j → ¬ G j) (g : Grows F w F' w') (hG : ∀ j, G j → j < w.heap.size) : ∀ j, F' j → ¬ G j := fun j f q => by
  rcases g.new j f with r | r
  · exact h3 j r q
  · have := hG j q; omega
theorem ppair_all1 (h : PPair B w t x size rs rs2) (hs : s.size ≤ maxLen) (hn : rs.length ≤ 1000) (hB : B ≤ w.heap.size) :
    Calls Try.prog 7 #[.pointer (some ⟨t, 0, none⟩), .string s, .int .i64 m, .bool k] w (Asks B w (allV size rs s m) (allE size rs s m) fun w' => PPair B w' t x size (allS size rs s m k) rs2) := by
  obtain ⟨F, G, h1, h2, h3⟩ := h
  refine (plaAlloc_is h1 s m k hs hn hB).mono ?_
  rintro e w' ⟨F', rfl, h4, g⟩
  exact ⟨rfl, ⟨F', G, h4, h2.kept g.keeps fun j q f => h3 j f q, pgrows_apart h3 g fun j q => (h2.low j q).2⟩, g.keeps.below (Below.refl _ _) hB fun j q => (h1.low j q).1⟩
theorem ppair_all2 (h : PPair B w t x size rs rs2) (hS : Sides size rs2) (hs : s.size ≤ maxLen) (hn : rs2.length ≤ 1000) (hB : B ≤ w.heap.size) :
    Calls Try.prog 8 #[.pointer (some ⟨x, 0, none⟩), .string s, .int .i64 m, .bool k] w (Asks B w (allV size rs2 s m) (allE size rs2 s m) fun w' => PPair B w' t x size rs (allS size rs2 s m k)) := by
  obtain ⟨F, G, h1, h2, h3⟩ := h
  refine (refAlloc20_is w s m k h2 hS hs hn hB).mono ?_
  rintro e w' ⟨G', rfl, h4, g⟩
  exact ⟨rfl, ⟨F, G', h1.kept g.keeps fun j f q => h3 j f q, h4, fun j f q => pgrows_apart (fun j a b => h3 j b a) g (fun j q => (h1.low j q).2) j q f⟩, g.keeps.below (Below.refl _ _) hB fun j q => (h2.low j q).1⟩
/-- A plan alone. -/
theorem pone_all (h : PlaAt B w t size rs F) (hs : s.size ≤ maxLen) (hn : rs.length ≤ 1000) (hB : B ≤ w.heap.size) :
    Calls Try.prog 7 #[.pointer (some ⟨t, 0, none⟩), .string s, .int .i64 m, .bool k] w (Asks B w (allV size rs s m) (allE size rs s m) fun w' => ∃ F', PlaAt B w' t size (allS size rs s m k) F') := by
  refine (plaAlloc_is h s m k hs hn hB).mono ?_
  rintro e w' ⟨F', rfl, h4, g⟩
  exact ⟨rfl, ⟨F', h4⟩, g.keeps.below (Below.refl _ _) hB fun j q => (h.low j q).1⟩
theorem ppair_find1 (h : PPair B w t x size rs rs2) (s : ByteArray) (hn : rs.length ≤ 1000) : Calls Try.prog 9 #[.pointer (some ⟨t, 0, none⟩), .string s] w fun e w' => e = .returned (.tuple #[rgV (fV rs s), .bool (fB rs s)]) ∧ Below w.heap.size w w' := by
  obtain ⟨F, G, h1, h2, h3⟩ := h
  exact plaFind_is h1 s (by omega)
theorem ppair_find2 (h : PPair B w t x size rs rs2) (s : ByteArray) (hn : rs2.length ≤ 1000) : Calls Try.prog 10 #[.pointer (some ⟨x, 0, none⟩), .string s] w fun e w' => e = .returned (.tuple #[rgV (fV rs2 s), .bool (fB rs2 s)]) ∧ Below w.heap.size w w' := by
  obtain ⟨F, G, h1, h2, h3⟩ := h
  exact refFind20_is w s h2 (by omega)
theorem pone_at (h : PlaAt B w t size rs F) (y : Int) (h0 : -9223372036854775808 ≤ y) (h1' : y ≤ 9223372036854775807) : Calls Try.prog 11 #[.pointer (some ⟨t, 0, none⟩), .int .i64 y] w fun e w' => e = .returned (.tuple #[rgV (aV rs y), .int .i64 (aO rs y), .bool (aB rs y)]) ∧ Below w.heap.size w w' := by
  obtain ⟨a, c, hH⟩ := h.held rfl
  exact plaAt_is hH h.sid y h0 h1'
theorem ppair_at1 (h : PPair B w t x size rs rs2) (y : Int) (h0 : -9223372036854775808 ≤ y) (h1' : y ≤ 9223372036854775807) : Calls Try.prog 11 #[.pointer (some ⟨t, 0, none⟩), .int .i64 y] w fun e w' => e = .returned (.tuple #[rgV (aV rs y), .int .i64 (aO rs y), .bool (aB rs y)]) ∧ Below w.heap.size w w' := by
  obtain ⟨F, G, h1, h2, h3⟩ := h
  exact pone_at h1 y h0 h1'
theorem ppair_at2 (h : PPair B w t x size rs rs2) (y : Int) (hS : Sides size rs2) (hn : rs2.length ≤ 1000) : Calls Try.prog 12 #[.pointer (some ⟨x, 0, none⟩), .int .i64 y] w fun e w' => e = .returned (.tuple #[rgV (aV rs2 y), .int .i64 (aO rs2 y), .bool (aB rs2 y)]) ∧ Below w.heap.size w w' := by
  obtain ⟨F, G, h1, h2, h3⟩ := h
  exact refAt20_is w y h2 hS (by omega)
theorem pone_used (h : PlaAt B w t size rs F) : Calls Try.prog 13 #[.pointer (some ⟨t, 0, none⟩)] w fun e w' => e = .returned (.int .i64 (usedR rs)) ∧ Below w.heap.size w w' := by
  obtain ⟨a, c, hH⟩ := h.held rfl
  exact plaUsed_is hH h.sid
theorem ppair_used1 (h : PPair B w t x size rs rs2) : Calls Try.prog 13 #[.pointer (some ⟨t, 0, none⟩)] w fun e w' => e = .returned (.int .i64 (usedR rs)) ∧ Below w.heap.size w w' := by
  obtain ⟨F, G, h1, h2, h3⟩ := h
  exact pone_used h1
theorem ppair_used2 (h : PPair B w t x size rs rs2) (hS : Sides size rs2) (hn : rs2.length ≤ 1000) : Calls Try.prog 14 #[.pointer (some ⟨x, 0, none⟩)] w fun e w' => e = .returned (.int .i64 (usedR rs2)) ∧ w = w' := by
  obtain ⟨F, G, h1, h2, h3⟩ := h
  exact refUsed20_is w h2 hS (by omega)
/-- A list of regions is answered, one of marks. -/
def RgIs (w : World) (n : Nat) (l : Rgs) (e : Ending) (w' : World) : Prop := ∃ a c, e = .returned (.slice a n c) ∧ ElAt rgK w' a n c l ∧ Below w.heap.size w w'
def MkIs (w : World) (n : Nat) (l : List Bool) (e : Ending) (w' : World) : Prop := ∃ a c, e = .returned (.slice a n c) ∧ ElAt boolK w' a n c l ∧ Below w.heap.size w w'
theorem pone_regs (h : PlaAt B w t size rs F) (hn : rs.length = n) (hn2 : n ≤ 1000) : Calls Try.prog 16 #[.pointer (some ⟨t, 0, none⟩)] w (RgIs w n rs) := by
  obtain ⟨a, c, hH⟩ := h.held hn
  refine (plaRegions_is hH (by omega)).mono ?_
  rintro e w' ⟨v, rfl, ho, hb⟩
  obtain ⟨a', c', rfl, hE⟩ := ho.at
  subst hn
  exact ⟨a', c', rfl, hE, hb⟩
theorem pone_secs (h : PlaAt B w t size rs F) (hn : (secL rs).length = n) : Calls Try.prog 18 #[.pointer (some ⟨t, 0, none⟩)] w (MkIs w n (secL rs)) := by
  obtain ⟨a, c, hH⟩ := h.held rfl
  refine (plaSecret_is hH h.sid).mono ?_
  rintro e w' ⟨v, rfl, ho, hb⟩
  obtain ⟨a', c', rfl, hE⟩ := ho.at
  subst hn
  exact ⟨a', c', rfl, hE, hb⟩
theorem ppair_regs (h : PPair B w t x size rs rs2) (hn : rs.length = n) (hn2 : n ≤ 1000) : Calls Try.prog 16 #[.pointer (some ⟨t, 0, none⟩)] w (RgIs w n rs) := by
  obtain ⟨F, G, h1, h2, h3⟩ := h
  exact pone_regs h1 hn hn2
theorem ppair_secs1 (h : PPair B w t x size rs rs2) (hn : (secL rs).length = n) : Calls Try.prog 18 #[.pointer (some ⟨t, 0, none⟩)] w (MkIs w n (secL rs)) := by
  obtain ⟨F, G, h1, h2, h3⟩ := h
  exact pone_secs h1 hn
theorem ppair_secs2 (h : PPair B w t x size rs rs2) (hS : Sides size rs2) (hn : (secL rs2).length = n) : Calls Try.prog 19 #[.pointer (some ⟨x, 0, none⟩)] w (MkIs w n (secL rs2)) := by
  obtain ⟨F, G, h1, h2, h3⟩ := h
  refine (refSecret20_is w h2 hS).mono ?_
  rintro e w' ⟨v, rfl, ho, hb⟩
  obtain ⟨a', c', rfl, hE⟩ := ho.at
  subst hn
  exact ⟨a', c', rfl, hE, hb⟩
/-- The document's own list, where it lies. -/
theorem PPair.list (h : PPair B w t x size rs rs2) (hn : rs2.length = n) : ∃ a c, w.cell? ⟨x, 1, none⟩ = some (.slice a n c) ∧ ElAt rgK w a n c rs2 := by
  obtain ⟨F, G, h1, h2, h3⟩ := h
  obtain ⟨a, c, -, e1, hE⟩ := h2.at hn
  exact ⟨a, c, e1, hE⟩
/-- What a region's loads find, and that nothing of the caller's has turned. -/
abbrev SeesW (b o : Nat) (s : ByteArray) (m : Int) (k : Bool) (w W : World) : Prop := (W.cell? ⟨b, o, none⟩ = some (.string s) ∧ W.cell? ⟨b, o + 1, none⟩ = some (.int .i64 m) ∧ W.cell? ⟨b, o + 2, none⟩ = some (.bool k)) ∧ Below w.heap.size w W
theorem seesW_on {b o : Nat} {w W W' : World} (h : SeesW b o s m k w W) (hb : b < w.heap.size) (q : Below w.heap.size W W') : SeesW b o s m k w W' :=
  ⟨⟨(q.cell (p := ⟨b, o, none⟩) hb).trans h.1.1, (q.cell (p := ⟨b, o + 1, none⟩) hb).trans h.1.2.1, (q.cell (p := ⟨b, o + 2, none⟩) hb).trans h.1.2.2⟩, h.2.trans q⟩
end
end Go.Proofs.Ytpgjdbnhbkggpaa
