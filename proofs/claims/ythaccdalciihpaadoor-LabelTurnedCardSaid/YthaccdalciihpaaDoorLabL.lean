/- Two tables beside one another: of package label, and the document's. Conditions: as few names as 1000; texts as short as any can be. -/
import Derived.Test.YthaccdalciihpaaDoorLabK
namespace Go.Proofs.YthaccdalciihpaaDoor
open Go.RowKit Go.Maps Go.IntWalk

abbrev Ac := Bool × ByteArray × Int
/-- What the first calls come to: Define's, Use's. -/
def dsOf (l : List Ac) : Df := l.foldl (fun ds x => if x.1 then defS ds x.2.1 x.2.2 else ds) []
def usOf (l : List Ac) : Df := l.foldl (fun us x => if x.1 then us else useS us x.2.1 x.2.2) []
theorem dsOf_take {l : List Ac} {k : Nat} (h : k < l.length) : dsOf (l.take (k + 1)) = if (el l k).1 then defS (dsOf (l.take k)) (el l k).2.1 (el l k).2.2 else dsOf (l.take k) := by
  unfold dsOf
  rw [take_el h, List.foldl_append]; rfl
theorem usOf_take {l : List Ac} {k : Nat} (h : k < l.length) : usOf (l.take (k + 1)) = if (el l k).1 then usOf (l.take k) else useS (usOf (l.take k)) (el l k).2.1 (el l k).2.2 := by
  unfold usOf
  rw [take_el h, List.foldl_append]; rfl
theorem dsOf_len (l : List Ac) : ∀ k, k ≤ l.length → (dsOf (l.take k)).length ≤ k
  | 0, _ => by simp [dsOf]
  | k + 1, h => by
    have := dsOf_len l k (by omega)
    rw [dsOf_take (by omega)]
    split
    · exact Nat.le_trans (defS_len _ _ _) (by omega)
    · omega
theorem usOf_len (l : List Ac) : ∀ k, k ≤ l.length → (usOf (l.take k)).length ≤ k
  | 0, _ => by simp [usOf]
  | k + 1, h => by
    have := usOf_len l k (by omega)
    rw [usOf_take (by omega)]
    split
    · omega
    · exact Nat.le_trans (useS_len _ _ _) (by omega)
/-- Two tables of package label. -/
def Twin (B : Nat) (w : World) (t x : Nat) (ds us ds2 us2 : Df) : Prop := ∃ F G, LabAt B w t ds us F ∧ LabAt B w x ds2 us2 G ∧ ∀ j, F j → ¬ G j
/-- One of package label, one of the document's. -/
def Pair (B : Nat) (w : World) (t x : Nat) (ds us ds2 us2 : Df) : Prop := ∃ F G, LabAt B w t ds us F ∧ RefAt B w x ds2 us2 G ∧ ∀ j, F j → ¬ G j
/-- A call that tells: what it answers, what it leaves. -/
def Tells (B : Nat) (w : World) (k : Int) (Q : World → Prop) (e : Ending) (w' : World) : Prop := e = .returned (.int .i64 k) ∧ Q w' ∧ Below B w w'
section
variable {B t x : Nat} {w w' : World} {ds us ds2 us2 : Df} {s : ByteArray} {p : Int}
theorem Twin.keep (h : Twin B w t x ds us ds2 us2) (k : Below w.heap.size w w') : Twin B w' t x ds us ds2 us2 := by
  obtain ⟨F, G, h1, h2, h3⟩ := h
  exact ⟨F, G, h1.keep k, h2.keep k, h3⟩
theorem Pair.keep (h : Pair B w t x ds us ds2 us2) (k : Below w.heap.size w w') : Pair B w' t x ds us ds2 us2 := by
  obtain ⟨F, G, h1, h2, h3⟩ := h
  exact ⟨F, G, h1.keep k, h2.keep k, h3⟩
theorem grows_apart {F G F' : Nat → Prop} (h3 : ∀ j, F j → ¬ G j) (g : Grows F w F' w') (hG : ∀ j, G j → j < w.heap.size) : ∀ j, F' j → ¬ G j := fun j f q => by
  rcases g.new j f with r | r
  · exact h3 j r q
  · have := hG j q; omega
theorem twin_def1 (h : Twin B w t x ds us ds2 us2) (hs : s.size ≤ maxLen) (hn : ds.length + us.length ≤ 2000) (hB : B ≤ w.heap.size) :
    Calls Tryd.prog 7 #[.pointer (some ⟨t, 0, none⟩), .string s, .int .i64 p] w (Tells B w (defE ds s) fun w' => Twin B w' t x (defS ds s p) us ds2 us2) := by
  obtain ⟨F, G, h1, h2, h3⟩ := h
  refine (labDefine_is B t ds us F s p w h1 hs hn hB).mono ?_
  rintro e w' ⟨F', rfl, h4, g⟩
  exact ⟨rfl, ⟨F', G, h4, h2.kept g.keeps fun j q f => h3 j f q, grows_apart h3 g fun j q => (h2.low j q).2⟩, g.keeps.below (Below.refl _ _) hB fun j q => (h1.low j q).1⟩
theorem twin_def2 (h : Twin B w t x ds us ds2 us2) (hs : s.size ≤ maxLen) (hn : ds2.length + us2.length ≤ 2000) (hB : B ≤ w.heap.size) :
    Calls Tryd.prog 7 #[.pointer (some ⟨x, 0, none⟩), .string s, .int .i64 p] w (Tells B w (defE ds2 s) fun w' => Twin B w' t x ds us (defS ds2 s p) us2) := by
  obtain ⟨F, G, h1, h2, h3⟩ := h
  refine (labDefine_is B x ds2 us2 G s p w h2 hs hn hB).mono ?_
  rintro e w' ⟨G', rfl, h4, g⟩
  exact ⟨rfl, ⟨F, G', h1.kept g.keeps fun j f q => h3 j f q, h4, fun j f q => grows_apart (fun j q f => h3 j f q) g (fun j q => (h1.low j q).2) j q f⟩, g.keeps.below (Below.refl _ _) hB fun j q => (h2.low j q).1⟩
theorem twin_use1 (h : Twin B w t x ds us ds2 us2) (hs : s.size ≤ maxLen) (hn : ds.length + us.length ≤ 2000) (hB : B ≤ w.heap.size) :
    Calls Tryd.prog 9 #[.pointer (some ⟨t, 0, none⟩), .string s, .int .i64 p] w (Tells B w (useE s) fun w' => Twin B w' t x ds (useS us s p) ds2 us2) := by
  obtain ⟨F, G, h1, h2, h3⟩ := h
  refine (labUse_is B t ds us F s p w h1 hs hn hB).mono ?_
  rintro e w' ⟨F', rfl, h4, g⟩
  exact ⟨rfl, ⟨F', G, h4, h2.kept g.keeps fun j q f => h3 j f q, grows_apart h3 g fun j q => (h2.low j q).2⟩, g.keeps.below (Below.refl _ _) hB fun j q => (h1.low j q).1⟩
theorem twin_use2 (h : Twin B w t x ds us ds2 us2) (hs : s.size ≤ maxLen) (hn : ds2.length + us2.length ≤ 2000) (hB : B ≤ w.heap.size) :
    Calls Tryd.prog 9 #[.pointer (some ⟨x, 0, none⟩), .string s, .int .i64 p] w (Tells B w (useE s) fun w' => Twin B w' t x ds us ds2 (useS us2 s p)) := by
  obtain ⟨F, G, h1, h2, h3⟩ := h
  refine (labUse_is B x ds2 us2 G s p w h2 hs hn hB).mono ?_
  rintro e w' ⟨G', rfl, h4, g⟩
  exact ⟨rfl, ⟨F, G', h1.kept g.keeps fun j f q => h3 j f q, h4, fun j f q => grows_apart (fun j q f => h3 j f q) g (fun j q => (h1.low j q).2) j q f⟩, g.keeps.below (Below.refl _ _) hB fun j q => (h2.low j q).1⟩
theorem pair_def1 (h : Pair B w t x ds us ds2 us2) (hs : s.size ≤ maxLen) (hn : ds.length + us.length ≤ 2000) (hB : B ≤ w.heap.size) :
    Calls Tryd.prog 7 #[.pointer (some ⟨t, 0, none⟩), .string s, .int .i64 p] w (Tells B w (defE ds s) fun w' => Pair B w' t x (defS ds s p) us ds2 us2) := by
  obtain ⟨F, G, h1, h2, h3⟩ := h
  refine (labDefine_is B t ds us F s p w h1 hs hn hB).mono ?_
  rintro e w' ⟨F', rfl, h4, g⟩
  exact ⟨rfl, ⟨F', G, h4, h2.kept g.keeps fun j q f => h3 j f q, grows_apart h3 g fun j q => (h2.low j q).2⟩, g.keeps.below (Below.refl _ _) hB fun j q => (h1.low j q).1⟩
theorem pair_def2 (h : Pair B w t x ds us ds2 us2) (hs : s.size ≤ maxLen) (hn : ds2.length ≤ 1000) (hB : B ≤ w.heap.size) :
    Calls Tryd.prog 8 #[.pointer (some ⟨x, 0, none⟩), .string s, .int .i64 p] w (Tells B w (defE ds2 s) fun w' => Pair B w' t x ds us (defS ds2 s p) us2) := by
  obtain ⟨F, G, h1, h2, h3⟩ := h
  refine (refDefine19_is B x ds2 us2 G s p w h2 hs hn hB).mono ?_
  rintro e w' ⟨G', rfl, h4, g⟩
  exact ⟨rfl, ⟨F, G', h1.kept g.keeps fun j f q => h3 j f q, h4, fun j f q => grows_apart (fun j q f => h3 j f q) g (fun j q => (h1.low j q).2) j q f⟩, g.keeps.below (Below.refl _ _) hB fun j q => (h2.low j q).1⟩
theorem pair_use1 (h : Pair B w t x ds us ds2 us2) (hs : s.size ≤ maxLen) (hn : ds.length + us.length ≤ 2000) (hB : B ≤ w.heap.size) :
    Calls Tryd.prog 9 #[.pointer (some ⟨t, 0, none⟩), .string s, .int .i64 p] w (Tells B w (useE s) fun w' => Pair B w' t x ds (useS us s p) ds2 us2) := by
  obtain ⟨F, G, h1, h2, h3⟩ := h
  refine (labUse_is B t ds us F s p w h1 hs hn hB).mono ?_
  rintro e w' ⟨F', rfl, h4, g⟩
  exact ⟨rfl, ⟨F', G, h4, h2.kept g.keeps fun j q f => h3 j f q, grows_apart h3 g fun j q => (h2.low j q).2⟩, g.keeps.below (Below.refl _ _) hB fun j q => (h1.low j q).1⟩
theorem pair_use2 (h : Pair B w t x ds us ds2 us2) (hs : s.size ≤ maxLen) (hn : us2.length ≤ 1000) (hB : B ≤ w.heap.size) :
    Calls Tryd.prog 10 #[.pointer (some ⟨x, 0, none⟩), .string s, .int .i64 p] w (Tells B w (useE s) fun w' => Pair B w' t x ds us ds2 (useS us2 s p)) := by
  obtain ⟨F, G, h1, h2, h3⟩ := h
  refine (refUse19_is B x ds2 us2 G s p w h2 hs hn hB).mono ?_
  rintro e w' ⟨G', rfl, h4, g⟩
  exact ⟨rfl, ⟨F, G', h1.kept g.keeps fun j f q => h3 j f q, h4, fun j f q => grows_apart (fun j q f => h3 j f q) g (fun j q => (h1.low j q).2) j q f⟩, g.keeps.below (Below.refl _ _) hB fun j q => (h2.low j q).1⟩
end
theorem ElAt.acts {w : World} {b off n c : Nat} {l : List Ac} (h : ElAt actK w (some ⟨b, off, none⟩) n c l) {i : Nat} (hi : i < n) : w.cell? ⟨b, off + i * 3, none⟩ = some (.bool (el l i).1) ∧ w.cell? ⟨b, off + i * 3 + 1, none⟩ = some (.string (el l i).2.1) ∧ w.cell? ⟨b, off + i * 3 + 2, none⟩ = some (.int .i64 (el l i).2.2) := by
  obtain ⟨b', off', e, h⟩ := h.act hi
  simp only [Option.some.injEq, Addr.mk.injEq, and_true] at e
  obtain ⟨rfl, rfl⟩ := e
  exact h
/-- What Resolve answers, in letters. -/
def ResIs (N : Nat) (L : List (Int × Int)) (nm : ByteArray) (ec : Int) (w : World) (e : Ending) (w' : World) : Prop := ∃ a c, e = .returned (.tuple #[.slice a N c, .string nm, .int .i64 ec]) ∧ ElAt fixK w' a N c L ∧ Below w.heap.size w w'
def NamesIs (N : Nat) (L : List ByteArray) (w : World) (e : Ending) (w' : World) : Prop := ∃ a c, e = .returned (.slice a N c) ∧ ElAt strK w' a N c L ∧ Below w.heap.size w w'
section
variable {B t x : Nat} {w : World} {ds us ds2 us2 : Df} {N : Nat}
theorem res_in {f : FuncId} {args : Array Value} (h : Calls Tryd.prog f args w (RetRes ds us w)) (hN : (resL ds us).length = N) : Calls Tryd.prog f args w (ResIs N (resL ds us) (resN ds us) (resE ds us) w) := by
  refine h.mono ?_
  rintro e w' ⟨v, rfl, ho, hb⟩
  obtain ⟨a, c, rfl, hat⟩ := ho.at
  subst hN
  exact ⟨a, c, rfl, hat, hb⟩
theorem names_in {f : FuncId} {args : Array Value} (h : Calls Tryd.prog f args w (RetNames ds w)) (hN : (namesOf ds).length = N) : Calls Tryd.prog f args w (NamesIs N (namesOf ds) w) := by
  refine h.mono ?_
  rintro e w' ⟨v, rfl, ho, hb⟩
  obtain ⟨a, c, rfl, hat⟩ := ho.at
  subst hN
  exact ⟨a, c, rfl, hat, hb⟩
theorem twin_res1 (h : Twin B w t x ds us ds2 us2) (hn : us.length ≤ 1000) (hE : ErrLaid w) (hN : (resL ds us).length = N) : Calls Tryd.prog 11 #[.pointer (some ⟨t, 0, none⟩)] w (ResIs N (resL ds us) (resN ds us) (resE ds us) w) := by
  obtain ⟨F, G, h1, h2, h3⟩ := h
  exact res_in (labResolve_is B t ds us F w h1 hn hE) hN
theorem twin_res2 (h : Twin B w t x ds us ds2 us2) (hn : us2.length ≤ 1000) (hE : ErrLaid w) (hN : (resL ds2 us2).length = N) : Calls Tryd.prog 11 #[.pointer (some ⟨x, 0, none⟩)] w (ResIs N (resL ds2 us2) (resN ds2 us2) (resE ds2 us2) w) := by
  obtain ⟨F, G, h1, h2, h3⟩ := h
  exact res_in (labResolve_is B x ds2 us2 G w h2 hn hE) hN
theorem twin_names1 (h : Twin B w t x ds us ds2 us2) (hn : ds.length + us.length ≤ 2000) (hN : (namesOf ds).length = N) : Calls Tryd.prog 17 #[.pointer (some ⟨t, 0, none⟩)] w (NamesIs N (namesOf ds) w) := by
  obtain ⟨F, G, h1, h2, h3⟩ := h
  exact names_in (labNames_is B t ds us F w h1 hn) hN
theorem twin_names2 (h : Twin B w t x ds us ds2 us2) (hn : ds2.length + us2.length ≤ 2000) (hN : (namesOf ds2).length = N) : Calls Tryd.prog 17 #[.pointer (some ⟨x, 0, none⟩)] w (NamesIs N (namesOf ds2) w) := by
  obtain ⟨F, G, h1, h2, h3⟩ := h
  exact names_in (labNames_is B x ds2 us2 G w h2 hn) hN
theorem pair_res1 (h : Pair B w t x ds us ds2 us2) (hn : us.length ≤ 1000) (hE : ErrLaid w) (hN : (resL ds us).length = N) : Calls Tryd.prog 11 #[.pointer (some ⟨t, 0, none⟩)] w (ResIs N (resL ds us) (resN ds us) (resE ds us) w) := by
  obtain ⟨F, G, h1, h2, h3⟩ := h
  exact res_in (labResolve_is B t ds us F w h1 hn hE) hN
theorem pair_res2 (h : Pair B w t x ds us ds2 us2) (hd : ds2.length ≤ 1000) (hn : us2.length ≤ 1000) (hN : (resL ds2 us2).length = N) : Calls Tryd.prog 12 #[.pointer (some ⟨x, 0, none⟩)] w (ResIs N (resL ds2 us2) (resN ds2 us2) (resE ds2 us2) w) := by
  obtain ⟨F, G, h1, h2, h3⟩ := h
  exact res_in (refResolve19_is B x ds2 us2 G w h2 hd hn) hN
theorem pair_names1 (h : Pair B w t x ds us ds2 us2) (hn : ds.length + us.length ≤ 2000) (hN : (namesOf ds).length = N) : Calls Tryd.prog 17 #[.pointer (some ⟨t, 0, none⟩)] w (NamesIs N (namesOf ds) w) := by
  obtain ⟨F, G, h1, h2, h3⟩ := h
  exact names_in (labNames_is B t ds us F w h1 hn) hN
theorem pair_names2 (h : Pair B w t x ds us ds2 us2) (hn : ds2.length ≤ 1000) (hN : (namesOf ds2).length = N) : Calls Tryd.prog 18 #[.pointer (some ⟨x, 0, none⟩)] w (NamesIs N (namesOf ds2) w) := by
  obtain ⟨F, G, h1, h2, h3⟩ := h
  exact names_in (refNames19_is B x ds2 us2 G w h2 hn) hN
theorem pair_place1 (h : Pair B w t x ds us ds2 us2) (s : ByteArray) (hs : s.size ≤ maxLen) : Calls Tryd.prog 13 #[.pointer (some ⟨t, 0, none⟩), .string s] w fun e w' => e = .returned (.tuple #[.int .i64 (plV ds s), .bool (plB ds s)]) ∧ w = w' := by
  obtain ⟨F, G, h1, h2, h3⟩ := h
  exact labPlace_is B t ds us F s w h1 hs
theorem pair_place2 (h : Pair B w t x ds us ds2 us2) (s : ByteArray) (hn : ds2.length ≤ 1000) : Calls Tryd.prog 14 #[.pointer (some ⟨x, 0, none⟩), .string s] w fun e w' => e = .returned (.tuple #[.int .i64 (plV ds2 s), .bool (plB ds2 s)]) ∧ w = w' := by
  obtain ⟨F, G, h1, h2, h3⟩ := h
  exact refPlace19_is B x ds2 us2 G s w h2 hn
end
end Go.Proofs.YthaccdalciihpaaDoor
