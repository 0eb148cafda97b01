/- What package line's Text answers. Conditions: the tables that the program lists lie as its text has them. -/
import Derived.Test.YtheflkhbmbfajaaDoorLinT
namespace Go.Proofs.YtheflkhbmbfajaaDoor
open Go.RowKit Go.Shelf

theorem new_kept {B : Nat} {T : TypeId} {cs : Array Value} {w : World} (h : BlkAt B T cs w) (x : Obj) (k : Nat) : (w.alloc x).cell? ⟨B, k, none⟩ = cs[k]? := (h.keep ((Below.refl _ _).alloc (Nat.le_refl _) x)).cell k
theorem new_free {B : Nat} {T : TypeId} {cs : Array Value} {w : World} (h : BlkAt B T cs w) (x : Obj) (k : Nat) : (w.alloc x).frozen? ⟨B, k, none⟩ = false := (h.keep ((Below.refl _ _).alloc (Nat.le_refl _) x)).free k
theorem s5_of {w w' : World} {o d a b n : Int} (h : InsW w w.heap.size o d a b n w') : w'.cell? ⟨w.heap.size, 0, none⟩ = some (.int .i64 o) ∧ w'.cell? ⟨w.heap.size, 1, none⟩ = some (.int .i64 d) ∧ w'.cell? ⟨w.heap.size, 2, none⟩ = some (.int .i64 a) ∧ w'.cell? ⟨w.heap.size, 3, none⟩ = some (.int .i64 b) ∧ w'.cell? ⟨w.heap.size, 4, none⟩ = some (.int .i64 n) ∧ InsW w w.heap.size o d a b n w' := ⟨h.c0, h.c1, h.c2, h.c3, h.c4, h⟩
theorem s5_alloc {w w' : World} {o d a b n : Int} (h : w'.cell? ⟨w.heap.size, 0, none⟩ = some (.int .i64 o) ∧ w'.cell? ⟨w.heap.size, 1, none⟩ = some (.int .i64 d) ∧ w'.cell? ⟨w.heap.size, 2, none⟩ = some (.int .i64 a) ∧ w'.cell? ⟨w.heap.size, 3, none⟩ = some (.int .i64 b) ∧ w'.cell? ⟨w.heap.size, 4, none⟩ = some (.int .i64 n) ∧ InsW w w.heap.size o d a b n w') (x : Obj) : (w'.alloc x).cell? ⟨w.heap.size, 0, none⟩ = some (.int .i64 o) ∧ (w'.alloc x).cell? ⟨w.heap.size, 1, none⟩ = some (.int .i64 d) ∧ (w'.alloc x).cell? ⟨w.heap.size, 2, none⟩ = some (.int .i64 a) ∧ (w'.alloc x).cell? ⟨w.heap.size, 3, none⟩ = some (.int .i64 b) ∧ (w'.alloc x).cell? ⟨w.heap.size, 4, none⟩ = some (.int .i64 n) ∧ InsW w w.heap.size o d a b n (w'.alloc x) := s5_of (h.2.2.2.2.2.alloc x)
theorem s5_set {w w' : World} {o d a b n : Int} {g : Nat} (h : w'.cell? ⟨w.heap.size, 0, none⟩ = some (.int .i64 o) ∧ w'.cell? ⟨w.heap.size, 1, none⟩ = some (.int .i64 d) ∧ w'.cell? ⟨w.heap.size, 2, none⟩ = some (.int .i64 a) ∧ w'.cell? ⟨w.heap.size, 3, none⟩ = some (.int .i64 b) ∧ w'.cell? ⟨w.heap.size, 4, none⟩ = some (.int .i64 n) ∧ InsW w w.heap.size o d a b n w') (hg : w.heap.size < g) (v0 v1 v2 v3 v4 v5 : Value) : (((((((w'.setCell ⟨g, 0, none⟩ v0).setCell ⟨g, 1, none⟩ v1).setCell ⟨g, 2, none⟩ v2).setCell ⟨g, 3, none⟩ v3).setCell ⟨g, 4, none⟩ v4).setCell ⟨g, 5, none⟩ v5)).cell? ⟨w.heap.size, 0, none⟩ = some (.int .i64 o) ∧ (((((((w'.setCell ⟨g, 0, none⟩ v0).setCell ⟨g, 1, none⟩ v1).setCell ⟨g, 2, none⟩ v2).setCell ⟨g, 3, none⟩ v3).setCell ⟨g, 4, none⟩ v4).setCell ⟨g, 5, none⟩ v5)).cell? ⟨w.heap.size, 1, none⟩ = some (.int .i64 d) ∧ (((((((w'.setCell ⟨g, 0, none⟩ v0).setCell ⟨g, 1, none⟩ v1).setCell ⟨g, 2, none⟩ v2).setCell ⟨g, 3, none⟩ v3).setCell ⟨g, 4, none⟩ v4).setCell ⟨g, 5, none⟩ v5)).cell? ⟨w.heap.size, 2, none⟩ = some (.int .i64 a) ∧ (((((((w'.setCell ⟨g, 0, none⟩ v0).setCell ⟨g, 1, none⟩ v1).setCell ⟨g, 2, none⟩ v2).setCell ⟨g, 3, none⟩ v3).setCell ⟨g, 4, none⟩ v4).setCell ⟨g, 5, none⟩ v5)).cell? ⟨w.heap.size, 3, none⟩ = some (.int .i64 b) ∧ (((((((w'.setCell ⟨g, 0, none⟩ v0).setCell ⟨g, 1, none⟩ v1).setCell ⟨g, 2, none⟩ v2).setCell ⟨g, 3, none⟩ v3).setCell ⟨g, 4, none⟩ v4).setCell ⟨g, 5, none⟩ v5)).cell? ⟨w.heap.size, 4, none⟩ = some (.int .i64 n) ∧ InsW w w.heap.size o d a b n (((((((w'.setCell ⟨g, 0, none⟩ v0).setCell ⟨g, 1, none⟩ v1).setCell ⟨g, 2, none⟩ v2).setCell ⟨g, 3, none⟩ v3).setCell ⟨g, 4, none⟩ v4).setCell ⟨g, 5, none⟩ v5)) :=
  s5_of ((((((h.2.2.2.2.2.other hg v0).other hg v1).other hg v2).other hg v3).other hg v4).other hg v5)
theorem InsW.drew {w w' : World} {B : Nat} {o d a b n : Int} (h : InsW w B o d a b n w') : InsW w B o d a b n w'.drew := ⟨h.c0, h.c1, h.c2, h.c3, h.c4, h.f0, h.f1, h.f2, h.f3, h.f4, h.lt, h.ge, h.below.drew⟩
theorem below_undrew {W w : World} (h : Below W.drew.heap.size W.drew w) : Below W.heap.size W w := ⟨h.os, h.tape, h.output, h.size, h.block⟩
set_option maxHeartbeats 4000000 in
theorem lineText_bad (o d a b n z : Int) (w : World) (hz : cChk o d a b n = z) (hne : z ≠ 0) (hL : LinLaid w) :
    Calls Tryd.prog 7 #[.agg #[.int .i64 o, .int .i64 d, .int .i64 a, .int .i64 b, .int .i64 n]] w fun e w' => e = .returned (.tuple #[.string ⟨#[]⟩, .int .i64 z]) ∧ Below w.heap.size w w' := by
  have HI := Lib.hid (fun T => InsW.new w w o d a b n T (Below.refl _ _) (Nat.le_refl _))
  have HL := Lib.hid hL
  have HZ := Lib.hid hz
  have hne' : (z != 0) = true := by simpa using hne
  clear hz hne hL
  go_enter Tryd.func7, Tryd.ntmps7
  go_wp2_with (go_at_call 17; ((with_reducible refine (codeCheckI_is o d a b n z _ (HL.out.below (HI.out _).below (Nat.le_refl _)).shapes HZ.out).mono ?_); rintro e w1 ⟨rfl, hk⟩); have hI := (HI.out _).keep hk)
  go_ret2
  exact ⟨rfl, hI.below⟩
/-- The one word at the start: the operation's name. -/
theorem one_own (w : World) (u : ByteArray) (base : Nat) (hb : base ≤ w.heap.size) : (w.alloc (.cells #[.string u] 9)).ownsRow base 9 1 (.slice (some ⟨w.heap.size, 0, none⟩) 1 1) 1 [.string u] :=
  ⟨rfl, .inr ⟨w.heap.size, 1, #[.string u], rfl, hb, BlkAt.new w _ _, Nat.le_refl _, by unfold maxLen; decide, rfl, rfl⟩⟩
theorem tells_0 (o d a b n : Int) : (tells o d a b n 0).length = 1 ∧ ((tells o d a b n 0).map txt).map Value.string = [.string (wName o)] := by
  refine ⟨rfl, ?_⟩
  simp [tells, txt_of]
theorem tell_mk {w W0 W : World} {B : Nat} {o d a b n : Int} {v : Value} {cs : Array Value} (hb : Below w.heap.size w W0) (k0 : BlkAt B 42 cs W0) (ho : W0.ownsRow w.heap.size 9 1 v 1 [.string (wName o)]) (hq : OnlyB B W0 W) (k6 : BlkAt B 42 (rdC o d a b n v) W) (hB : w.heap.size ≤ B) : TellAt w B o d a b n 0 W := by
  refine ⟨v, k6, ?_, hq.below hb hB hb.size⟩
  rw [(tells_0 o d a b n).1, (tells_0 o d a b n).2]
  exact own_off ho k0 (by decide) hq
theorem set6_eq {o d a b n : Int} {v : Value} {cs : Array Value} (hcs : cs.size = 6) : ((((((cs.setIfInBounds 0 (.int .i64 o)).setIfInBounds 1 (.int .i64 d)).setIfInBounds 2 (.int .i64 a)).setIfInBounds 3 (.int .i64 b)).setIfInBounds 4 (.int .i64 n)).setIfInBounds 5 v) = rdC o d a b n v := by
  obtain ⟨l⟩ := cs
  match l, hcs with
  | [_, _, _, _, _, _], _ => simp [rdC]
theorem set6_only (B : Nat) (W : World) (v0 v1 v2 v3 v4 v5 : Value) : OnlyB B W ((((((W.setCell ⟨B, 0, none⟩ v0).setCell ⟨B, 1, none⟩ v1).setCell ⟨B, 2, none⟩ v2).setCell ⟨B, 3, none⟩ v3).setCell ⟨B, 4, none⟩ v4).setCell ⟨B, 5, none⟩ v5) :=
  (((((OnlyB.set B 0 W v0).next 1 v1).next 2 v2).next 3 v3).next 4 v4).next 5 v5
theorem set6_blk {B : Nat} {T : TypeId} {cs : Array Value} {W : World} (h : BlkAt B T cs W) (o d a b n : Int) (v : Value) (hcs : cs.size = 6) : BlkAt B T (rdC o d a b n v) ((((((W.setCell ⟨B, 0, none⟩ (.int .i64 o)).setCell ⟨B, 1, none⟩ (.int .i64 d)).setCell ⟨B, 2, none⟩ (.int .i64 a)).setCell ⟨B, 3, none⟩ (.int .i64 b)).setCell ⟨B, 4, none⟩ (.int .i64 n)).setCell ⟨B, 5, none⟩ v) :=
  ((((((h.set 0 _).set 1 _).set 2 _).set 3 _).set 4 _).set 5 _).eq (set6_eq hcs)
theorem tell_start1 {w w2 : World} {B : Nat} {o d a b n : Int} {cs : Array Value} (hJ : Below w.heap.size w w2) (hK : BlkAt B 42 cs w2) (hcs : cs.size = 6) (hB : w.heap.size ≤ B) :
    TellAt w B o d a b n 0 (((((((w2.alloc (.cells #[.string (wName o)] 9)).setCell ⟨B, 0, none⟩ (.int .i64 o)).setCell ⟨B, 1, none⟩ (.int .i64 d)).setCell ⟨B, 2, none⟩ (.int .i64 a)).setCell ⟨B, 3, none⟩ (.int .i64 b)).setCell ⟨B, 4, none⟩ (.int .i64 n)).setCell ⟨B, 5, none⟩ (.slice (some ⟨w2.heap.size, 0, none⟩) 1 1)) := by
  have k0 := hK.keep ((Below.refl w2.heap.size w2).alloc (Nat.le_refl _) (.cells #[.string (wName o)] 9))
  have ho := one_own w2 (wName o) w.heap.size hJ.size
  have h1 := hJ.alloc hJ.size (.cells #[.string (wName o)] 9)
  generalize w2.alloc (.cells #[.string (wName o)] 9) = W0 at *
  generalize w2.heap.size = g at *
  exact tell_mk h1 k0 ho (set6_only B W0 _ _ _ _ _ _) (set6_blk k0 o d a b n _ hcs) hB
theorem tell_start2 {w w2 : World} {o d a b n : Int} (hJ : Below w.heap.size w w2) :
    TellAt w w2.heap.size o d a b n 0 ((w2.alloc (.cells #[.int .i64 o, .int .i64 d, .int .i64 a, .int .i64 b, .int .i64 n, .slice (some ⟨w2.heap.size + 1, 0, none⟩) 1 1] 42)).alloc (.cells #[.string (wName o)] 9)) := by
  have h1 := hJ.alloc hJ.size (.cells #[.int .i64 o, .int .i64 d, .int .i64 a, .int .i64 b, .int .i64 n, .slice (some ⟨w2.heap.size + 1, 0, none⟩) 1 1] 42)
  have hs : (w2.alloc (.cells #[.int .i64 o, .int .i64 d, .int .i64 a, .int .i64 b, .int .i64 n, .slice (some ⟨w2.heap.size + 1, 0, none⟩) 1 1] 42)).heap.size = w2.heap.size + 1 := by simp
  have ho := one_own (w2.alloc (.cells #[.int .i64 o, .int .i64 d, .int .i64 a, .int .i64 b, .int .i64 n, .slice (some ⟨w2.heap.size + 1, 0, none⟩) 1 1] 42)) (wName o) w.heap.size h1.size
  rw [hs] at ho
  refine ⟨_, (BlkAt.new w2 _ _).keep ((Below.refl _ _).alloc (Nat.le_refl _) _), ?_, h1.alloc h1.size _⟩
  rw [(tells_0 o d a b n).1, (tells_0 o d a b n).2]
  exact ho
theorem tell_start3 {w w2 : World} {o d a b n : Int} (hJ : Below w.heap.size w w2) :
    TellAt w (w2.heap.size + 1) o d a b n 0 ((w2.alloc (.cells #[.string (wName o)] 9)).alloc (.cells #[.int .i64 o, .int .i64 d, .int .i64 a, .int .i64 b, .int .i64 n, .slice (some ⟨w2.heap.size, 0, none⟩) 1 1] 42)) := by
  have h1 := hJ.alloc hJ.size (.cells #[.string (wName o)] 9)
  have hs : (w2.alloc (.cells #[.string (wName o)] 9)).heap.size = w2.heap.size + 1 := by simp
  have ho := one_own w2 (wName o) w.heap.size hJ.size
  have hb := BlkAt.new (w2.alloc (.cells #[.string (wName o)] 9)) 42 #[.int .i64 o, .int .i64 d, .int .i64 a, .int .i64 b, .int .i64 n, .slice (some ⟨w2.heap.size, 0, none⟩) 1 1]
  rw [hs] at hb
  refine ⟨_, hb, ?_, h1.alloc h1.size _⟩
  rw [(tells_0 o d a b n).1, (tells_0 o d a b n).2]
  exact own_keep ho ((Below.refl _ _).alloc (Nat.le_refl _) _)
theorem tells_pos (o d a b n : Int) : ∀ k, 1 ≤ (tells o d a b n k).length
  | 0 => Nat.le_refl _
  | k + 1 => by
    have := tells_pos o d a b n k
    rw [tells, List.length_append]
    omega
/-- The words, as they lie behind all letters. -/
theorem tell_form {w0 w : World} {B : Nat} {o d a b n : Int} (h : TellAt w0 B o d a b n 4 w) : ∃ g cap, w.cell? ⟨B, 5, none⟩ = some (.slice (some ⟨g, 0, none⟩) ((lineWs o d a b n).map txt).length cap) ∧
    (∀ (j : Nat) x, ((lineWs o d a b n).map txt)[j]? = some x → w.cell? ⟨g, j, none⟩ = some (.string x)) ∧ g < w.heap.size ∧ ((lineWs o d a b n).map txt).length ≤ cap ∧ Below w0.heap.size w0 w := by
  obtain ⟨v, h1, h2, h3⟩ := h
  have hp := tells_pos o d a b n 4
  have hh := h2
  rcases h2.2 with ⟨_, hn⟩ | ⟨g, cap, cur, rfl, hb, hg, hn, rest⟩
  · omega
  · have c5 : w.cell? ⟨B, 5, none⟩ = some (.slice (some ⟨g, 0, none⟩) (tells o d a b n 4).length cap) := h1.cell 5
    refine ⟨g, cap, by rw [List.length_map]; exact c5, fun j x hx => own_text hh hx, (Array.getElem?_eq_some_iff.1 hg).1, by rw [List.length_map]; exact hn, h3⟩
theorem join_len {m : Nat} : ∀ (ws : List (List UInt8)), (∀ x ∈ ws, x.length ≤ m) → (Lib.join ws [32]).length ≤ ws.length * (m + 1)
  | [], _ => by simp [Lib.join_nil]
  | [x], h => by
    rw [Lib.join_one]
    have := h x (.head _)
    simp
    omega
  | x :: y :: r, h => by
    have e : Lib.join (x :: y :: r) [32] = x ++ 32 :: Lib.join (y :: r) [32] := by
      rw [Lib.join_cons, Lib.join_cons]
      simp [Lib.joinTail]
    have i := join_len (y :: r) (fun z hz => h z (.tail _ hz))
    have := h x (.head _)
    rw [e]
    simp only [List.length_append, List.length_cons, Nat.add_mul, Nat.one_mul] at i ⊢
    omega
theorem join_back (ws : List (List UInt8)) : (ws.map txt).map (·.data.toList) = ws := by
  rw [List.map_map]
  have : ((fun x : ByteArray => x.data.toList) ∘ txt) = id := by funext l; exact txt_list l
  rw [this, List.map_id]
set_option maxHeartbeats 1000000 in
theorem lineText_good (o d a b n : Int) (w : World) (hz : cChk o d a b n = 0) (hL : LinLaid w) :
    Calls Tryd.prog 7 #[.agg #[.int .i64 o, .int .i64 d, .int .i64 a, .int .i64 b, .int .i64 n]] w fun e w' => e = .returned (.tuple #[.string (txt (Lib.join (lineWs o d a b n) [32])), .int .i64 0]) ∧ Below w.heap.size w w' := by
  have HI := Lib.hid (fun T => InsW.new w w o d a b n T (Below.refl _ _) (Nat.le_refl _))
  have HL := Lib.hid hL
  have HZ := Lib.hid hz
  obtain ⟨jl, hjl⟩ : ∃ jl, Lib.join (lineWs o d a b n) [32] = jl := ⟨_, rfl⟩
  rw [hjl]
  have HJN := Lib.hid hjl
  clear hz hL hjl
  go_enter Tryd.func7, Tryd.ntmps7
  go_wp2_with (go_at_call 17; ((with_reducible refine (codeCheckI_is o d a b n 0 _ (HL.out.below (HI.out _).below (Nat.le_refl _)).shapes HZ.out).mono ?_); rintro e w1 ⟨rfl, hk⟩); have hI := (HI.out _).keep hk; have c0 := hI.c0; have c1 := hI.c1; have c2 := hI.c2; have c3 := hI.c3; have c4 := hI.c4)
  have hS := s5_of hI.drew
  have hgt := hI.lt
  go_region_held3 (fun w' => w'.cell? ⟨w.heap.size, 0, none⟩ = some (.int .i64 o) ∧ w'.cell? ⟨w.heap.size, 1, none⟩ = some (.int .i64 d) ∧ w'.cell? ⟨w.heap.size, 2, none⟩ = some (.int .i64 a) ∧ w'.cell? ⟨w.heap.size, 3, none⟩ = some (.int .i64 b) ∧ w'.cell? ⟨w.heap.size, 4, none⟩ = some (.int .i64 n) ∧ InsW w w.heap.size o d a b n w')
    (first | with_reducible assumption | with_reducible exact s5_alloc hS _ | with_reducible exact s5_of (hI.alloc _).drew | with_reducible exact s5_alloc (s5_alloc hS _) _ | with_reducible exact s5_set (s5_alloc hS _) hgt _ _ _ _ _ _)
    ((go_at_call 18; ((with_reducible refine (name_is o _).mono ?_); rintro e w2 ⟨rfl, hb⟩); (first | (have hS := s5_of (hI.drew.keep hb)) | (have hS := s5_of ((hI.alloc _).drew.keep hb); have hK := (BlkAt.new w1 _ _).keep (below_undrew hb); have b0 := fun x => new_kept hK x 0; have b1 := fun x => new_kept hK x 1; have b2 := fun x => new_kept hK x 2; have b3 := fun x => new_kept hK x 3; have b4 := fun x => new_kept hK x 4; have b5 := fun x => new_kept hK x 5; have g0 := fun x => new_free hK x 0; have g1 := fun x => new_free hK x 1; have g2 := fun x => new_free hK x 2; have g3 := fun x => new_free hK x 3; have g4 := fun x => new_free hK x 4; have g5 := fun x => new_free hK x 5; simp at b0 b1 b2 b3 b4 b5))))
  · have hJ := hS.2.2.2.2.2.below
    have HX := Lib.hid (tell_start3 (o := o) (d := d) (a := a) (b := b) (n := n) hJ)
    have HGE := Lib.hid (show w.heap.size ≤ w2.heap.size + 1 from Nat.le_succ_of_le hJ.size)
    have HJ := Lib.hid hJ
    clear hS hJ c0 c1 c2 c3 c4
    go_wp2_with fail
    refine (lineTell_is w _ o d a b n _ HZ.out HX.out HL.out HGE.out).mono ?_
    rintro e w3 ⟨rfl, hT⟩
    obtain ⟨g, cap, c5, hcells, hg, hcap, hbl⟩ := tell_form hT
    have HC := Lib.hid hcells
    have HG := Lib.hid hg
    have HP := Lib.hid hcap
    have HB := Lib.hid hbl
    clear hT hcells hg hcap hbl HX HGE
    obtain ⟨hs1, hs2⟩ := line_short HZ.out
    have hj := join_len (m := 12) _ hs2
    have HS := Lib.hid (show ((lineWs o d a b n).map txt).length ≤ 1000 by rw [List.length_map]; omega)
    have HJL := Lib.hid (show jl.length ≤ 140737488355328 by rw [← HJN.out]; omega)
    have HBK := Lib.hid ((congrArg (fun x => Lib.join x [32]) (join_back (lineWs o d a b n))).trans HJN.out)
    clear hs1 hs2 hj
    generalize (lineWs o d a b n).map txt = xs at *
    go_wp2_with (go_at_call 22; ((with_reducible refine (lineJoin_is g cap xs _ jl HBK.out HC.out HG.out HS.out HP.out HJL.out).mono ?_); rintro e w4 ⟨rfl, hq⟩); have HQ := Lib.hid hq; clear hq)
    go_ret2
    exact ⟨rfl, HB.out.trans (HQ.out.mono HB.out.size)⟩
  · have hJ := hS.2.2.2.2.2.below
    have HX := Lib.hid (tell_start2 (o := o) (d := d) (a := a) (b := b) (n := n) hJ)
    have HGE := Lib.hid hJ.size
    have HJ := Lib.hid hJ
    clear hS hJ c0 c1 c2 c3 c4
    go_wp2_with fail
    refine (lineTell_is w _ o d a b n _ HZ.out HX.out HL.out HGE.out).mono ?_
    rintro e w3 ⟨rfl, hT⟩
    obtain ⟨g, cap, c5, hcells, hg, hcap, hbl⟩ := tell_form hT
    have HC := Lib.hid hcells
    have HG := Lib.hid hg
    have HP := Lib.hid hcap
    have HB := Lib.hid hbl
    clear hT hcells hg hcap hbl HX HGE
    obtain ⟨hs1, hs2⟩ := line_short HZ.out
    have hj := join_len (m := 12) _ hs2
    have HS := Lib.hid (show ((lineWs o d a b n).map txt).length ≤ 1000 by rw [List.length_map]; omega)
    have HJL := Lib.hid (show jl.length ≤ 140737488355328 by rw [← HJN.out]; omega)
    have HBK := Lib.hid ((congrArg (fun x => Lib.join x [32]) (join_back (lineWs o d a b n))).trans HJN.out)
    clear hs1 hs2 hj
    generalize (lineWs o d a b n).map txt = xs at *
    go_wp2_with (go_at_call 22; ((with_reducible refine (lineJoin_is g cap xs _ jl HBK.out HC.out HG.out HS.out HP.out HJL.out).mono ?_); rintro e w4 ⟨rfl, hq⟩); have HQ := Lib.hid hq; clear hq)
    go_ret2
    exact ⟨rfl, HB.out.trans (HQ.out.mono HB.out.size)⟩
  · have hJ := hS.2.2.2.2.2.below
    have HX := Lib.hid (tell_start1 (o := o) (d := d) (a := a) (b := b) (n := n) hJ hK rfl (Nat.le_of_lt hgt))
    have HGE := Lib.hid (Nat.le_of_lt hgt)
    clear hK b0 b1 b2 b3 b4 b5 g0 g1 g2 g3 g4 g5
    have HJ := Lib.hid hJ
    clear hS hJ c0 c1 c2 c3 c4
    go_wp2_with fail
    refine (lineTell_is w _ o d a b n _ HZ.out HX.out HL.out HGE.out).mono ?_
    rintro e w3 ⟨rfl, hT⟩
    obtain ⟨g, cap, c5, hcells, hg, hcap, hbl⟩ := tell_form hT
    have HC := Lib.hid hcells
    have HG := Lib.hid hg
    have HP := Lib.hid hcap
    have HB := Lib.hid hbl
    clear hT hcells hg hcap hbl HX HGE
    obtain ⟨hs1, hs2⟩ := line_short HZ.out
    have hj := join_len (m := 12) _ hs2
    have HS := Lib.hid (show ((lineWs o d a b n).map txt).length ≤ 1000 by rw [List.length_map]; omega)
    have HJL := Lib.hid (show jl.length ≤ 140737488355328 by rw [← HJN.out]; omega)
    have HBK := Lib.hid ((congrArg (fun x => Lib.join x [32]) (join_back (lineWs o d a b n))).trans HJN.out)
    clear hs1 hs2 hj
    generalize (lineWs o d a b n).map txt = xs at *
    go_wp2_with (go_at_call 22; ((with_reducible refine (lineJoin_is g cap xs _ jl HBK.out HC.out HG.out HS.out HP.out HJL.out).mono ?_); rintro e w4 ⟨rfl, hq⟩); have HQ := Lib.hid hq; clear hq)
    go_ret2
    exact ⟨rfl, HB.out.trans (HQ.out.mono HB.out.size)⟩
theorem lineText_is (o d a b n z : Int) (s : ByteArray) (w : World) (hz : cChk o d a b n = z) (hs : lineT o d a b n = s) (hL : LinLaid w) :
    Calls Tryd.prog 7 #[.agg #[.int .i64 o, .int .i64 d, .int .i64 a, .int .i64 b, .int .i64 n]] w fun e w' => e = .returned (.tuple #[.string s, .int .i64 z]) ∧ Below w.heap.size w w' := by
  subst hz hs
  unfold lineT
  by_cases h : cChk o d a b n = 0
  · rw [if_pos h, h]
    exact lineText_good o d a b n w h hL
  · rw [if_neg h]
    exact lineText_bad o d a b n _ w rfl h hL
end Go.Proofs.YtheflkhbmbfajaaDoor
