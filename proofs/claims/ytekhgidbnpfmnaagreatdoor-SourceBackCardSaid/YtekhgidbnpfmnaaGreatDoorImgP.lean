/- Programs as bytes: what an image's bytes are, what bytes' image is, there and back. Nothing of any program. -/
import Derived.Test.YtekhgidbnpfmnaaGreatDoorCrcM
namespace Go.Proofs.YtekhgidbnpfmnaaGreatDoor
open Go.RowKit

/-- A program with its data. -/
structure Img where
  code : List Int
  data : List Int
  sec : List Bool
  inn : List Int
  out : List Int
def img0 : Img := ⟨[], [], [], [], []⟩
/-- All are addresses of n words. -/
def addrs (l : List Int) (n : Nat) : Bool := l.all fun x => decide (0 ≤ x) && decide (x < n)
/-- No two are one. -/
def noTwo (l : List Int) : Bool := decide l.Nodup
def chkI (m : Img) : Int :=
  if m.code.length > 16384 ∨ m.data.length > 2048 ∨ m.inn.length > 255 ∨ m.out.length > 255 then 5
  else if m.sec.length ≠ m.data.length ∨ addrs m.inn m.data.length = false ∨ addrs m.out m.data.length = false then 2
  else if noTwo m.inn = false then 9 else 0

/-! ### numbers as bytes, the highest first -/
def beB : Nat → Int → List Int
  | 0, _ => []
  | n + 1, x => beB n (x / 256) ++ [x % 256]
def beV (l : List Int) : Int := l.foldl (fun a b => 256 * a + b) 0
theorem beV_snoc (l : List Int) (b : Int) : beV (l ++ [b]) = 256 * beV l + b := by unfold beV; rw [List.foldl_append]; rfl
theorem beB_len : ∀ (n : Nat) (x : Int), (beB n x).length = n
  | 0, _ => rfl
  | n + 1, x => by show (beB n (x / 256) ++ [x % 256]).length = _; rw [List.length_append, beB_len n]; rfl
theorem beB_bd : ∀ (n : Nat) (x : Int), Bd8 (beB n x)
  | 0, _ => Bd8.nil
  | n + 1, x => (beB_bd n _).append (Bd8.cons (by omega) (by omega) Bd8.nil)
theorem beV_beB : ∀ (n : Nat) (x : Int), 0 ≤ x → x < 256 ^ n → beV (beB n x) = x
  | 0, x, h0, h1 => by
    have : x = 0 := by simp at h1; omega
    subst this; rfl
  | n + 1, x, h0, h1 => by
    have h2 : x / 256 < 256 ^ n := by
      rw [Int.pow_succ] at h1
      exact Int.ediv_lt_of_lt_mul (by decide) h1
    show beV (beB n (x / 256) ++ [x % 256]) = x
    rw [beV_snoc, beV_beB n (x / 256) (by omega) h2]
    omega
theorem beB_beV : ∀ (n : Nat) (l : List Int), Bd8 l → l.length = n → beB n (beV l) = l
  | 0, l, _, h => by rw [List.eq_nil_of_length_eq_zero h]; rfl
  | n + 1, l, hb, h => by
    rcases List.eq_nil_or_concat l with rfl | ⟨m, b, rfl⟩
    · cases h
    · rw [List.concat_eq_append] at *
      have hbb := hb b (by simp)
      have hm : m.length = n := by simpa using h
      rw [beV_snoc]
      show beB n ((256 * beV m + b) / 256) ++ [(256 * beV m + b) % 256] = _
      rw [show (256 * beV m + b) / 256 = beV m by omega, show (256 * beV m + b) % 256 = b by omega, beB_beV n m (fun x hx => hb x (by simp [hx])) hm]
theorem beV_bd : ∀ (n : Nat) (l : List Int), Bd8 l → l.length = n → 0 ≤ beV l ∧ beV l < 256 ^ n
  | 0, l, _, h => by rw [List.eq_nil_of_length_eq_zero h]; exact ⟨by decide, by decide⟩
  | n + 1, l, hb, h => by
    rcases List.eq_nil_or_concat l with rfl | ⟨m, b, rfl⟩
    · cases h
    · rw [List.concat_eq_append] at *
      have hbb := hb b (by simp)
      obtain ⟨q1, q2⟩ := beV_bd n m (fun x hx => hb x (by simp [hx])) (by simpa using h)
      rw [beV_snoc, Int.pow_succ]
      omega

/-! ### readers -/
/-- A reader: the first fault, or what is read and what is left. -/
abbrev Pz (α : Type) := List Int → Except Int (α × List Int)
def pRet {α : Type} (v : α) : Pz α := fun l => .ok (v, l)
def pBind {α β : Type} (p : Pz α) (f : α → Pz β) : Pz β := fun l => match p l with | .error e => .error e | .ok (v, r) => f v r
def pNum (n : Nat) : Pz Int := fun l => if l.length < n then .error 4 else .ok (beV (l.take n), l.drop n)
def pMust (h : Bool) (e : Int) : Pz Unit := fun l => if h then .ok ((), l) else .error e
def pMany {α : Type} (p : Pz α) : Nat → Pz (List α)
  | 0 => pRet []
  | n + 1 => pBind p fun v => pBind (pMany p n) fun vs => pRet (v :: vs)
theorem pBind_ok {α β : Type} {p : Pz α} {f : α → Pz β} {l r : List Int} {v : α} (h : p l = .ok (v, r)) : pBind p f l = f v r := by unfold pBind; rw [h]
theorem pBind_err {α β : Type} {p : Pz α} {f : α → Pz β} {l : List Int} {e : Int} (h : p l = .error e) : pBind p f l = .error e := by unfold pBind; rw [h]
theorem pBind_inv {α β : Type} {p : Pz α} {f : α → Pz β} {l r : List Int} {w : β} (h : pBind p f l = .ok (w, r)) : ∃ v r1, p l = .ok (v, r1) ∧ f v r1 = .ok (w, r) := by
  unfold pBind at h
  split at h
  · cases h
  · rename_i v r1 e; exact ⟨v, r1, e, h⟩
/-- What is read does not hang on what is left; less is too short. -/
def Fine {α : Type} (p : Pz α) : Prop := ∀ l v r, p l = .ok (v, r) → ∃ u, l = u ++ r ∧ (∀ r', p (u ++ r') = .ok (v, r')) ∧ ∀ q, q <+: u → q ≠ u → p q = .error 4
theorem Fine.ret {α : Type} (v : α) : Fine (pRet v) := fun l w r h => by
  unfold pRet at h
  cases h
  exact ⟨[], rfl, fun _ => rfl, fun q h1 h2 => absurd (List.prefix_nil.1 h1) h2⟩
theorem Fine.num (n : Nat) : Fine (pNum n) := fun l v r h => by
  unfold pNum at h
  split at h
  · cases h
  · rename_i hl
    cases h
    refine ⟨l.take n, (List.take_append_drop n l).symm, fun r' => ?_, fun q h1 h2 => ?_⟩
    · unfold pNum
      have e : (l.take n).length = n := by rw [List.length_take]; omega
      rw [if_neg (by rw [List.length_append]; omega), List.take_append_of_le_length (by omega), List.take_of_length_le (by omega), List.drop_append_of_le_length (by omega), List.drop_of_length_le (by omega)]
      rfl
    · unfold pNum
      have e : (l.take n).length = n := by rw [List.length_take]; omega
      have h3 := h1.length_le
      have h4 : q.length ≠ n := fun h => h2 (h1.eq_of_length (by omega))
      rw [if_pos (by omega)]
theorem Fine.must (h : Bool) (e : Int) : Fine (pMust h e) := fun l v r hh => by
  unfold pMust at hh
  split at hh
  · rename_i q
    cases hh
    exact ⟨[], rfl, fun _ => by unfold pMust; rw [if_pos q]; rfl, fun q h1 h2 => absurd (List.prefix_nil.1 h1) h2⟩
  · cases hh
theorem Fine.bind {α β : Type} {p : Pz α} {f : α → Pz β} (hp : Fine p) (hf : ∀ v, Fine (f v)) : Fine (pBind p f) := fun l w r h => by
  obtain ⟨v, r1, h1, h2⟩ := pBind_inv h
  obtain ⟨u1, rfl, a1, b1⟩ := hp l v r1 h1
  obtain ⟨u2, rfl, a2, b2⟩ := hf v r1 w r h2
  refine ⟨u1 ++ u2, (List.append_assoc ..).symm, fun r' => ?_, fun q h3 h4 => ?_⟩
  · rw [List.append_assoc, pBind_ok (a1 _)]; exact a2 r'
  · by_cases hq : u1 <+: q
    · obtain ⟨q2, rfl⟩ := hq
      rw [pBind_ok (a1 q2)]
      exact b2 q2 ((List.prefix_append_right_inj u1).1 h3) fun e => h4 (by rw [e])
    · have h5 : q <+: u1 := by
        rcases List.prefix_or_prefix_of_prefix h3 (List.prefix_append u1 u2) with h | h
        · exact h
        · exact absurd h hq
      exact pBind_err (b1 q h5 fun e => hq (by rw [e]; exact List.prefix_refl _))
theorem Fine.many {α : Type} {p : Pz α} (hp : Fine p) : ∀ n, Fine (pMany p n)
  | 0 => Fine.ret _
  | n + 1 => hp.bind fun _ => (Fine.many hp n).bind fun _ => Fine.ret _
/-! ### there and back -/
/-- A reader reads just what was put. -/
structure Cod {α : Type} (p : Pz α) (enc : α → List Int) (dom : α → Prop) : Prop where
  to : ∀ v, dom v → ∀ r, p (enc v ++ r) = .ok (v, r)
  back : ∀ l v r, Bd8 l → p l = .ok (v, r) → l = enc v ++ r ∧ dom v
theorem Cod.num (n : Nat) : Cod (pNum n) (beB n) fun x => 0 ≤ x ∧ x < 256 ^ n := by
  refine ⟨fun v hv r => ?_, fun l v r hb h => ?_⟩
  · unfold pNum
    have e := beB_len n v
    rw [if_neg (by rw [List.length_append]; omega), List.take_append_of_le_length (by omega), List.take_of_length_le (by omega), List.drop_append_of_le_length (by omega), List.drop_of_length_le (by omega), beV_beB n v hv.1 hv.2]
    rfl
  · unfold pNum at h
    split at h
    · cases h
    · rename_i hl
      cases h
      have e : (l.take n).length = n := by rw [List.length_take]; omega
      rw [beB_beV n _ (hb.take n) e, List.take_append_drop]
      exact ⟨rfl, beV_bd n _ (hb.take n) e⟩
theorem Bd8.right {l m : List Int} (h : Bd8 (l ++ m)) : Bd8 m := fun x hx => h x (List.mem_append_right _ hx)
theorem many_to {α : Type} {p : Pz α} {enc : α → List Int} {dom : α → Prop} (hp : Cod p enc dom) : ∀ (vs : List α), (∀ v ∈ vs, dom v) → ∀ r, pMany p vs.length (vs.flatMap enc ++ r) = .ok (vs, r)
  | [], _, _ => rfl
  | v :: vs, h, r => by
    show pBind p _ ((enc v ++ vs.flatMap enc) ++ r) = _
    rw [List.append_assoc, pBind_ok (hp.to v (h v (by simp)) _), pBind_ok (many_to hp vs (fun x hx => h x (by simp [hx])) r)]
    rfl
theorem many_back {α : Type} {p : Pz α} {enc : α → List Int} {dom : α → Prop} (hp : Cod p enc dom) : ∀ (n : Nat) (l : List Int) (vs : List α) (r : List Int), Bd8 l → pMany p n l = .ok (vs, r) → l = vs.flatMap enc ++ r ∧ vs.length = n ∧ ∀ v ∈ vs, dom v
  | 0, l, vs, r, _, h => by
    unfold pMany pRet at h
    cases h
    exact ⟨rfl, rfl, fun _ h => by cases h⟩
  | n + 1, l, vs, r, hb, h => by
    obtain ⟨v, r1, h1, h2⟩ := pBind_inv h
    obtain ⟨ws, r2, h3, h4⟩ := pBind_inv h2
    obtain ⟨rfl, d1⟩ := hp.back l v r1 hb h1
    obtain ⟨rfl, e2, d2⟩ := many_back hp n r1 ws r2 hb.right h3
    unfold pRet at h4
    cases h4
    refine ⟨by show _ = (enc v ++ ws.flatMap enc) ++ r; rw [List.append_assoc], by rw [List.length_cons, e2], fun x hx => ?_⟩
    rcases List.mem_cons.1 hx with rfl | hx
    · exact d1
    · exact d2 x hx
/-- A word of data, and whether it is secret. -/
def pDatum : Pz (Int × Bool) := pBind (pNum 4) fun x => pBind (pNum 1) fun s => pBind (pMust (decide (s < 2)) 3) fun _ => pRet (wrap32 x, decide (s = 1))
def encD (q : Int × Bool) : List Int := beB 4 (q.1 % 4294967296) ++ [if q.2 then 1 else 0]
def domD (q : Int × Bool) : Prop := -2147483648 ≤ q.1 ∧ q.1 < 2147483648
theorem Cod.datum : Cod pDatum encD domD := by
  refine ⟨fun v hv r => ?_, fun l v r hb h => ?_⟩
  · obtain ⟨x, s⟩ := v
    obtain ⟨h1, h2⟩ := hv
    simp only at h1 h2
    unfold pDatum encD
    rw [List.append_assoc, pBind_ok ((Cod.num 4).to _ ⟨by show 0 ≤ x % 4294967296; omega, by show x % 4294967296 < 4294967296; omega⟩ _)]
    have e1 : pNum 1 ([if s then 1 else 0] ++ r) = .ok ((if s then 1 else 0), r) := by
      have q := (Cod.num 1).to (if s then 1 else 0) (by cases s <;> exact ⟨by decide, by decide⟩) r
      have e : beB 1 (if s then 1 else 0) = [if s then 1 else 0] := by cases s <;> rfl
      rw [e] at q
      exact q
    rw [pBind_ok e1]
    have e2 : wrap32 (x % 4294967296) = x := by unfold wrap32; omega
    show pBind (pMust _ _) _ r = _
    rw [e2]
    cases s <;> rfl
  · unfold pDatum at h
    obtain ⟨x, r1, h1, h2⟩ := pBind_inv h
    obtain ⟨s, r2, h3, h4⟩ := pBind_inv h2
    obtain ⟨u, r3, h5, h6⟩ := pBind_inv h4
    obtain ⟨rfl, d1⟩ := (Cod.num 4).back l x r1 hb h1
    obtain ⟨rfl, d2⟩ := (Cod.num 1).back r1 s r2 hb.right h3
    unfold pMust at h5
    split at h5
    · rename_i hs
      cases h5
      unfold pRet at h6
      cases h6
      have hs : s < 2 := by simpa using hs
      have d1 : 0 ≤ x ∧ x < 4294967296 := d1
      refine ⟨?_, ?_⟩
      · unfold encD
        have e1 : wrap32 x % 4294967296 = x := by unfold wrap32; omega
        simp only [e1]
        rw [List.append_assoc]
        rcases (show s = 0 ∨ s = 1 by omega) with rfl | rfl <;> rfl
      · show -2147483648 ≤ wrap32 x ∧ wrap32 x < 2147483648
        unfold wrap32; omega
    · cases h5
/-- An image's bytes, unsealed; what is read of such. -/
def rawI (m : Img) : List Int := [65, 83, 84, 49] ++ (beB 2 m.code.length ++ (m.code.flatMap (beB 4) ++ (beB 2 m.data.length ++ ((m.data.zip m.sec).flatMap encD ++ (beB 1 m.inn.length ++ (m.inn.flatMap (beB 2) ++ (beB 1 m.out.length ++ m.out.flatMap (beB 2))))))))
def pBody : Pz Img := pBind (pNum 4) fun x => pBind (pMust (decide (x = 1095980081)) 3) fun _ => pBind (pNum 2) fun n => pBind (pMany (pNum 4) n.toNat) fun code => pBind (pNum 2) fun d => pBind (pMany pDatum d.toNat) fun ds =>
  pBind (pNum 1) fun i => pBind (pMany (pNum 2) i.toNat) fun inn => pBind (pNum 1) fun o => pBind (pMany (pNum 2) o.toNat) fun out => pRet ⟨code, ds.map (·.1), ds.map (·.2), inn, out⟩
theorem fine_body : Fine pBody :=
  (Fine.num 4).bind fun _ => (Fine.must _ _).bind fun _ => (Fine.num 2).bind fun _ => ((Fine.num 4).many _).bind fun _ => (Fine.num 2).bind fun _ => (Fine.many ((Fine.num 4).bind fun _ => (Fine.num 1).bind fun _ => (Fine.must _ _).bind fun _ => Fine.ret _) _).bind fun _ =>
    (Fine.num 1).bind fun _ => ((Fine.num 2).many _).bind fun _ => (Fine.num 1).bind fun _ => ((Fine.num 2).many _).bind fun _ => Fine.ret _
/-- An image whose parts have as many bits as are put. -/
structure Fits (m : Img) : Prop where
  nc : m.code.length < 65536
  code : ∀ x ∈ m.code, 0 ≤ x ∧ x < 4294967296
  nd : m.data.length < 65536
  data : ∀ x ∈ m.data, -2147483648 ≤ x ∧ x < 2147483648
  sec : m.sec.length = m.data.length
  ni : m.inn.length < 256
  inn : ∀ x ∈ m.inn, 0 ≤ x ∧ x < 65536
  no : m.out.length < 256
  out : ∀ x ∈ m.out, 0 ≤ x ∧ x < 65536
theorem zip_maps {α β : Type} : ∀ (l : List α) (k : List β), k.length = l.length → (l.zip k).map (·.1) = l ∧ (l.zip k).map (·.2) = k
  | [], [], _ => ⟨rfl, rfl⟩
  | [], _ :: _, h => by cases h
  | _ :: _, [], h => by cases h
  | a :: l, b :: k, h => by
    obtain ⟨e1, e2⟩ := zip_maps l k (by simpa using h)
    exact ⟨congrArg (a :: ·) e1, congrArg (b :: ·) e2⟩
theorem maps_zip {α β : Type} : ∀ (l : List (α × β)), (l.map (·.1)).zip (l.map (·.2)) = l
  | [] => rfl
  | (a, b) :: l => congrArg ((a, b) :: ·) (maps_zip l)
theorem body_to {m : Img} (h : Fits m) (r : List Int) : pBody (rawI m ++ r) = .ok (m, r) := by
  obtain ⟨m1, m2, m3, m4, m5⟩ := m
  have hz := zip_maps m2 m3 h.sec
  have hn : (m2.zip m3).length = m2.length := by rw [List.length_zip, h.sec, Nat.min_self]
  have n2 := (Cod.num 2).to
  have n1 := (Cod.num 1).to
  have v1 : (0 : Int) ≤ (m1.length : Int) ∧ (m1.length : Int) < 256 ^ 2 := ⟨by omega, by have := h.nc; show (m1.length : Int) < 65536; simp only at this; omega⟩
  have v2 : (0 : Int) ≤ (m2.length : Int) ∧ (m2.length : Int) < 256 ^ 2 := ⟨by omega, by have := h.nd; show (m2.length : Int) < 65536; simp only at this; omega⟩
  have v3 : (0 : Int) ≤ (m4.length : Int) ∧ (m4.length : Int) < 256 ^ 1 := ⟨by omega, by have := h.ni; show (m4.length : Int) < 256; simp only at this; omega⟩
  have v4 : (0 : Int) ≤ (m5.length : Int) ∧ (m5.length : Int) < 256 ^ 1 := ⟨by omega, by have := h.no; show (m5.length : Int) < 256; simp only at this; omega⟩
  have hd : ∀ v ∈ m2.zip m3, domD v := fun v hv => h.data v.1 (by rw [← hz.1]; exact List.mem_map.2 ⟨v, hv, rfl⟩)
  unfold pBody rawI
  simp only [List.append_assoc]
  have e0 : ∀ l, pNum 4 ([65, 83, 84, 49] ++ l) = .ok (1095980081, l) := fun l => (Cod.num 4).to 1095980081 ⟨by decide, by decide⟩ l
  have em : ∀ l, pMust (decide ((1095980081 : Int) = 1095980081)) 3 l = .ok ((), l) := fun l => by simp [pMust]
  rw [pBind_ok (e0 _), pBind_ok (em _), pBind_ok (n2 _ v1 _), Int.toNat_natCast, pBind_ok (many_to (Cod.num 4) m1 h.code _), pBind_ok (n2 _ v2 _), Int.toNat_natCast]
  rw [show pMany pDatum m2.length = pMany pDatum (m2.zip m3).length by rw [hn], pBind_ok (many_to Cod.datum (m2.zip m3) hd _), pBind_ok (n1 _ v3 _), Int.toNat_natCast, pBind_ok (many_to (Cod.num 2) m4 h.inn _), pBind_ok (n1 _ v4 _), Int.toNat_natCast, pBind_ok (many_to (Cod.num 2) m5 h.out _)]
  rw [hz.1, hz.2]
  rfl
theorem body_back {l r : List Int} {m : Img} (hb : Bd8 l) (h : pBody l = .ok (m, r)) : l = rawI m ++ r ∧ Fits m := by
  unfold pBody at h
  obtain ⟨x, r1, h1, k1⟩ := pBind_inv h
  obtain ⟨u, r2, h2, k2⟩ := pBind_inv k1
  obtain ⟨n, r3, h3, k3⟩ := pBind_inv k2
  obtain ⟨cs, r4, h4, k4⟩ := pBind_inv k3
  obtain ⟨d, r5, h5, k5⟩ := pBind_inv k4
  obtain ⟨ds, r6, h6, k6⟩ := pBind_inv k5
  obtain ⟨i, r7, h7, k7⟩ := pBind_inv k6
  obtain ⟨is, r8, h8, k8⟩ := pBind_inv k7
  obtain ⟨o, r9, h9, k9⟩ := pBind_inv k8
  obtain ⟨os, ra, h10, kz⟩ := pBind_inv k9
  obtain ⟨rfl, d1⟩ := (Cod.num 4).back _ _ _ hb h1
  unfold pMust at h2
  split at h2
  · rename_i hx
    rw [Except.ok.injEq, Prod.mk.injEq] at h2
    obtain ⟨-, rfl⟩ := h2
    have hx : x = 1095980081 := by simpa using hx
    subst hx
    obtain ⟨rfl, d3⟩ := (Cod.num 2).back _ _ _ hb.right h3
    obtain ⟨rfl, e4, d4⟩ := many_back (Cod.num 4) _ _ _ _ hb.right.right h4
    obtain ⟨rfl, d5⟩ := (Cod.num 2).back _ _ _ hb.right.right.right h5
    obtain ⟨rfl, e6, d6⟩ := many_back Cod.datum _ _ _ _ hb.right.right.right.right h6
    obtain ⟨rfl, d7⟩ := (Cod.num 1).back _ _ _ hb.right.right.right.right.right h7
    obtain ⟨rfl, e8, d8⟩ := many_back (Cod.num 2) _ _ _ _ hb.right.right.right.right.right.right h8
    obtain ⟨rfl, d9⟩ := (Cod.num 1).back _ _ _ hb.right.right.right.right.right.right.right h9
    obtain ⟨rfl, e10, d10⟩ := many_back (Cod.num 2) _ _ _ _ hb.right.right.right.right.right.right.right.right h10
    unfold pRet at kz
    rw [Except.ok.injEq, Prod.mk.injEq] at kz
    obtain ⟨rfl, rfl⟩ := kz
    clear h k1 k2 k3 k4 k5 k6 k7 k8 k9
    have d3 : 0 ≤ n ∧ n < 65536 := d3
    have d5 : 0 ≤ d ∧ d < 65536 := d5
    have d7 : 0 ≤ i ∧ i < 256 := d7
    have d9 : 0 ≤ o ∧ o < 256 := d9
    have q3 : (cs.length : Int) = n := by omega
    have q5 : (ds.length : Int) = d := by omega
    have q7 : (is.length : Int) = i := by omega
    have q9 : (os.length : Int) = o := by omega
    refine ⟨?_, ⟨by show cs.length < _; omega, d4, by show (ds.map _).length < _; rw [List.length_map]; omega, fun y hy => ?_, by show (ds.map _).length = (ds.map _).length; rw [List.length_map, List.length_map], by show is.length < _; omega, d8, by show os.length < _; omega, d10⟩⟩
    · unfold rawI
      simp only [List.append_assoc, List.length_map, maps_zip, q3, q5, q7, q9]
      rfl
    · obtain ⟨z, hz, rfl⟩ := List.mem_map.1 hy
      exact d6 z hz
  · cases h2
/-- The faults of a reader. -/
def Flt {α : Type} (p : Pz α) : Prop := ∀ l e, p l = .error e → e = 3 ∨ e = 4
theorem Flt.ret {α : Type} (v : α) : Flt (pRet v) := fun l e h => by unfold pRet at h; cases h
theorem Flt.num (n : Nat) : Flt (pNum n) := fun l e h => by
  unfold pNum at h
  split at h
  · cases h; exact .inr rfl
  · cases h
theorem Flt.must (b : Bool) : Flt (pMust b 3) := fun l e h => by
  unfold pMust at h
  split at h
  · cases h
  · cases h; exact .inl rfl
theorem Flt.bind {α β : Type} {p : Pz α} {f : α → Pz β} (hp : Flt p) (hf : ∀ v, Flt (f v)) : Flt (pBind p f) := fun l e h => by
  unfold pBind at h
  split at h
  · rename_i e1 he
    obtain rfl : e1 = e := by simpa using h
    exact hp l e1 he
  · exact hf _ _ e h
theorem Flt.many {α : Type} {p : Pz α} (hp : Flt p) : ∀ n, Flt (pMany p n)
  | 0 => Flt.ret _
  | n + 1 => hp.bind fun _ => (Flt.many hp n).bind fun _ => Flt.ret _
theorem flt_body : Flt pBody :=
  (Flt.num 4).bind fun _ => (Flt.must _).bind fun _ => (Flt.num 2).bind fun _ => ((Flt.num 4).many _).bind fun _ => (Flt.num 2).bind fun _ => (Flt.many ((Flt.num 4).bind fun _ => (Flt.num 1).bind fun _ => (Flt.must _).bind fun _ => Flt.ret _) _).bind fun _ =>
    (Flt.num 1).bind fun _ => ((Flt.num 2).many _).bind fun _ => (Flt.num 1).bind fun _ => ((Flt.num 2).many _).bind fun _ => Flt.ret _

/-! ### what Put and Get answer -/
def putI (m : Img) : List Int := if chkI m = 0 then sealOf (rawI m) else []
/-- What is read, and the error. -/
def readI (l : List Int) : Int × Img := match pBody l with
  | .error e => (e, img0)
  | .ok (m, r) => if r ≠ [] then (5, img0) else if chkI m ≠ 0 then (chkI m, img0) else (0, m)
def getI (b : List Int) : Int × Img := if (openOf b).2 ≠ 0 then ((openOf b).2, img0) else readI (openOf b).1
/-- The words are words. -/
def WordsI (m : Img) : Prop := (∀ x ∈ m.code, 0 ≤ x ∧ x < 4294967296) ∧ ∀ x ∈ m.data, -2147483648 ≤ x ∧ x < 2147483648
theorem addrs_iff {l : List Int} {n : Nat} : addrs l n = true ↔ ∀ x ∈ l, 0 ≤ x ∧ x < n := by
  unfold addrs
  rw [List.all_eq_true]
  constructor
  · intro h x hx
    have := h x hx
    simpa using this
  · intro h x hx
    simpa using h x hx
theorem chk_ok {m : Img} (h : chkI m = 0) : m.code.length ≤ 16384 ∧ m.data.length ≤ 2048 ∧ m.inn.length ≤ 255 ∧ m.out.length ≤ 255 ∧ m.sec.length = m.data.length ∧ addrs m.inn m.data.length = true ∧ addrs m.out m.data.length = true ∧ noTwo m.inn = true := by
  unfold chkI at h
  split at h
  · cases h
  · rename_i h1
    split at h
    · cases h
    · rename_i h2
      split at h
      · cases h
      · rename_i h3
        have a1 : addrs m.inn m.data.length = true := by
          cases e : addrs m.inn m.data.length
          · exact absurd (.inr (.inl e)) h2
          · rfl
        have a2 : addrs m.out m.data.length = true := by
          cases e : addrs m.out m.data.length
          · exact absurd (.inr (.inr e)) h2
          · rfl
        exact ⟨by omega, by omega, by omega, by omega, by omega, a1, a2, by simpa using h3⟩
theorem fits_ok {m : Img} (h : chkI m = 0) (hw : WordsI m) : Fits m := by
  obtain ⟨h1, h2, h3, h4, h5, h6, h7, _⟩ := chk_ok h
  exact ⟨by omega, hw.1, by omega, hw.2, h5, by omega, fun x hx => by have := addrs_iff.1 h6 x hx; omega, by omega, fun x hx => by have := addrs_iff.1 h7 x hx; omega⟩
theorem read_put {m : Img} (h : chkI m = 0) (hw : WordsI m) : readI (rawI m) = (0, m) := by
  have e := body_to (fits_ok h hw) []
  rw [List.append_nil] at e
  unfold readI
  rw [e]
  show (if ([] : List Int) ≠ [] then _ else _) = _
  rw [if_neg (fun q => q rfl), if_neg (fun q => q h)]
/-- What may be is got as it was put. -/
theorem get_put {m : Img} (h : chkI m = 0) (hw : WordsI m) : getI (putI m) = (0, m) := by
  unfold getI putI
  rw [if_pos h, openOf_seal, if_neg (fun q => q rfl)]
  exact read_put h hw
/-- What is got is put to just those bytes. -/
theorem put_get {b : List Int} {m : Img} (hb : Bd8 b) (h : getI b = (0, m)) : chkI m = 0 ∧ putI m = b := by
  unfold getI at h
  by_cases he : (openOf b).2 ≠ 0
  · rw [if_pos he] at h
    have := congrArg Prod.fst h
    exact absurd this he
  · rw [if_neg he] at h
    have hl : ¬ b.length < 2 := fun q => by unfold openOf at he; rw [if_pos q] at he; exact he (by decide)
    have hs : okSum b := by
      unfold openOf at he
      rw [if_neg hl] at he
      by_cases q : okSum b
      · exact q
      · rw [if_neg q] at he
        exact absurd (by decide) he
    have ho : openOf b = (b.take (b.length - 2), 0) := by unfold openOf; rw [if_neg hl, if_pos hs]
    rw [ho] at h
    have hb2 := (okSum_seal (by omega)).1 hs
    unfold readI at h
    simp only at h
    cases hp : pBody (b.take (b.length - 2)) with
    | error e =>
      rw [hp] at h
      simp only [Prod.mk.injEq] at h
      obtain ⟨rfl, -⟩ := h
      exact absurd (flt_body _ _ hp) (by decide)
    | ok q =>
      obtain ⟨m', r⟩ := q
      rw [hp] at h
      simp only at h
      split at h
      · exact absurd (show (5 : Int) = 0 from congrArg Prod.fst h) (by decide)
      · rename_i hr
        have hr : r = [] := by simpa using hr
        subst hr
        split at h
        · rename_i hc
          exact absurd (congrArg Prod.fst h) hc
        · rename_i hc
          have hc : chkI m' = 0 := by simpa using hc
          rw [Prod.mk.injEq] at h
          obtain ⟨-, rfl⟩ := h
          refine ⟨hc, ?_⟩
          obtain ⟨e, _⟩ := body_back (hb.take _) hp
          rw [List.append_nil] at e
          unfold putI
          rw [if_pos hc, ← e, hb2]
/-- Where nothing is got, it is the image of nothing. -/
theorem get_none {b : List Int} (h : (getI b).1 ≠ 0) : (getI b).2 = img0 := by
  unfold getI at *
  split
  · rfl
  · rename_i q
    rw [if_neg q] at h
    unfold readI at *
    split
    · rfl
    · rename_i m r e
      rw [e] at h
      simp only at h
      split
      · rfl
      · rename_i q1
        rw [if_neg q1] at h
        split
        · rfl
        · rename_i q2
          rw [if_neg q2] at h
          exact absurd rfl h
theorem body_used {m : Img} (h : chkI m = 0) (hw : WordsI m) : (∀ r, pBody (rawI m ++ r) = .ok (m, r)) ∧ ∀ q, q <+: rawI m → q ≠ rawI m → pBody q = .error 4 := by
  have e := body_to (fits_ok h hw) []
  obtain ⟨u, h1, h2, h3⟩ := fine_body _ _ _ e
  rw [List.append_nil, List.append_nil] at h1
  subst h1
  exact ⟨h2, h3⟩
/-- Of fewer bytes, sealed anew, nothing is got. -/
theorem get_short {m : Img} (h : chkI m = 0) (hw : WordsI m) {n : Nat} (hn : n < (rawI m).length) : getI (sealOf ((rawI m).take n)) = (4, img0) := by
  unfold getI
  rw [openOf_seal, if_neg (fun q => q rfl)]
  have e := (body_used h hw).2 ((rawI m).take n) (List.take_prefix _ _) fun q => by
    have := congrArg List.length q
    rw [List.length_take] at this
    omega
  unfold readI
  rw [e]
/-- Of more neither. -/
theorem get_long {m : Img} (h : chkI m = 0) (hw : WordsI m) {l : List Int} (hl : l ≠ []) : getI (sealOf (rawI m ++ l)) = (5, img0) := by
  unfold getI
  rw [openOf_seal, if_neg (fun q => q rfl)]
  unfold readI
  rw [(body_used h hw).1 l]
  show (if l ≠ [] then _ else _) = _
  rw [if_pos hl]
end Go.Proofs.YtekhgidbnpfmnaaGreatDoor
