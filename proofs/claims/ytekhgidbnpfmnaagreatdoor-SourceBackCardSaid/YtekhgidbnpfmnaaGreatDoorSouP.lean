/- Programs as texts: what is parsed of a text, told of an image, listed of its code; there and back; line by line. Nothing of any program. -/
import Derived.Test.YtekhgidbnpfmnaaGreatDoorImgP
import Derived.Test.YtekhgidbnpfmnaaGreatDoorLinN
import Derived.Test.YtekhgidbnpfmnaaGreatDoorLabP
import Derived.Lib.ParseIntBCases
import Derived.Lib.ParseIntBTie
import Derived.Test.YtekhgidbnpfmnaaGreatDoorNum
namespace Go.Proofs.YtekhgidbnpfmnaaGreatDoor
open Go.RowKit

section
open Go.RowKit Go.Lib

abbrev Tx := List UInt8
/-! ### lines -/
def linC : Tx → Tx → List Tx
  | cur, [] => if cur = [] then [] else [cur]
  | cur, b :: r => if b = 10 then cur :: linC [] r else linC (cur ++ [b]) r
/-- A text's lines. -/
def lns (l : Tx) : List Tx := linC [] l
theorem linC_run : ∀ (t cur r : Tx), (∀ x ∈ t, x ≠ 10) → linC cur (t ++ r) = linC (cur ++ t) r
  | [], cur, r, _ => by rw [List.append_nil]; rfl
  | b :: t, cur, r, h => by
    have hb : b ≠ 10 := h b (by simp)
    show linC cur (b :: (t ++ r)) = _
    rw [linC, if_neg hb, linC_run t (cur ++ [b]) r (fun x hx => h x (by simp [hx])), List.append_assoc]
    rfl
theorem lns_line {t r : Tx} (h : ∀ x ∈ t, x ≠ 10) : lns (t ++ 10 :: r) = t :: lns r := by
  unfold lns
  rw [linC_run t [] _ h, linC, if_pos rfl, List.nil_append]
theorem lns_all : ∀ (ls : List Tx), (∀ l ∈ ls, ∀ x ∈ l, x ≠ 10) → lns (ls.flatMap fun l => l ++ [10]) = ls
  | [], _ => rfl
  | l :: ls, h => by
    rw [List.flatMap_cons, List.append_assoc]
    rw [show [10] ++ ls.flatMap (fun l => l ++ [10]) = 10 :: ls.flatMap (fun l => l ++ [10]) from rfl, lns_line (h l (by simp)), lns_all ls (fun k hk => h k (by simp [hk]))]
/-! ### values -/
/-- A decimal of one to ten digits, of a number of 32 bits. -/
def valO (l : Tx) : Option Int :=
  if l.length - frm l ≠ 10 then (if numOk l = true then some (numV l) else none)
  else if numOk l.dropLast = true ∧ numOk (l.drop (l.length - 1)) = true ∧ numV l.dropLast ≠ 0 then
    (if -2147483648 ≤ (if frm l = 1 then 10 * numV l.dropLast - numV (l.drop (l.length - 1)) else 10 * numV l.dropLast + numV (l.drop (l.length - 1))) ∧ (if frm l = 1 then 10 * numV l.dropLast - numV (l.drop (l.length - 1)) else 10 * numV l.dropLast + numV (l.drop (l.length - 1))) ≤ 2147483647 then
      some (if frm l = 1 then 10 * numV l.dropLast - numV (l.drop (l.length - 1)) else 10 * numV l.dropLast + numV (l.drop (l.length - 1))) else none)
  else none
theorem dec_len : ∀ (k : Nat) (n : Int), 10 ^ k ≤ n → n < 10 ^ (k + 1) → n ≤ 9223372036854775807 → (decL n).length = k + 1
  | 0, n, h0, h1, _ => by
    have h0 : (1 : Int) ≤ n := h0
    have h1 : n < 10 := h1
    rw [decL_one (by omega) h1]
    rfl
  | k + 1, n, h0, h1, h2 => by
    have hp : (1 : Int) ≤ 10 ^ k := Int.pow_pos (by decide)
    rw [Int.pow_succ] at h0 h1
    have h3 : n < 10 ^ (k + 1) * 10 := h1
    rw [decL_more (by omega) h2, List.length_append, dec_len k (n / 10) (by omega) (by omega) (by omega), decL_one (by omega) (by omega)]
    rfl
theorem drop_one {a b : Tx} (h : b.length = 1) : (a ++ b).dropLast = a ∧ (a ++ b).drop ((a ++ b).length - 1) = b := by
  obtain ⟨x, rfl⟩ := List.length_eq_one_iff.1 h
  refine ⟨by simp, ?_⟩
  rw [List.length_append, List.length_singleton, Nat.add_sub_cancel, List.drop_left]
theorem frm_dec {n : Int} : frm (decL n) = if n < 0 then 1 else 0 := by
  unfold frm
  by_cases hn : n < 0
  · rw [if_pos hn, if_pos (by rw [decL_neg hn]; rfl)]
  · rw [if_neg hn, if_neg]
    intro h
    unfold decL at h
    rw [if_neg hn] at h
    have hm : (45 : UInt8) ∈ dgs 20 n.toNat := by
      cases hd : dgs 20 n.toNat with
      | nil => rw [hd] at h; cases h
      | cons x r => rw [hd] at h; cases h; exact List.mem_cons_self
    have := dgs_digit 20 n.toNat 45 hm
    have e : (45 : UInt8).toNat = 45 := rfl
    omega
theorem val_dec {n : Int} (h0 : -2147483648 ≤ n) (h1 : n ≤ 2147483647) : valO (decL n) = some n := by
  by_cases hs : -999999999 ≤ n ∧ n ≤ 999999999
  · obtain ⟨q1, q2⟩ := hs
    obtain ⟨k1, k2⟩ := num_dec q1 q2
    have k3 := dec_parts q1 q2
    unfold valO
    rw [if_pos (by omega), if_pos k1, k2]
  · by_cases hn : n < 0
    · have hl := dec_len 9 (-n) (by show (1000000000 : Int) ≤ -n; omega) (by show -n < (10000000000 : Int); omega) (by omega)
      have hq : decL n = decL (-(-n / 10)) ++ decL (-n % 10) := by
        rw [decL_neg hn, decL_more (n := -n) (by omega) (by omega), decL_neg (n := -(-n / 10)) (by omega), Int.neg_neg]
        rfl
      have ho : (decL (-n % 10)).length = 1 := by rw [decL_one (by omega) (by omega)]; rfl
      obtain ⟨e1, e2⟩ := drop_one (a := decL (-(-n / 10))) ho
      rw [← hq] at e1 e2
      have hf := frm_dec (n := n)
      rw [if_pos hn] at hf
      obtain ⟨k1, k2⟩ := num_dec (n := -(-n / 10)) (by omega) (by omega)
      obtain ⟨k3, k4⟩ := num_dec (n := -n % 10) (by omega) (by omega)
      have hlen : (decL n).length = 11 := by rw [decL_neg hn, List.length_cons, hl]
      unfold valO
      rw [hf, e1, e2, k2, k4]
      rw [if_neg (by omega), if_pos ⟨k1, k3, by omega⟩, if_pos rfl, if_pos (by omega)]
      congr 1
      omega
    · have hl := dec_len 9 n (by show (1000000000 : Int) ≤ n; omega) (by show n < (10000000000 : Int); omega) (by omega)
      have hq := decL_more (n := n) (by omega) (by omega)
      have ho : (decL (n % 10)).length = 1 := by rw [decL_one (by omega) (by omega)]; rfl
      obtain ⟨e1, e2⟩ := drop_one (a := decL (n / 10)) ho
      rw [← hq] at e1 e2
      have hf := frm_dec (n := n)
      rw [if_neg hn] at hf
      obtain ⟨k1, k2⟩ := num_dec (n := n / 10) (by omega) (by omega)
      obtain ⟨k3, k4⟩ := num_dec (n := n % 10) (by omega) (by omega)
      unfold valO
      rw [hf, e1, e2, k2, k4]
      rw [if_neg (by omega), if_pos ⟨k1, k3, by omega⟩]
      simp only [if_neg (show ¬ ((0 : Nat) = 1) by decide)]
      rw [if_pos (by omega)]
      congr 1
      omega
/-! ### what is parsed -/
abbrev Q5 := Int × Int × Int × Int × Int
def wWord : Tx := [119, 111, 114, 100]
def wSecret : Tx := [115, 101, 99, 114, 101, 116]
def wIn : Tx := [105, 110]
def wOut : Tx := [111, 117, 116]
/-- beq, bne, blt, jump, jal. -/
def goesW (w : Tx) : Bool := decide (w = [98, 101, 113] ∨ w = [98, 110, 101] ∨ w = [98, 108, 116] ∨ w = [106, 117, 109, 112] ∨ w = [106, 97, 108])
/-- What has been read. -/
structure Sst where
  data : List Int
  sec : List Bool
  inn : List Int
  out : List Int
  ins : List Q5
  ds : Df
  us : List (ByteArray × Nat × Nat)
def sst0 : Sst := ⟨[], [], [], [], [], [], []⟩
def lastW (ws : List Tx) : Tx := ws.getLast?.getD []
def namedW (ws : List Tx) : Bool := goesW (wAt ws 0) && (decide (1 < ws.length) && decide ((lastW ws).head? = some 64))
/-- An instruction's words, a name's place 0. -/
def insW' (ws : List Tx) : List Tx := if namedW ws = true then ws.dropLast ++ [[48]] else ws
def ins5 (ws : List Tx) : Q5 := (pO (insW' ws), pF (insW' ws) 0, pF (insW' ws) 1, pF (insW' ws) 2, pF (insW' ws) 3)
/-- A line of words: the error, or what has been read then. -/
def lineS (s : Sst) (ws : List Tx) (n : Nat) : Except Int Sst :=
  if wAt ws 0 = wWord ∨ wAt ws 0 = wSecret then
    (if ws.length ≠ 2 then .error 3 else match valO (wAt ws 1) with | none => .error 3 | some x => .ok { s with data := s.data ++ [x], sec := s.sec ++ [decide (wAt ws 0 = wSecret)] })
  else if wAt ws 0 = wIn ∨ wAt ws 0 = wOut then
    (if ws.length ≠ 2 then .error 3 else if numOk (wAt ws 1) = true then .ok (if wAt ws 0 = wIn then { s with inn := s.inn ++ [numV (wAt ws 1)] } else { s with out := s.out ++ [numV (wAt ws 1)] }) else .error 3)
  else if ws.length = 1 ∧ (wAt ws 0).getLast? = some 58 then
    (if defE s.ds (txt (wAt ws 0).dropLast) = 8 then .error 3 else if defE s.ds (txt (wAt ws 0).dropLast) ≠ 0 then .error (defE s.ds (txt (wAt ws 0).dropLast)) else .ok { s with ds := defS s.ds (txt (wAt ws 0).dropLast) s.ins.length })
  else if pErr (insW' ws) ≠ 0 then .error (pErr (insW' ws))
  else if namedW ws = true then
    (if nameB (txt ((lastW ws).drop 1)) = true then .ok { s with ins := s.ins ++ [ins5 ws], us := s.us ++ [(txt ((lastW ws).drop 1), n, s.ins.length)] } else .error 3)
  else .ok { s with ins := s.ins ++ [ins5 ws] }
/-- Lines without words, and notes, are left out. -/
def skipW (ws : List Tx) : Bool := decide (ws = []) || decide ((wAt ws 0).head? = some 35)
def linesS : Sst → Nat → List Tx → Except (Int × Nat) Sst
  | s, _, [] => .ok s
  | s, n, l :: r => if skipW (wds l) = true then linesS s (n + 1) r else match lineS s (wds l) n with
    | .error e => .error (e, n)
    | .ok s' => linesS s' (n + 1) r
def fixS (ds : Df) : List (ByteArray × Nat × Nat) → List Q5 → Except Nat (List Q5)
  | [], L => .ok L
  | u :: r, L => if plB ds u.1 = true then fixS ds r (L.modify u.2.2 fun x => (x.1, x.2.1, x.2.2.1, x.2.2.2.1, plV ds u.1)) else .error u.2.1
def encQ (x : Q5) : Int := cEnc x.1 x.2.1 x.2.2.1 x.2.2.2.1 x.2.2.2.2
/-- The error, the line's number or how many there are, the image. -/
def parS (t : Tx) : Int × Nat × Img := match linesS sst0 0 (lns t) with
  | .error (e, n) => (e, n, img0)
  | .ok s => match fixS s.ds s.us s.ins with
    | .error n => (10, n, img0)
    | .ok L => if chkI ⟨L.map encQ, s.data, s.sec, s.inn, s.out⟩ ≠ 0 then (chkI ⟨L.map encQ, s.data, s.sec, s.inn, s.out⟩, (lns t).length, img0) else (0, (lns t).length, ⟨L.map encQ, s.data, s.sec, s.inn, s.out⟩)
/-! ### an image's text -/
def datT (q : Int × Bool) : Tx := (if q.2 then wSecret else wWord) ++ 32 :: decL q.1
def inT (a : Int) : Tx := wIn ++ 32 :: decL a
def outT (a : Int) : Tx := wOut ++ 32 :: decL a
def insT (w : Int) : Tx := (lineT (cO w) (cG w 0) (cG w 1) (cG w 2) (cG w 3)).data.toList
def linesT (m : Img) : List Tx := (m.data.zip m.sec).map datT ++ (m.inn.map inT ++ (m.out.map outT ++ m.code.map insT))
def texS (m : Img) : Int × Tx := if chkI m ≠ 0 then (chkI m, []) else match m.code.find? (fun w => decide (cErr w ≠ 0)) with
  | some w => (cErr w, [])
  | none => (0, (linesT m).flatMap fun l => l ++ [10])
/-! ### there and back -/
theorem join_plain : ∀ (ws : List Tx), (∀ w ∈ ws, ∀ x ∈ w, x ≠ 10) → ∀ x ∈ join ws [32], x ≠ 10
  | [], _, x, hx => by simp [join] at hx
  | [w], h, x, hx => h w (by simp) x (by simpa [join] using hx)
  | w :: u :: r, h, x, hx => by
    have hx : x ∈ w ++ ([32] ++ join (u :: r) [32]) := by simpa [join] using hx
    rcases List.mem_append.1 hx with hx | hx
    · exact h w (by simp) x hx
    · rcases List.mem_append.1 hx with hx | hx
      · have : x = 32 := by simpa using hx
        subst this; decide
      · exact join_plain (u :: r) (fun k hk => h k (by simp [hk])) x hx
/-- Lines that are left out, or do something, whatever has been read and whichever line it is. -/
inductive Doing : List Tx → List (Sst → Sst) → Prop
  | nil : Doing [] []
  | skip {l : Tx} {ls : List Tx} {fs : List (Sst → Sst)} (h : skipW (wds l) = true) (r : Doing ls fs) : Doing (l :: ls) fs
  | line {l : Tx} {ls : List Tx} {f : Sst → Sst} {fs : List (Sst → Sst)} (h : skipW (wds l) = false) (k : ∀ s n, lineS s (wds l) n = .ok (f s)) (r : Doing ls fs) : Doing (l :: ls) (f :: fs)
theorem Doing.run {ls : List Tx} {fs : List (Sst → Sst)} (h : Doing ls fs) : ∀ s n, linesS s n ls = .ok (fs.foldl (fun s f => f s) s) := by
  induction h with
  | nil => intro s n; rfl
  | skip h r ih => intro s n; rw [linesS, if_pos h, ih]
  | line h k r ih => intro s n; rw [linesS, if_neg (by rw [h]; decide), k s n]; simp only; rw [ih]; rfl
theorem Doing.append {ls ks : List Tx} {fs gs : List (Sst → Sst)} (h : Doing ls fs) (k : Doing ks gs) : Doing (ls ++ ks) (fs ++ gs) := by
  induction h with
  | nil => exact k
  | skip h r ih => exact .skip h ih
  | line h q r ih => exact .line h q ih
theorem Doing.map {α : Type} {f : α → Tx} {g : α → Sst → Sst} : ∀ (l : List α), (∀ x ∈ l, skipW (wds (f x)) = false ∧ ∀ s n, lineS s (wds (f x)) n = .ok (g x s)) → Doing (l.map f) (l.map g)
  | [], _ => .nil
  | x :: l, h => .line (h x (by simp)).1 (h x (by simp)).2 (Doing.map l fun y hy => h y (by simp [hy]))
theorem wds_two {a b : Tx} (ha : ∀ x ∈ a, x ≠ 32) (ha0 : a ≠ []) (hb : ∀ x ∈ b, x ≠ 32) (hb0 : b ≠ []) : wds (a ++ 32 :: b) = [a, b] := by
  rw [wds_word_blank ha ha0, wds_word hb hb0]
theorem dec_no {n : Int} : ∀ x ∈ decL n, x ≠ 32 := fun _ hx e => decL_blank n (e ▸ hx)
theorem dat_does (q : Int × Bool) (h0 : -2147483648 ≤ q.1) (h1 : q.1 < 2147483648) : skipW (wds (datT q)) = false ∧ ∀ s n, lineS s (wds (datT q)) n = .ok { s with data := s.data ++ [q.1], sec := s.sec ++ [q.2] } := by
  obtain ⟨x, b⟩ := q
  have hv := val_dec (n := x) h0 (by simp only at h1; omega)
  cases b
  · have hw : wds (datT (x, false)) = [wWord, decL x] := wds_two (a := wWord) (by decide) (by decide) dec_no (decL_some x)
    rw [hw]
    refine ⟨by rfl, fun s n => ?_⟩
    unfold lineS
    rw [if_pos (.inl rfl), if_neg (by simp), show wAt [wWord, decL x] 1 = decL x from rfl, hv]
    rfl
  · have hw : wds (datT (x, true)) = [wSecret, decL x] := wds_two (a := wSecret) (by decide) (by decide) dec_no (decL_some x)
    rw [hw]
    refine ⟨by rfl, fun s n => ?_⟩
    unfold lineS
    rw [if_pos (.inr rfl), if_neg (by simp), show wAt [wSecret, decL x] 1 = decL x from rfl, hv]
    rfl
theorem in_does (a : Int) (h0 : 0 ≤ a) (h1 : a < 65536) : skipW (wds (inT a)) = false ∧ ∀ s n, lineS s (wds (inT a)) n = .ok { s with inn := s.inn ++ [a] } := by
  obtain ⟨k1, k2⟩ := num_dec (n := a) (by omega) (by omega)
  have hw : wds (inT a) = [wIn, decL a] := wds_two (by decide) (by decide) dec_no (decL_some a)
  rw [hw]
  refine ⟨by rfl, fun s n => ?_⟩
  unfold lineS
  rw [show wAt [wIn, decL a] 0 = wIn from rfl, if_neg (show ¬ (wIn = wWord ∨ wIn = wSecret) by decide), if_pos (.inl rfl), if_neg (by simp), show wAt [wIn, decL a] 1 = decL a from rfl, if_pos k1, if_pos rfl, k2]
theorem out_does (a : Int) (h0 : 0 ≤ a) (h1 : a < 65536) : skipW (wds (outT a)) = false ∧ ∀ s n, lineS s (wds (outT a)) n = .ok { s with out := s.out ++ [a] } := by
  obtain ⟨k1, k2⟩ := num_dec (n := a) (by omega) (by omega)
  have hw : wds (outT a) = [wOut, decL a] := wds_two (by decide) (by decide) dec_no (decL_some a)
  rw [hw]
  refine ⟨by rfl, fun s n => ?_⟩
  unfold lineS
  rw [show wAt [wOut, decL a] 0 = wOut from rfl, if_neg (show ¬ (wOut = wWord ∨ wOut = wSecret) by decide), if_pos (.inr rfl), if_neg (by simp), show wAt [wOut, decL a] 1 = decL a from rfl, if_pos k1, if_neg (show ¬ (wOut = wIn) by decide), k2]
theorem names_plain : ((List.range 43).all fun k => decide ((nm k).data.toList ≠ wWord ∧ (nm k).data.toList ≠ wSecret ∧ (nm k).data.toList ≠ wIn ∧ (nm k).data.toList ≠ wOut ∧ (nm k).data.toList.head? ≠ some 35 ∧ (nm k).data.toList.head? ≠ some 64 ∧ (nm k).data.toList.getLast? ≠ some 58) && !(nm k).data.toList.contains 10) = true := by decide +kernel
theorem name_plain {o : Int} (h : isOp o) : ((wName o).data.toList ≠ wWord ∧ (wName o).data.toList ≠ wSecret ∧ (wName o).data.toList ≠ wIn ∧ (wName o).data.toList ≠ wOut ∧ (wName o).data.toList.head? ≠ some 35 ∧ (wName o).data.toList.head? ≠ some 64 ∧ (wName o).data.toList.getLast? ≠ some 58) ∧ ∀ x ∈ (wName o).data.toList, x ≠ 10 := by
  unfold isOp at h
  rw [wName_in h.1 h.2]
  have := List.all_eq_true.1 names_plain (o - 1).toNat (List.mem_range.2 (by omega))
  rw [Bool.and_eq_true] at this
  refine ⟨of_decide_eq_true this.1, fun x hx e => ?_⟩
  subst e
  have h2 := this.2
  rw [List.contains_iff_mem.2 hx] at h2
  cases h2
theorem dec_byte {n : Int} {x : UInt8} (h : x ∈ decL n) : x.toNat = 45 ∨ 48 ≤ x.toNat ∧ x.toNat ≤ 57 := by
  unfold decL at h
  split at h
  · rcases List.mem_cons.1 h with rfl | h
    · exact .inl rfl
    · exact .inr (dgs_digit _ _ x h)
  · exact .inr (dgs_digit _ _ x h)
theorem dec_head {n : Int} {c : UInt8} (hc : c.toNat = 64 ∨ c.toNat = 10) : (decL n).head? ≠ some c ∧ c ∉ decL n := by
  have q : c ∉ decL n := fun h => by have := dec_byte h; omega
  refine ⟨fun h => ?_, q⟩
  cases hd : decL n with
  | nil => rw [hd] at h; cases h
  | cons y r => rw [hd] at h q; cases h; exact q List.mem_cons_self
theorem opdW_plain {c x : Int} : ∀ w ∈ opdW c x, w.head? ≠ some 64 ∧ ∀ y ∈ w, y ≠ 10 := by
  intro w hw
  have q : ∀ y ∈ decL x, y ≠ 10 := fun y hy e => (dec_head (n := x) (c := 10) (.inr rfl)).2 (e ▸ hy)
  unfold opdW at hw
  split at hw
  · simp only [List.mem_singleton] at hw
    subst hw
    refine ⟨by simp, fun y hy => ?_⟩
    rcases List.mem_cons.1 hy with rfl | hy
    · decide
    · exact q y hy
  · split at hw
    · simp only [List.mem_singleton] at hw
      subst hw
      exact ⟨(dec_head (.inl rfl)).1, q⟩
    · simp at hw
theorem tells_plain {o d a b n : Int} (h : isOp o) : ∀ (k : Nat), (∀ w ∈ tells o d a b n k, w.head? ≠ some 64 ∧ ∀ x ∈ w, x ≠ 10) ∧ wAt (tells o d a b n k) 0 = (wName o).data.toList ∧ tells o d a b n k ≠ []
  | 0 => by
    refine ⟨fun w hw => ?_, rfl, by simp [tells]⟩
    simp only [tells, List.mem_singleton] at hw
    subst hw
    exact ⟨(name_plain h).1.2.2.2.2.2.1, (name_plain h).2⟩
  | k + 1 => by
    obtain ⟨h1, h2, h3⟩ := tells_plain h k
    refine ⟨fun w hw => ?_, ?_, ?_⟩
    · rw [tells] at hw
      rcases List.mem_append.1 hw with hw | hw
      · exact h1 w hw
      · exact opdW_plain w hw
    · rw [tells, ← h2]
      cases ht : tells o d a b n k with
      | nil => exact absurd ht h3
      | cons x r => rfl
    · rw [tells]
      intro e
      exact h3 (List.append_eq_nil_iff.1 e).1
theorem last_mem {ws : List Tx} (h : ws ≠ []) : lastW ws ∈ ws := by
  unfold lastW
  rw [List.getLast?_eq_some_getLast h]
  exact List.getLast_mem h
theorem ins_does (w : Int) (h : cErr w = 0) : skipW (wds (insT w)) = false ∧ ∀ s n, lineS s (wds (insT w)) n = .ok { s with ins := s.ins ++ [(w / 67108864, cF w 0, cF w 1, cF w 2, cF w 3)] } := by
  obtain ⟨hk, hw⟩ := back_word h
  have ho := chk_op hk
  have e : wds (insT w) = lineWs (w / 67108864) (cF w 0) (cF w 1) (cF w 2) (cF w 3) := by
    unfold insT cO cG
    rw [if_pos h, if_pos h, if_pos h, if_pos h, if_pos h]
    exact wds_line hk
  rw [e]
  obtain ⟨p1, p2, p3⟩ := tells_plain (d := cF w 0) (a := cF w 1) (b := cF w 2) (n := cF w 3) ho 4
  obtain ⟨⟨n1, n2, n3, n4, n5, n6, n7⟩, -⟩ := name_plain ho
  obtain ⟨l1, l2, l3, l4, l5, l6⟩ := line_back hk
  unfold lineWs at *
  generalize tells (w / 67108864) (cF w 0) (cF w 1) (cF w 2) (cF w 3) 4 = ws at *
  have hnm : namedW ws = false := by
    unfold namedW
    rw [decide_eq_false (p1 _ (last_mem p3)).1, Bool.and_false, Bool.and_false]
  have hi : insW' ws = ws := by unfold insW'; rw [hnm]; rfl
  refine ⟨?_, fun s n => ?_⟩
  · unfold skipW
    rw [p2, decide_eq_false p3, decide_eq_false n5]
    rfl
  · unfold lineS
    rw [p2, if_neg (fun q => q.elim n1 n2), if_neg (fun q => q.elim n3 n4), if_neg (fun q => n7 q.2), hi, if_neg (fun q => q l1), hnm, if_neg (by decide)]
    unfold ins5
    rw [hi, l2, l3, l4, l5, l6]
theorem fold_dat : ∀ (l : List (Int × Bool)) (s : Sst), (l.map fun q (s : Sst) => { s with data := s.data ++ [q.1], sec := s.sec ++ [q.2] }).foldl (fun s f => f s) s = { s with data := s.data ++ l.map (·.1), sec := s.sec ++ l.map (·.2) }
  | [], s => by simp
  | q :: l, s => by
    rw [List.map_cons, List.foldl_cons, fold_dat l]
    simp
theorem fold_in : ∀ (l : List Int) (s : Sst), (l.map fun a (s : Sst) => { s with inn := s.inn ++ [a] }).foldl (fun s f => f s) s = { s with inn := s.inn ++ l }
  | [], s => by simp
  | q :: l, s => by
    rw [List.map_cons, List.foldl_cons, fold_in l]
    simp
theorem fold_out : ∀ (l : List Int) (s : Sst), (l.map fun a (s : Sst) => { s with out := s.out ++ [a] }).foldl (fun s f => f s) s = { s with out := s.out ++ l }
  | [], s => by simp
  | q :: l, s => by
    rw [List.map_cons, List.foldl_cons, fold_out l]
    simp
def q5 (w : Int) : Q5 := (w / 67108864, cF w 0, cF w 1, cF w 2, cF w 3)
theorem fold_ins : ∀ (l : List Int) (s : Sst), (l.map fun w (s : Sst) => { s with ins := s.ins ++ [q5 w] }).foldl (fun s f => f s) s = { s with ins := s.ins ++ l.map q5 }
  | [], s => by simp
  | q :: l, s => by
    rw [List.map_cons, List.foldl_cons, fold_ins l]
    simp
/-- What an image's lines do. -/
def doesT (m : Img) : List (Sst → Sst) := (m.data.zip m.sec).map (fun q s => { s with data := s.data ++ [q.1], sec := s.sec ++ [q.2] }) ++ (m.inn.map (fun a s => { s with inn := s.inn ++ [a] }) ++ (m.out.map (fun a s => { s with out := s.out ++ [a] }) ++ m.code.map (fun w s => { s with ins := s.ins ++ [q5 w] })))
theorem does_image {m : Img} (hf : Fits m) (hc : ∀ w ∈ m.code, cErr w = 0) : Doing (linesT m) (doesT m) ∧ (doesT m).foldl (fun s f => f s) sst0 = ⟨m.data, m.sec, m.inn, m.out, m.code.map q5, [], []⟩ := by
  refine ⟨?_, ?_⟩
  · refine Doing.append (Doing.map _ fun q hq => ?_) (Doing.append (Doing.map _ fun a ha => ?_) (Doing.append (Doing.map _ fun a ha => ?_) (Doing.map _ fun w hw => ?_)))
    · have := hf.data q.1 (by rw [← (zip_maps m.data m.sec hf.sec).1]; exact List.mem_map.2 ⟨q, hq, rfl⟩)
      exact dat_does q this.1 this.2
    · exact in_does a (hf.inn a ha).1 (hf.inn a ha).2
    · exact out_does a (hf.out a ha).1 (hf.out a ha).2
    · exact ins_does w (hc w hw)
  · unfold doesT
    rw [List.foldl_append, List.foldl_append, List.foldl_append, fold_dat, fold_in, fold_out, fold_ins]
    obtain ⟨z1, z2⟩ := zip_maps m.data m.sec hf.sec
    simp [sst0, z1, z2]
theorem code_back {l : List Int} (hc : ∀ w ∈ l, cErr w = 0) : (l.map q5).map encQ = l := by
  rw [List.map_map]
  conv => rhs; rw [← List.map_id l]
  apply List.map_congr_left
  intro w hw
  obtain ⟨hk, h2⟩ := back_word (hc w hw)
  show cEnc (w / 67108864) (cF w 0) (cF w 1) (cF w 2) (cF w 3) = w
  unfold cEnc
  rw [if_pos hk, h2]
/-- Any text whose lines do what an image's do is parsed as it. -/
theorem par_doing {m : Img} {t : Tx} (hk : chkI m = 0) (hf : Fits m) (hc : ∀ w ∈ m.code, cErr w = 0) (h : Doing (lns t) (doesT m)) : parS t = (0, (lns t).length, m) := by
  unfold parS
  rw [h.run, (does_image hf hc).2]
  simp only [fixS, code_back hc]
  rw [if_neg (fun q => q hk)]
theorem tex_ok {m : Img} (h : (texS m).1 = 0) : chkI m = 0 ∧ (∀ w ∈ m.code, cErr w = 0) ∧ (texS m).2 = (linesT m).flatMap fun l => l ++ [10] := by
  unfold texS at *
  by_cases hk : chkI m = 0
  · rw [if_neg (fun q => q hk)] at h ⊢
    cases hq : m.code.find? (fun w => decide (cErr w ≠ 0)) with
    | some w =>
      rw [hq] at h
      have := List.find?_some hq
      exact absurd h (of_decide_eq_true this)
    | none =>
      refine ⟨hk, fun w hw => ?_, rfl⟩
      have := List.find?_eq_none.1 hq w hw
      simpa using this
  · rw [if_pos hk] at h
    exact absurd h hk
theorem lines_plain {m : Img} (hc : ∀ w ∈ m.code, cErr w = 0) : ∀ l ∈ linesT m, ∀ x ∈ l, x ≠ 10 := by
  have two : ∀ (a : Tx) (n : Int), (∀ x ∈ a, x ≠ 10) → ∀ x ∈ a ++ 32 :: decL n, x ≠ 10 := fun a n ha x hx => by
    rcases List.mem_append.1 hx with hx | hx
    · exact ha x hx
    · rcases List.mem_cons.1 hx with rfl | hx
      · decide
      · exact fun e => (dec_head (n := n) (c := 10) (.inr rfl)).2 (e ▸ hx)
  intro l hl
  unfold linesT at hl
  rcases List.mem_append.1 hl with hl | hl
  · obtain ⟨q, -, rfl⟩ := List.mem_map.1 hl
    unfold datT
    cases q.2
    · exact two wWord _ (by decide)
    · exact two wSecret _ (by decide)
  · rcases List.mem_append.1 hl with hl | hl
    · obtain ⟨a, -, rfl⟩ := List.mem_map.1 hl
      exact two wIn _ (by decide)
    · rcases List.mem_append.1 hl with hl | hl
      · obtain ⟨a, -, rfl⟩ := List.mem_map.1 hl
        exact two wOut _ (by decide)
      · obtain ⟨w, hw, rfl⟩ := List.mem_map.1 hl
        obtain ⟨hk, -⟩ := back_word (hc w hw)
        obtain ⟨p1, -, -⟩ := tells_plain (d := cF w 0) (a := cF w 1) (b := cF w 2) (n := cF w 3) (chk_op hk) 4
        intro x hx
        unfold insT cO cG at hx
        rw [if_pos (hc w hw), if_pos (hc w hw), if_pos (hc w hw), if_pos (hc w hw), if_pos (hc w hw)] at hx
        unfold lineT at hx
        rw [if_pos hk, txt_list] at hx
        exact join_plain _ (fun u hu => (p1 u hu).2) x hx
/-- What has a text is parsed of it. -/
theorem par_tex {m : Img} (hw : WordsI m) (h : (texS m).1 = 0) : parS (texS m).2 = (0, (linesT m).length, m) ∧ lns (texS m).2 = linesT m := by
  obtain ⟨hk, hc, ht⟩ := tex_ok h
  have hf := fits_ok hk hw
  have hl : lns (texS m).2 = linesT m := by rw [ht]; exact lns_all _ (lines_plain hc)
  refine ⟨?_, hl⟩
  rw [par_doing hk hf hc (by rw [hl]; exact (does_image hf hc).1), hl]
end

section
open Go.RowKit Go.Lib

theorem wdsC_trail : ∀ (t cur : Tx), wdsC cur (t ++ [32]) = wdsC cur t
  | [], cur => by
    show wdsC cur [32] = wdsC cur []
    rw [wdsC_blank]
    simp [wdsC]
  | b :: t, cur => by
    show wdsC cur (b :: (t ++ [32])) = wdsC cur (b :: t)
    unfold wdsC
    rw [wdsC_trail t [], wdsC_trail t (cur ++ [b])]
theorem wds_trail (l : Tx) : wds (l ++ [32]) = wds l := wdsC_trail l []
/-- A note: # jump 1. -/
def noteT : Tx := [35, 32, 106, 117, 109, 112, 32, 49]
/-- A line with what may stand ahead of it, and a blank behind. -/
def notT (k : Nat) (l : Tx) : List Tx := if k = 1 then [noteT, l ++ [32]] else if k = 2 then [[32], 32 :: (l ++ [32])] else [l ++ [32]]
def notedT (f : Nat → Nat) : Nat → List Tx → List Tx
  | _, [] => []
  | i, l :: r => notT (f i) l ++ notedT f (i + 1) r
theorem skip_note : skipW (wds noteT) = true := by decide
theorem skip_blank : skipW (wds [32]) = true := by decide
theorem Doing.noted {f : Nat → Nat} {ls : List Tx} {fs : List (Sst → Sst)} (h : Doing ls fs) : ∀ i, Doing (notedT f i ls) fs := by
  have go : ∀ (l : Tx) (k : Nat) (ks : List Tx) (gs : List (Sst → Sst)), (∀ l', wds l' = wds l → Doing (l' :: ks) gs) → Doing (notT k l ++ ks) gs := fun l k ks gs q => by
    unfold notT
    split
    · exact .skip skip_note (q _ (wds_trail l))
    · split
      · exact .skip skip_blank (q _ (by rw [wds_blank, wds_trail]))
      · exact q _ (wds_trail l)
  induction h with
  | nil => intro i; exact .nil
  | skip h r ih => intro i; exact go _ _ _ _ fun l' e => .skip (by rw [e]; exact h) (ih _)
  | line h k r ih => intro i; exact go _ _ _ _ fun l' e => .line (by rw [e]; exact h) (fun s n => by rw [e]; exact k s n) (ih _)
theorem noted_plain {f : Nat → Nat} : ∀ (ls : List Tx) (i : Nat), (∀ l ∈ ls, ∀ x ∈ l, x ≠ 10) → ∀ l ∈ notedT f i ls, ∀ x ∈ l, x ≠ 10
  | [], _, _, l, hl => by cases hl
  | k :: ls, i, h, l, hl => by
    have hk := h k (by simp)
    have one : ∀ x ∈ k ++ [32], x ≠ 10 := fun x hx => by
      rcases List.mem_append.1 hx with hx | hx
      · exact hk x hx
      · have : x = 32 := by simpa using hx
        subst this; decide
    unfold notedT at hl
    rcases List.mem_append.1 hl with hl | hl
    · unfold notT at hl
      split at hl
      · rcases List.mem_cons.1 hl with rfl | hl
        · decide
        · rw [List.mem_singleton] at hl
          subst hl; exact one
      · split at hl
        · rcases List.mem_cons.1 hl with rfl | hl
          · decide
          · rw [List.mem_singleton] at hl
            subst hl
            intro x hx
            rcases List.mem_cons.1 hx with rfl | hx
            · decide
            · exact one x hx
        · rw [List.mem_singleton] at hl
          subst hl; exact one
    · exact noted_plain ls (i + 1) (fun l hl => h l (by simp [hl])) l hl
/-- The text with notes. -/
def noteB (f : Nat → Nat) (ls : List Tx) : Tx := (notedT f 0 ls).flatMap fun l => l ++ [10]
theorem noted_snoc {f : Nat → Nat} : ∀ (ls : List Tx) (l : Tx) (i : Nat), notedT f i (ls ++ [l]) = notedT f i ls ++ notT (f (i + ls.length)) l
  | [], l, i => by show notT (f i) l ++ [] = [] ++ notT (f (i + 0)) l; rw [List.append_nil]; rfl
  | k :: ls, l, i => by
    show notT (f i) k ++ notedT f (i + 1) (ls ++ [l]) = (notT (f i) k ++ notedT f (i + 1) ls) ++ _
    rw [noted_snoc ls l (i + 1), List.append_assoc, show i + 1 + ls.length = i + (k :: ls).length by rw [List.length_cons]; omega]
/-- A line more. -/
theorem noteB_snoc (f : Nat → Nat) (ls : List Tx) (l : Tx) : noteB f (ls ++ [l]) = noteB f ls ++ ((if f ls.length = 1 then noteT ++ [10] else if f ls.length = 2 then [32, 10, 32] else []) ++ (l ++ [32, 10])) := by
  unfold noteB
  rw [noted_snoc, List.flatMap_append, Nat.zero_add]
  congr 1
  unfold notT
  split
  · simp [List.append_assoc]
  · split
    · simp [List.append_assoc]
    · simp [List.append_assoc]
/-- Also with notes between its lines. -/
theorem par_noted {m : Img} {f : Nat → Nat} (hw : WordsI m) (h : (texS m).1 = 0) : (parS (noteB f (linesT m))).1 = 0 ∧ (parS (noteB f (linesT m))).2.2 = m := by
  obtain ⟨hk, hc, -⟩ := tex_ok h
  have hf := fits_ok hk hw
  have hl : lns (noteB f (linesT m)) = notedT f 0 (linesT m) := lns_all _ (noted_plain _ 0 (lines_plain hc))
  rw [par_doing hk hf hc (by rw [hl]; exact (does_image hf hc).1.noted 0)]
  exact ⟨rfl, rfl⟩
end

section
open Go.RowKit Go.Lib

/-- The digits of 16. -/
def lsDig : Tx := [48, 49, 50, 51, 52, 53, 54, 55, 56, 57, 97, 98, 99, 100, 101, 102]
def lsC (d : Int) : Tx := (lsDig.drop d.toNat).take 1
def lsHexR : Nat → Int → Tx → Tx
  | 0, _, s => s
  | k + 1, w, s => lsHexR k (w / 16) (lsC (w % 16) ++ s)
/-- A word by eight digits of 16. -/
def lsHex (w : Int) : Tx := lsHexR 8 w []
/-- Does the word w of code go to p? -/
def lsTo (p : Nat) (w : Int) : Bool := decide (cErr w = 0 ∧ 36 ≤ cO w ∧ cO w ≤ 40 ∧ cG w 3 = p)
def lsAt (code : List Int) (q : Nat) : Int := code.getD q 0
/-- The places of the first k that go to p. -/
def lsFrom (code : List Int) (p k : Nat) : Tx := (List.range k).flatMap fun q => if lsTo p (lsAt code q) = true then 32 :: decL q else []
def lsIns (w : Int) : Tx := if cErr w = 0 then insT w else [63]
/-- A place's line. -/
def lstT (code : List Int) (p : Nat) : Tx := decL p ++ (32 :: (lsHex (lsAt code p) ++ (32 :: (lsIns (lsAt code p) ++ (if lsFrom code p code.length = [] then [] else 32 :: 60 :: lsFrom code p code.length)))))
def lsL (code : List Int) (k : Nat) : List Tx := (List.range k).map (lstT code)
/-- The error, the list. -/
def lisS (m : Img) : Int × Tx := if chkI m ≠ 0 then (chkI m, []) else (0, (lsL m.code m.code.length).flatMap fun l => l ++ [10])
theorem lsFrom_snoc (code : List Int) (p k : Nat) : lsFrom code p (k + 1) = lsFrom code p k ++ (if lsTo p (lsAt code k) = true then 32 :: decL k else []) := by
  unfold lsFrom
  rw [List.range_succ, List.flatMap_append]
  simp
theorem lsL_snoc (code : List Int) (k : Nat) : ((lsL code (k + 1)).flatMap fun l => l ++ [10]) = ((lsL code k).flatMap fun l => l ++ [10]) ++ (lstT code k ++ [10]) := by
  unfold lsL
  rw [List.range_succ, List.map_append, List.flatMap_append]
  simp
theorem lsC_plain (d : Int) : ∀ x ∈ lsC d, x ≠ 10 := fun x hx e => by
  have h : x ∈ lsDig := List.mem_of_mem_drop (List.mem_of_mem_take hx)
  subst e
  exact absurd h (by decide)
theorem lsC_len (d : Int) : (lsC d).length ≤ 1 := by unfold lsC; rw [List.length_take]; omega
theorem lsHexR_ok : ∀ (k : Nat) (w : Int) (s : Tx), (∀ x ∈ s, x ≠ 10) → (∀ x ∈ lsHexR k w s, x ≠ 10) ∧ (lsHexR k w s).length ≤ k + s.length
  | 0, _, s, h => ⟨h, by simp [lsHexR]⟩
  | k + 1, w, s, h => by
    have h1 := lsHexR_ok k (w / 16) (lsC (w % 16) ++ s) fun x hx => (List.mem_append.1 hx).elim (lsC_plain _ x) (h x)
    have h2 := lsC_len (w % 16)
    rw [List.length_append] at h1
    exact ⟨h1.1, by have := h1.2; rw [lsHexR]; omega⟩
theorem lsHex_ok (w : Int) : (∀ x ∈ lsHex w, x ≠ 10) ∧ (lsHex w).length ≤ 8 := lsHexR_ok 8 w [] (by simp)
theorem lsJoin : ∀ (ws : List Tx), (join ws [32]).length ≤ (ws.map fun w => w.length + 1).sum
  | [] => by simp [join_nil]
  | [w] => by rw [join_one]; simp
  | w :: u :: r => by
    have h := lsJoin (u :: r)
    rw [join_cons] at h ⊢
    simp only [joinTail, List.map_cons, List.flatten_cons, List.length_append, List.sum_cons] at *
    simp only [List.length_cons, List.length_nil]
    omega
theorem lsSum {l : List Tx} {k : Nat} (h : ∀ w ∈ l, w.length ≤ k) : (l.map fun w => w.length + 1).sum ≤ (k + 1) * l.length := by
  induction l with
  | nil => simp
  | cons w l ih =>
    have h1 := h w (by simp)
    have h2 := ih fun x hx => h x (by simp [hx])
    rw [List.map_cons, List.sum_cons, List.length_cons, Nat.mul_succ]
    omega
theorem lsIns_ok (w : Int) : (∀ x ∈ lsIns w, x ≠ 10) ∧ (lsIns w).length ≤ 70 := by
  unfold lsIns
  by_cases hc : cErr w = 0
  · rw [if_pos hc]
    obtain ⟨hk, -⟩ := back_word hc
    obtain ⟨p1, -, -⟩ := tells_plain (d := cF w 0) (a := cF w 1) (b := cF w 2) (n := cF w 3) (chk_op hk) 4
    obtain ⟨q1, q2⟩ := line_short hk
    unfold insT cO cG
    rw [if_pos hc, if_pos hc, if_pos hc, if_pos hc, if_pos hc]
    unfold lineT
    rw [if_pos hk, txt_list]
    refine ⟨join_plain _ (fun u hu => (p1 u hu).2), ?_⟩
    have h1 := lsJoin (lineWs (w / 67108864) (cF w 0) (cF w 1) (cF w 2) (cF w 3))
    have h2 := lsSum q2
    have h3 : (12 + 1) * (lineWs (w / 67108864) (cF w 0) (cF w 1) (cF w 2) (cF w 3)).length ≤ 13 * 5 := Nat.mul_le_mul_left 13 q1
    omega
  · rw [if_neg hc]
    exact ⟨by decide, by decide⟩
theorem dec_plain (n : Int) : ∀ x ∈ decL n, x ≠ 10 := fun _ hx e => (dec_head (n := n) (c := 10) (.inr rfl)).2 (e ▸ hx)
theorem lsFrom_ok (code : List Int) (p : Nat) : ∀ k, k ≤ 3000 → (∀ x ∈ lsFrom code p k, x ≠ 10) ∧ (lsFrom code p k).length ≤ 12 * k
  | 0, _ => ⟨by simp [lsFrom], by simp [lsFrom]⟩
  | k + 1, hk => by
    obtain ⟨h1, h2⟩ := lsFrom_ok code p k (by omega)
    have h3 := decL_length (n := (k : Int)) (by omega) (by omega)
    rw [lsFrom_snoc]
    split
    · refine ⟨fun x hx => ?_, by rw [List.length_append, List.length_cons]; omega⟩
      rcases List.mem_append.1 hx with hx | hx
      · exact h1 x hx
      · rcases List.mem_cons.1 hx with rfl | hx
        · decide
        · exact dec_plain _ x hx
    · rw [List.append_nil]
      exact ⟨h1, by omega⟩
theorem lst_ok {code : List Int} (hn : code.length ≤ 3000) {p : Nat} (hp : p ≤ 3000) : (∀ x ∈ lstT code p, x ≠ 10) ∧ (lstT code p).length ≤ 93 + 12 * code.length := by
  obtain ⟨h1, h2⟩ := lsFrom_ok code p code.length hn
  obtain ⟨h3, h4⟩ := lsHex_ok (lsAt code p)
  obtain ⟨h5, h6⟩ := lsIns_ok (lsAt code p)
  have h7 := decL_length (n := (p : Int)) (by omega) (by omega)
  have h8 := dec_plain (p : Int)
  unfold lstT
  generalize lsFrom code p code.length = F at *
  generalize lsHex (lsAt code p) = H at *
  generalize lsIns (lsAt code p) = I at *
  generalize decL (p : Int) = D at *
  have hF : (∀ x ∈ (if F = [] then [] else 32 :: 60 :: F : Tx), x ≠ 10) ∧ (if F = [] then [] else 32 :: 60 :: F : Tx).length ≤ 2 + F.length := by
    split
    · exact ⟨by simp, by simp⟩
    · refine ⟨fun x hx => ?_, by simp only [List.length_cons]; omega⟩
      rcases List.mem_cons.1 hx with rfl | hx
      · decide
      · rcases List.mem_cons.1 hx with rfl | hx
        · decide
        · exact h1 x hx
  generalize (if F = [] then [] else 32 :: 60 :: F : Tx) = G at *
  refine ⟨fun x hx => ?_, by simp only [List.length_append, List.length_cons]; have := hF.2; omega⟩
  rcases List.mem_append.1 hx with hx | hx
  · exact h8 x hx
  · rcases List.mem_cons.1 hx with rfl | hx
    · decide
    · rcases List.mem_append.1 hx with hx | hx
      · exact h3 x hx
      · rcases List.mem_cons.1 hx with rfl | hx
        · decide
        · exact (List.mem_append.1 hx).elim (h5 x) (hF.1 x)
theorem lsL_ok {code : List Int} (hn : code.length ≤ 60) : ∀ k, k ≤ 60 → (∀ l ∈ lsL code k, ∀ x ∈ l, x ≠ 10) ∧ ((lsL code k).flatMap fun l => l ++ [10]).length ≤ 820 * k
  | 0, _ => ⟨by simp [lsL], by simp [lsL]⟩
  | k + 1, hk => by
    obtain ⟨h1, h2⟩ := lsL_ok hn k (by omega)
    obtain ⟨h3, h4⟩ := lst_ok (code := code) (p := k) (by omega) (by omega)
    refine ⟨fun l hl => ?_, by rw [lsL_snoc, List.length_append, List.length_append, List.length_singleton]; omega⟩
    unfold lsL at hl
    rw [List.range_succ, List.map_append] at hl
    rcases List.mem_append.1 hl with hl | hl
    · exact h1 l hl
    · rw [List.map_cons, List.map_nil, List.mem_singleton] at hl
      subst hl
      exact h3
/-- A list has a line for each place, and is no longer than 49200 bytes. -/
theorem lis_lines {m : Img} (hn : m.code.length ≤ 60) (h : (lisS m).1 = 0) : (lns (lisS m).2).length = m.code.length ∧ (lisS m).2.length ≤ 49200 := by
  unfold lisS at *
  by_cases hk : chkI m = 0
  · rw [if_neg (fun q => q hk)]
    obtain ⟨h1, h2⟩ := lsL_ok hn m.code.length hn
    refine ⟨?_, by show ((lsL m.code m.code.length).flatMap fun l => l ++ [10]).length ≤ _; omega⟩
    show (lns ((lsL m.code m.code.length).flatMap fun l => l ++ [10])).length = _
    rw [lns_all _ h1]
    unfold lsL
    rw [List.length_map, List.length_range]
  · rw [if_pos hk] at h
    exact absurd h hk
end

section
open Go.RowKit Go.Lib

theorem decFrom_ge : ∀ (l : Tx) (acc u : Nat), decFrom acc l = some u → acc ≤ u
  | [], acc, u, h => by simp only [decFrom, Option.some.injEq] at h; omega
  | c :: r, acc, u, h => by
    rw [decFrom] at h
    cases hd : digitVal c with
    | none => rw [hd] at h; cases h
    | some d => rw [hd] at h; have := decFrom_ge r _ u h; omega
theorem uint_dec : ∀ (l : Tx) (acc u : Nat), decFrom acc l = some u → u ≤ 4294967295 → parseUintM 4294967295 acc l = .ok u
  | [], acc, u, h, _ => by simp only [decFrom, Option.some.injEq] at h; rw [parseUintM, h]
  | c :: r, acc, u, h, hu => by
    rw [decFrom] at h
    cases hd : digitVal c with
    | none => rw [hd] at h; cases h
    | some d =>
      rw [hd] at h
      have h1 := decFrom_ge r _ u h
      have ih := uint_dec r _ u h hu
      unfold digitVal at hd
      split at hd
      · rename_i k
        simp only [Option.some.injEq] at hd
        subst hd
        rw [parseUintM, if_pos (by simpa using k), if_neg (by omega), if_neg (by omega)]
        exact ih
      · cases hd
theorem pint_dec {n : Int} (h0 : -2147483648 ≤ n) (h1 : n ≤ 2147483647) : parseIntB 32 (decL n) = .ok n := by
  have ex : (2 : Nat) ^ (32 - 1) = 2147483648 := by decide
  have ey : (2 : Nat) ^ 32 - 1 = 4294967295 := by decide
  by_cases k : n < 0
  · have e : decL n = 45 :: dgs 20 n.natAbs := by unfold decL; rw [if_pos k]
    have hp := dgs_pos 20 n.natAbs (by decide)
    have hv := decFrom_dec 20 n.natAbs (by omega) (by decide)
    have hne : dgs 20 n.natAbs ≠ [] := fun e => by rw [e] at hp; simp at hp
    rw [e, parseIntB_minus, parseUintB, if_neg hne, ey, uint_dec _ 0 _ hv (by omega)]
    show (if _ then _ else _) = _
    rw [ex, if_neg (by omega)]
    congr 1
    omega
  · have e : decL n = dgs 20 n.toNat := by unfold decL; rw [if_neg k]
    have hp := dgs_pos 20 n.toNat (by decide)
    have hv := decFrom_dec 20 n.toNat (by omega) (by decide)
    have hd := dgs_digit 20 n.toNat
    rw [e]
    cases h : dgs 20 n.toNat with
    | nil => rw [h] at hp; simp at hp
    | cons b r =>
      have hb := hd b (by rw [h]; exact .head _)
      rw [h] at hv
      rw [parseIntB_plain _ _ _ (by omega) (by omega), parseUintB, if_neg (by simp), ey, uint_dec _ 0 _ hv (by omega)]
      show (if _ then _ else _) = _
      rw [ex, if_neg (by omega)]
      congr 1
      omega
theorem val_only {l : Tx} {n : Int} (h : valO l = some n) : decL n = l ∧ -2147483648 ≤ n ∧ n ≤ 2147483647 := by
  unfold valO at h
  by_cases c1 : l.length - frm l ≠ 10
  · rw [if_pos c1] at h
    by_cases c2 : numOk l = true
    · rw [if_pos c2] at h
      cases h
      obtain ⟨q1, q2, q3⟩ := num_only c2
      exact ⟨q3, by omega, by omega⟩
    · rw [if_neg c2] at h; cases h
  · rw [if_neg c1] at h
    by_cases c2 : numOk l.dropLast = true ∧ numOk (l.drop (l.length - 1)) = true ∧ numV l.dropLast ≠ 0
    · rw [if_pos c2] at h
      obtain ⟨k1, k2, k3⟩ := c2
      have hlen : 10 ≤ l.length := by omega
      have hla : l = l.dropLast ++ l.drop (l.length - 1) := by
        rw [List.dropLast_eq_take, List.take_append_drop]
      obtain ⟨a1, a2, a3⟩ := num_only k1
      obtain ⟨b1, b2, b3⟩ := num_only k2
      have hf1 : frm l.dropLast = frm l := by
        unfold frm
        have : l.dropLast.head? = l.head? := by
          cases l with
          | nil => rfl
          | cons x r => cases r with
            | nil => simp at hlen
            | cons y r => rfl
        rw [this]
      have hfa := frm_dec (n := numV l.dropLast)
      rw [a3, hf1] at hfa
      have hbl : (l.drop (l.length - 1)).length = 1 := by rw [List.length_drop]; omega
      generalize numV l.dropLast = A at *
      generalize numV (l.drop (l.length - 1)) = B at *
      have hB0 : 0 ≤ B ∧ B < 10 := by
        have q := dec_parts b1 b2
        have hfb := frm_dec (n := B)
        rw [b3] at hfb q
        by_cases hn : B < 0
        · rw [if_pos hn] at hfb; omega
        · by_cases h10 : B < 10
          · omega
          · have h5 := decL_more (n := B) (by omega) (by omega)
            rw [b3] at h5
            have h6 := congrArg List.length h5
            rw [List.length_append, hbl] at h6
            have p1 : 1 ≤ (decL (B / 10)).length := by cases hq : decL (B / 10) with | nil => exact absurd hq (decL_some _) | cons _ _ => simp
            have p2 : 1 ≤ (decL (B % 10)).length := by cases hq : decL (B % 10) with | nil => exact absurd hq (decL_some _) | cons _ _ => simp
            omega
      by_cases hA : A < 0
      · rw [if_pos hA] at hfa
        rw [hfa, if_pos rfl] at h
        split at h
        · rename_i hb
          cases h
          refine ⟨?_, hb.1, hb.2⟩
          have e1 : -(10 * A - B) / 10 = -A := by omega
          have e2 : -(10 * A - B) % 10 = B := by omega
          rw [decL_neg (by omega), decL_more (n := -(10 * A - B)) (by omega) (by omega), e1, e2, b3]
          rw [← List.cons_append, ← decL_neg hA, a3]
          exact hla.symm
        · cases h
      · rw [if_neg hA] at hfa
        rw [hfa] at h
        simp only [if_neg (show ¬ ((0 : Nat) = 1) by decide)] at h
        split at h
        · rename_i hb
          cases h
          refine ⟨?_, hb.1, hb.2⟩
          have e1 : (10 * A + B) / 10 = A := by omega
          have e2 : (10 * A + B) % 10 = B := by omega
          rw [decL_more (by omega) (by omega), e1, e2, b3]
          rw [a3]
          exact hla.symm
        · cases h
    · rw [if_neg c2] at h; cases h
theorem val_pint {l : Tx} {n : Int} (h : parseIntB 32 l = .ok n) : valO l = if decL n = l then some n else none := by
  have hb := parseIntB_bounds h
  have ex : ((2 ^ (32 - 1) : Nat) : Int) = 2147483648 := by decide
  rw [ex] at hb
  by_cases k : decL n = l
  · rw [if_pos k, ← k]
    exact val_dec hb.1 (by omega)
  · rw [if_neg k]
    cases hv : valO l with
    | none => rfl
    | some x =>
      exfalso
      obtain ⟨h1, h2, h3⟩ := val_only hv
      have := pint_dec h2 h3
      rw [h1, h] at this
      cases this
      exact k h1
theorem val_fail {l : Tx} (h : ∀ n, parseIntB 32 l ≠ .ok n) : valO l = none := by
  cases hv : valO l with
  | none => rfl
  | some x =>
    exfalso
    obtain ⟨h1, h2, h3⟩ := val_only hv
    have := pint_dec h2 h3
    rw [h1] at this
    exact h x this
theorem val_bd {l : Tx} {n : Int} (h : valO l = some n) : -2147483648 ≤ n ∧ n ≤ 2147483647 := (val_only h).2
end

section
open Go.RowKit Go.Lib

theorem name_of {s : ByteArray} (h : wFind s ≠ 0) : ∃ j, j < 43 ∧ nm j = s := by
  false_or_by_contra
  rename_i q
  exact h (find_0 fun j hj e => q ⟨j, hj, e⟩)
theorem pErr_colon {u : Tx} (h : u.getLast? = some 58) : pErr [u] = 3 := by
  have hp : pOp [u] = 0 := by
    false_or_by_contra
    rename_i q
    obtain ⟨j, hj, e⟩ := name_of (s := txt u) q
    have := List.all_eq_true.1 names_plain j (List.mem_range.2 hj)
    rw [Bool.and_eq_true] at this
    have h2 := (of_decide_eq_true this.1).2.2.2.2.2.2
    rw [e, txt_list] at h2
    exact h2 h
  unfold pErr
  rw [if_neg]
  unfold pGood
  rw [hp]
  simp
theorem goes_plain {u : Tx} (h : goesW u = true) : (u ≠ wWord ∧ u ≠ wSecret ∧ u ≠ wIn ∧ u ≠ wOut) ∧ u.getLast? ≠ some 58 ∧ u.head? ≠ some 64 ∧ u.head? ≠ some 35 := by
  unfold goesW at h
  rcases of_decide_eq_true h with rfl | rfl | rfl | rfl | rfl <;> decide
theorem pre_is (l : Tx) (c : UInt8) : hasPrefix l [c] = decide (l.head? = some c) ∧ (l.head? = some c → trimPrefix l [c] = l.drop 1) := by
  cases l with
  | nil => simp [hasPrefix, List.isPrefixOf]
  | cons x r =>
    by_cases h : x = c
    · subst h; simp [hasPrefix, trimPrefix, List.isPrefixOf]
    · have h' : ¬ c = x := fun e => h e.symm
      simp [hasPrefix, List.isPrefixOf, h, h']
theorem suf_is (l : Tx) (c : UInt8) : hasSuffix l [c] = decide (l.getLast? = some c) ∧ (l.getLast? = some c → trimSuffix l [c] = l.dropLast) := by
  rcases List.eq_nil_or_concat l with rfl | ⟨r, x, rfl⟩
  · refine ⟨by rfl, fun h => by cases h⟩
  · by_cases h : x = c
    · subst h; simp [hasSuffix, trimSuffix, List.isSuffixOf, List.isPrefixOf]
    · have h' : ¬ c = x := fun e => h e.symm
      simp [hasSuffix, trimSuffix, List.isSuffixOf, List.isPrefixOf, h, h']
/-! ### how long -/
def wsum (ws : List Tx) : Nat := (ws.map fun w => w.length + 1).sum
theorem wsum_app (a b : List Tx) : wsum (a ++ b) = wsum a + wsum b := by simp [wsum]
theorem wdsC_sum : ∀ (r cur : Tx), wsum (wdsC cur r) ≤ cur.length + r.length + 1
  | [], cur => by
    unfold wdsC
    split <;> simp [wsum]
  | x :: r, cur => by
    unfold wdsC
    by_cases hx : x = 32
    · have ih := wdsC_sum r []
      rw [if_pos hx]
      by_cases hc : cur = []
      · simp only [if_pos hc, List.length_nil, List.length_cons] at *
        omega
      · have e : wsum (cur :: wdsC [] r) = cur.length + 1 + wsum (wdsC [] r) := by simp [wsum]
        simp only [if_neg hc, List.length_nil, List.length_cons] at *
        omega
    · have ih := wdsC_sum r (cur ++ [x])
      rw [if_neg hx]
      simp only [List.length_append, List.length_cons, List.length_nil] at *
      omega
theorem wds_sum (l : Tx) : wsum (wds l) ≤ l.length + 1 := by have := wdsC_sum l []; simpa [wds] using this
theorem lastW_mem {ws : List Tx} (h : ws ≠ []) : ws = ws.dropLast ++ [lastW ws] := by
  unfold lastW
  rw [List.getLast?_eq_some_getLast h]
  exact (List.dropLast_concat_getLast h).symm
theorem insW_ok {ws : List Tx} (h : ∀ w ∈ ws, w ≠ [] ∧ ∀ x ∈ w, x ≠ 32) : (∀ w ∈ insW' ws, w ≠ [] ∧ ∀ x ∈ w, x ≠ 32) ∧ (insW' ws).length = ws.length ∧ wsum (insW' ws) ≤ wsum ws := by
  unfold insW'
  by_cases hn : namedW ws = true
  · rw [if_pos hn]
    have hne : ws ≠ [] := by
      rintro rfl
      simp [namedW] at hn
    have hl := lastW_mem hne
    refine ⟨fun w hw => ?_, ?_, ?_⟩
    · rcases List.mem_append.1 hw with hw | hw
      · exact h w (List.dropLast_subset ws hw)
      · rw [List.mem_singleton.1 hw]; exact ⟨by decide, by decide⟩
    · have e := congrArg List.length hl
      simp only [List.length_append, List.length_cons, List.length_nil] at e ⊢
      omega
    · have e := congrArg wsum hl
      rw [wsum_app] at e ⊢
      have e1 : wsum [lastW ws] = (lastW ws).length + 1 := by simp [wsum]
      have e2 : wsum [([48] : Tx)] = 2 := rfl
      have h1 : 1 ≤ (lastW ws).length := by
        have := (h _ (last_mem hne)).1
        cases hq : lastW ws with
        | nil => exact absurd hq this
        | cons _ _ => simp
      omega
  · rw [if_neg hn]
    exact ⟨h, rfl, Nat.le_refl _⟩
theorem join_sum (ws : List Tx) : (join ws [32]).length ≤ wsum ws := lsJoin ws
/-! ### a line, case by case -/
section
variable {s : Sst} {ws : List Tx} {n : Nat}
theorem lineS_word (h : wAt ws 0 = wWord) : lineS s ws n = if ws.length ≠ 2 then .error 3 else match valO (wAt ws 1) with | none => .error 3 | some x => .ok { s with data := s.data ++ [x], sec := s.sec ++ [false] } := by
  unfold lineS
  rw [if_pos (.inl h), h]
  rfl
theorem lineS_secret (h : wAt ws 0 = wSecret) : lineS s ws n = if ws.length ≠ 2 then .error 3 else match valO (wAt ws 1) with | none => .error 3 | some x => .ok { s with data := s.data ++ [x], sec := s.sec ++ [true] } := by
  unfold lineS
  rw [if_pos (.inr h), h]
  rfl
theorem lineS_in (h : wAt ws 0 = wIn) : lineS s ws n = if ws.length ≠ 2 then .error 3 else if numOk (wAt ws 1) = true then .ok { s with inn := s.inn ++ [numV (wAt ws 1)] } else .error 3 := by
  unfold lineS
  rw [if_neg (by rw [h]; decide), if_pos (.inl h), if_pos h]
theorem lineS_out (h : wAt ws 0 = wOut) : lineS s ws n = if ws.length ≠ 2 then .error 3 else if numOk (wAt ws 1) = true then .ok { s with out := s.out ++ [numV (wAt ws 1)] } else .error 3 := by
  unfold lineS
  rw [if_neg (show ¬ (wAt ws 0 = wWord ∨ wAt ws 0 = wSecret) by rw [h]; decide), if_pos (.inr h), if_neg (show ¬ (wAt ws 0 = wIn) by rw [h]; decide)]
/-- An instruction. -/
def insS (s : Sst) (ws : List Tx) : Except Int Sst := if pErr ws ≠ 0 then .error (pErr ws) else .ok { s with ins := s.ins ++ [(pO ws, pF ws 0, pF ws 1, pF ws 2, pF ws 3)] }
theorem lineS_goes (h : goesW (wAt ws 0) = true) : lineS s ws n = match insS s (insW' ws) with
    | .error e => .error e
    | .ok s1 => if namedW ws = true then (if nameB (txt ((lastW ws).drop 1)) = true then .ok { s1 with us := s1.us ++ [(txt ((lastW ws).drop 1), n, s.ins.length)] } else .error 3) else .ok s1 := by
  obtain ⟨⟨h1, h2, h3, h4⟩, h5, -⟩ := goes_plain h
  unfold lineS insS
  rw [if_neg (fun q => q.elim h1 h2), if_neg (fun q => q.elim h3 h4), if_neg (fun q => h5 q.2)]
  by_cases hp : pErr (insW' ws) = 0
  · simp only [if_neg (show ¬ (pErr (insW' ws) ≠ 0) from fun q => q hp)]
    rfl
  · rw [if_pos hp, if_pos hp]
theorem lineS_other (h1 : wAt ws 0 ≠ wWord) (h2 : wAt ws 0 ≠ wSecret) (h3 : wAt ws 0 ≠ wIn) (h4 : wAt ws 0 ≠ wOut) (hg : goesW (wAt ws 0) = false) : lineS s ws n =
    if ws.length = 1 ∧ (wAt ws 0).getLast? = some 58 ∧ nameB (txt (wAt ws 0).dropLast) = true then (if plB s.ds (txt (wAt ws 0).dropLast) = true then .error 9 else .ok { s with ds := defS s.ds (txt (wAt ws 0).dropLast) s.ins.length }) else insS s ws := by
  have hn : namedW ws = false := by unfold namedW; rw [hg]; rfl
  have hi : insW' ws = ws := by unfold insW'; rw [hn]; rfl
  unfold lineS insS
  rw [if_neg (fun q => q.elim h1 h2), if_neg (fun q => q.elim h3 h4), hi]
  by_cases hc : ws.length = 1 ∧ (wAt ws 0).getLast? = some 58
  · rw [if_pos hc]
    by_cases hN : nameB (txt (wAt ws 0).dropLast) = true
    · rw [if_pos (show ws.length = 1 ∧ (wAt ws 0).getLast? = some 58 ∧ nameB (txt (wAt ws 0).dropLast) = true from ⟨hc.1, hc.2, hN⟩)]
      cases hp : plB s.ds (txt (wAt ws 0).dropLast)
      · obtain ⟨e1, e2⟩ := def_yes (ds := s.ds) (s.ins.length : Int) hN hp
        rw [e1]
        simp
      · obtain ⟨e1, e2⟩ := def_twice (ds := s.ds) (s.ins.length : Int) hN hp
        rw [e1]
        simp
    · have hN' : nameB (txt (wAt ws 0).dropLast) = false := by simpa using hN
      obtain ⟨e1, e2⟩ := def_no (ds := s.ds) (s.ins.length : Int) hN'
      rw [e1, if_pos (show (8 : Int) = 8 from rfl), if_neg (show ¬ (ws.length = 1 ∧ (wAt ws 0).getLast? = some 58 ∧ nameB (txt (wAt ws 0).dropLast) = true) from fun q => hN q.2.2)]
      have e : ws = [wAt ws 0] := by
        obtain ⟨u, rfl⟩ := List.length_eq_one_iff.1 hc.1
        rfl
      have hp : pErr ws = 3 := by rw [e]; exact pErr_colon hc.2
      rw [hp, if_pos (by decide)]
  · rw [if_neg hc, if_neg (show ¬ (ws.length = 1 ∧ (wAt ws 0).getLast? = some 58 ∧ nameB (txt (wAt ws 0).dropLast) = true) from fun q => hc ⟨q.1, q.2.1⟩), hn]
    unfold ins5
    rw [hi]
    rfl
end
end

section
open Go.RowKit Go.Lib

abbrev Us := List (ByteArray × Nat × Nat)
def chkQ (q : Q5) : Int := cChk q.1 q.2.1 q.2.2.1 q.2.2.2.1 q.2.2.2.2
def setN (tn : Int) (q : Q5) : Q5 := (q.1, q.2.1, q.2.2.1, q.2.2.2.1, tn)
theorem encQ_back {q : Q5} (h : chkQ q = 0) : cO (encQ q) = q.1 ∧ cG (encQ q) 0 = q.2.1 ∧ cG (encQ q) 1 = q.2.2.1 ∧ cG (encQ q) 2 = q.2.2.2.1 ∧ cErr (encQ q) = 0 := by
  unfold chkQ at h
  have e : encQ q = cWord q.1 q.2.1 q.2.2.1 q.2.2.2.1 q.2.2.2.2 := by unfold encQ cEnc; rw [if_pos h]
  obtain ⟨h0, h1, h2, h3, h4, h5⟩ := word_back h
  rw [e]
  unfold cO cG
  rw [h0]
  exact ⟨h5, h1, h2, h3, rfl⟩
theorem encQ_bd (q : Q5) : 0 ≤ encQ q ∧ encQ q < 4294967296 := by
  unfold encQ cEnc
  split
  · rename_i h
    have hb := bits_sum (chk_op h) q.2.1 q.2.2.1 q.2.2.2.1 q.2.2.2.2
    exact ⟨hb.2.2.2.2.2.2.2.2.2.2.2.2.1, hb.2.2.2.2.2.2.2.2.2.2.2.2.2⟩
  · omega
/-- Each stands at a place of its own, at one that may be. -/
structure OkU (L : List Q5) (us : Us) : Prop where
  ok : ∀ u ∈ us, ∃ q, L[u.2.2]? = some q ∧ chkQ q = 0
  once : (us.map (·.2.2)).Nodup
theorem OkU.nil (L : List Q5) : OkU L [] := ⟨fun _ h => by simp at h, by simp⟩
theorem OkU.next {L : List Q5} {u : ByteArray × Nat × Nat} {us : Us} (h : OkU L (u :: us)) (f : Q5 → Q5) : OkU (L.modify u.2.2 f) us := by
  have ho := h.once
  rw [List.map_cons, List.nodup_cons] at ho
  refine ⟨fun v hv => ?_, ho.2⟩
  obtain ⟨q, h1, h2⟩ := h.ok v (.tail _ hv)
  have hne : u.2.2 ≠ v.2.2 := fun e => ho.1 (e ▸ List.mem_map_of_mem hv)
  exact ⟨q, by rw [List.getElem?_modify, h1]; simp [hne], h2⟩
theorem modify_enc {L : List Q5} {i : Nat} {q : Q5} (h : L[i]? = some q) (f : Q5 → Q5) : (L.modify i f).map encQ = (L.map encQ).set i (encQ (f q)) := by
  apply List.ext_getElem?
  intro j
  rw [List.getElem?_map, List.getElem?_modify, List.getElem?_set, List.getElem?_map]
  by_cases hj : i = j
  · subst hj
    obtain ⟨hl, -⟩ := List.getElem?_eq_some_iff.1 h
    rw [h, if_pos rfl, if_pos (by rw [List.length_map]; exact hl)]
    simp
  · rw [if_neg hj]
    cases L[j]? <;> simp [hj]
theorem fix_cons (ds : Df) (u : ByteArray × Nat × Nat) (us : Us) (L : List Q5) : fixS ds (u :: us) L = if plB ds u.1 = true then fixS ds us (L.modify u.2.2 (setN (plV ds u.1))) else .error u.2.1 := rfl
theorem fix_len (ds : Df) : ∀ (us : Us) (L L' : List Q5), fixS ds us L = .ok L' → L'.length = L.length
  | [], L, L', h => by cases h; rfl
  | u :: us, L, L', h => by
    rw [fix_cons] at h
    split at h
    · rw [fix_len ds us _ _ h, List.length_modify]
    · cases h
/-- What has been read is as it may be. -/
structure OkS (s : Sst) : Prop where
  ins : ∀ q ∈ s.ins, chkQ q = 0
  us : (∀ u ∈ s.us, u.2.2 < s.ins.length) ∧ (s.us.map (·.2.2)).Nodup
  nm : ∀ u ∈ s.us, nameB u.1 = true
theorem OkS.start : OkS sst0 := ⟨fun _ h => by simp [sst0] at h, ⟨fun _ h => by simp [sst0] at h, by simp [sst0]⟩, fun _ h => by simp [sst0] at h⟩
theorem OkS.oku {s : Sst} (h : OkS s) : OkU s.ins s.us := ⟨fun u hu => by
  have hl := h.us.1 u hu
  exact ⟨s.ins[u.2.2], List.getElem?_eq_getElem hl, h.ins _ (List.getElem_mem hl)⟩, h.us.2⟩
theorem pErr_chk {ws : List Tx} (h : pErr ws = 0) : chkQ (pO ws, pF ws 0, pF ws 1, pF ws 2, pF ws 3) = 0 := by
  unfold chkQ pO pF
  simp only [if_pos h]
  unfold pErr at h
  split at h
  · exact h
  · cases h
theorem insS_ok {s s' : Sst} {ws : List Tx} (h : insS s ws = .ok s') : pErr ws = 0 ∧ s' = { s with ins := s.ins ++ [(pO ws, pF ws 0, pF ws 1, pF ws 2, pF ws 3)] } := by
  unfold insS at h
  split at h
  · cases h
  · rename_i q
    cases h
    exact ⟨by false_or_by_contra; rename_i r; exact q r, rfl⟩
theorem OkS.insd {s s' : Sst} {ws : List Tx} (k : OkS s) (h : insS s ws = .ok s') : OkS s' ∧ s'.ins.length = s.ins.length + 1 ∧ s'.us = s.us := by
  obtain ⟨h1, rfl⟩ := insS_ok h
  refine ⟨⟨fun q hq => ?_, ⟨fun u hu => ?_, k.us.2⟩, k.nm⟩, by simp, rfl⟩
  · rcases List.mem_append.1 hq with hq | hq
    · exact k.ins q hq
    · rw [List.mem_singleton.1 hq]; exact pErr_chk h1
  · have := k.us.1 u hu
    show u.2.2 < (s.ins ++ _).length
    rw [List.length_append]; omega
/-- How many there are of each, at most. -/
structure Least (s : Sst) (n : Nat) : Prop where
  ins : s.ins.length ≤ n
  data : s.data.length ≤ n
  sec : s.sec.length ≤ n
  inn : s.inn.length ≤ n
  out : s.out.length ≤ n
  ds : s.ds.length ≤ n
  us : s.us.length ≤ n
theorem Least.start : Least sst0 0 := ⟨Nat.le_refl _, Nat.le_refl _, Nat.le_refl _, Nat.le_refl _, Nat.le_refl _, Nat.le_refl _, Nat.le_refl _⟩
theorem Least.mono {s : Sst} {n m : Nat} (h : Least s n) (k : n ≤ m) : Least s m := ⟨by have := h.ins; omega, by have := h.data; omega, by have := h.sec; omega, by have := h.inn; omega, by have := h.out; omega, by have := h.ds; omega, by have := h.us; omega⟩
theorem line_ok {s s' : Sst} {ws : List Tx} {k n : Nat} (h : lineS s ws k = .ok s') (ho : OkS s) (hl : Least s n) : OkS s' ∧ Least s' (n + 1) := by
  have l1 := hl.ins; have l2 := hl.data; have l3 := hl.sec; have l4 := hl.inn; have l5 := hl.out; have l6 := hl.ds; have l7 := hl.us
  have hins : ∀ {s' : Sst} {v : List Tx}, insS s v = .ok s' → OkS s' ∧ Least s' (n + 1) := fun {s' v} q => by
    have := ho.insd q
    obtain ⟨-, rfl⟩ := insS_ok q
    exact ⟨this.1, ⟨by simp; omega, by simp; omega, by simp; omega, by simp; omega, by simp; omega, by simp; omega, by simp; omega⟩⟩
  by_cases h1 : wAt ws 0 = wWord
  · rw [(lineS_word h1 : lineS s ws k = _)] at h
    split at h
    · cases h
    · split at h
      · cases h
      · cases h
        exact ⟨⟨ho.ins, ho.us, ho.nm⟩, ⟨by simp; omega, by simp; omega, by simp; omega, by simp; omega, by simp; omega, by simp; omega, by simp; omega⟩⟩
  by_cases h2 : wAt ws 0 = wSecret
  · rw [(lineS_secret h2 : lineS s ws k = _)] at h
    split at h
    · cases h
    · split at h
      · cases h
      · cases h
        exact ⟨⟨ho.ins, ho.us, ho.nm⟩, ⟨by simp; omega, by simp; omega, by simp; omega, by simp; omega, by simp; omega, by simp; omega, by simp; omega⟩⟩
  by_cases h3 : wAt ws 0 = wIn
  · rw [lineS_in h3] at h
    split at h
    · cases h
    · split at h
      · cases h
        exact ⟨⟨ho.ins, ho.us, ho.nm⟩, ⟨by simp; omega, by simp; omega, by simp; omega, by simp; omega, by simp; omega, by simp; omega, by simp; omega⟩⟩
      · cases h
  by_cases h4 : wAt ws 0 = wOut
  · rw [lineS_out h4] at h
    split at h
    · cases h
    · split at h
      · cases h
        exact ⟨⟨ho.ins, ho.us, ho.nm⟩, ⟨by simp; omega, by simp; omega, by simp; omega, by simp; omega, by simp; omega, by simp; omega, by simp; omega⟩⟩
      · cases h
  cases hg : goesW (wAt ws 0)
  · rw [lineS_other h1 h2 h3 h4 hg] at h
    split at h
    · split at h
      · cases h
      · cases h
        have := defS_len s.ds (txt (wAt ws 0).dropLast) s.ins.length
        exact ⟨⟨ho.ins, ho.us, ho.nm⟩, ⟨by simp; omega, by simp; omega, by simp; omega, by simp; omega, by simp; omega, by simp only; omega, by simp; omega⟩⟩
    · exact hins h
  · rw [lineS_goes hg] at h
    cases hq : insS s (insW' ws) with
    | error e => rw [hq] at h; cases h
    | ok s1 =>
      rw [hq] at h
      simp only at h
      have q1 := hins hq
      have q2 := ho.insd hq
      by_cases hn : namedW ws = true
      · rw [if_pos hn] at h
        split at h
        · rename_i hnb
          cases h
          refine ⟨⟨q1.1.ins, ⟨fun u hu => ?_, ?_⟩, fun u hu => ?_⟩, ⟨q1.2.ins, q1.2.data, q1.2.sec, q1.2.inn, q1.2.out, q1.2.ds, ?_⟩⟩
          · rcases List.mem_append.1 hu with hu | hu
            · exact q1.1.us.1 u hu
            · rw [List.mem_singleton.1 hu]
              show s.ins.length < s1.ins.length
              rw [q2.2.1]; omega
          · show ((s1.us ++ [_]).map _).Nodup
            rw [List.map_append, List.nodup_append]
            refine ⟨q1.1.us.2, by simp, fun a ha b hb => ?_⟩
            simp at hb
            subst hb
            rw [q2.2.2] at ha
            obtain ⟨u, hu, rfl⟩ := List.mem_map.1 ha
            have := ho.us.1 u hu
            omega
          · rcases List.mem_append.1 hu with hu | hu
            · exact q1.1.nm u hu
            · rw [List.mem_singleton.1 hu]; exact hnb
          · show (s1.us ++ [_]).length ≤ _
            rw [List.length_append, q2.2.2]; simp; omega
        · cases h
      · rw [if_neg hn] at h
        cases h
        exact q1
end

section
open Go.RowKit Go.Lib

theorem index_is (c : UInt8) : ∀ l : Tx, (indexByte l c = -1 ∧ c ∉ l) ∨ ∃ (a b : Tx), l = a ++ c :: b ∧ c ∉ a ∧ indexByte l c = (a.length : Int)
  | [] => .inl ⟨rfl, by simp⟩
  | x :: l => by
    rw [indexByte]
    by_cases hx : x = c
    · subst hx
      exact .inr ⟨[], l, rfl, by simp, by simp⟩
    · have hb : (x == c) = false := beq_eq_false_iff_ne.2 hx
      rw [hb]
      rcases index_is c l with ⟨h1, h2⟩ | ⟨a, b, rfl, h2, h3⟩
      · rw [h1]
        exact .inl ⟨rfl, by simp only [List.mem_cons, not_or]; exact ⟨fun e => hx e.symm, h2⟩⟩
      · refine .inr ⟨x :: a, b, rfl, by simp only [List.mem_cons, not_or]; exact ⟨fun e => hx e.symm, h2⟩, ?_⟩
        rw [h3]
        have hne : (((a.length : Int)) == -1) = false := beq_eq_false_iff_ne.2 (by omega)
        rw [hne]
        simp
/-- The first line and what is left. -/
theorem cut_line {l : Tx} (h : l ≠ []) : ∃ (a b : Tx), cutA (txt l) 10 = txt a ∧ cutB (txt l) 10 = txt b ∧ lns l = a :: lns b ∧ a.length + b.length ≤ l.length ∧ b.length < l.length := by
  unfold cutA cutB
  rw [txt_list]
  rcases index_is 10 l with ⟨h1, h2⟩ | ⟨a, b, rfl, h2, h3⟩
  · rw [h1, if_pos (by decide), if_pos (by decide)]
    refine ⟨l, [], rfl, rfl, ?_, by simp, ?_⟩
    · have := linC_run l [] [] fun x hx e => h2 (e ▸ hx)
      rw [List.append_nil] at this
      unfold lns
      rw [this, List.nil_append]
      unfold linC
      rw [if_neg h, if_pos rfl]
    · cases l with
      | nil => exact absurd rfl h
      | cons _ _ => simp
  · rw [h3, if_neg (by omega), if_neg (by omega)]
    refine ⟨a, b, ?_, ?_, lns_line fun x hx e => h2 (e ▸ hx), by simp, by simp; omega⟩
    · rw [Int.toNat_natCast, List.take_left]; rfl
    · rw [Int.toNat_natCast, show a ++ 10 :: b = (a ++ [10]) ++ b by simp, show a.length + 1 = (a ++ [(10 : UInt8)]).length by simp, List.drop_left]; rfl
theorem lns_nil : lns [] = [] := rfl
end

end Go.Proofs.YtekhgidbnpfmnaaGreatDoor
