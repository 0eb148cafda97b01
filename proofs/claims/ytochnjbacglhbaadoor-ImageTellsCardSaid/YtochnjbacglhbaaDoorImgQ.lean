/- Programs read by a reader that keeps its first fault: what it comes to, against the readers of ImgP. Nothing of any program. -/
import Derived.Test.YtochnjbacglhbaaDoorImgP
namespace Go.Proofs.YtochnjbacglhbaaDoor
open Go.RowKit

/-- What is left, and the first fault. -/
abbrev Rs := List Int × Int
def numS (k : Nat) (s : Rs) : Int × Rs := if s.2 ≠ 0 then (0, s) else if s.1.length < k then (0, (s.1, 4)) else (beV (s.1.take k), (s.1.drop k, 0))
def mustS (h : Bool) (x : Int) (s : Rs) : Rs := if s.2 = 0 ∧ h = false then (s.1, x) else s
def numsS (k : Nat) : Nat → Rs → List Int → List Int × Rs
  | 0, s, acc => (acc, s)
  | n + 1, s, acc => if s.2 ≠ 0 then (acc, s) else numsS k n (numS k s).2 (acc ++ [(numS k s).1])
/-- One word of data and whether it is secret. -/
def datumS (s : Rs) : (Int × Bool) × Rs :=
  ((wrap32 (numS 4 s).1, decide ((numS 1 (numS 4 s).2).1 = 1)), mustS (decide ((numS 1 (numS 4 s).2).1 < 2)) 3 (numS 1 (numS 4 s).2).2)
def dataS : Nat → Rs → List (Int × Bool) → List (Int × Bool) × Rs
  | 0, s, acc => (acc, s)
  | n + 1, s, acc => if s.2 ≠ 0 then (acc, s) else dataS n (datumS s).2 (acc ++ [(datumS s).1])
/-- What a reader's state is to a reading: its fault, or what is read and left. -/
def Tells {α : Type} (r : Except Int (α × List Int)) (v : α) (s : Rs) : Prop := match r with
  | .error e => e ≠ 0 ∧ s.2 = e
  | .ok (w, l) => w = v ∧ s = (l, 0)
theorem numS_tells (k : Nat) (l : List Int) : Tells (pNum k l) (numS k (l, 0)).1 (numS k (l, 0)).2 := by
  unfold Tells pNum numS
  by_cases h : l.length < k
  · simp [h]
  · simp [h]
theorem numS_bad {k : Nat} {s : Rs} (h : s.2 ≠ 0) : numS k s = (0, s) := by unfold numS; rw [if_pos h]
theorem mustS_bad {b : Bool} {x : Int} {s : Rs} (h : s.2 ≠ 0) : mustS b x s = s := by unfold mustS; rw [if_neg fun q => h q.1]
theorem numsS_bad {k n : Nat} {s : Rs} {acc : List Int} (h : s.2 ≠ 0) : numsS k n s acc = (acc, s) := by cases n; rfl; unfold numsS; rw [if_pos h]
theorem dataS_bad {n : Nat} {s : Rs} {acc : List (Int × Bool)} (h : s.2 ≠ 0) : dataS n s acc = (acc, s) := by cases n; rfl; unfold dataS; rw [if_pos h]
theorem mustS_tells (b : Bool) (x : Int) (hx : x ≠ 0) (l : List Int) : Tells (pMust b x l) () (mustS b x (l, 0)) := by
  unfold Tells pMust mustS
  cases b <;> simp [hx]
theorem numsS_tells (k : Nat) : ∀ (n : Nat) (l acc : List Int), match pMany (pNum k) n l with
    | .error e => e ≠ 0 ∧ (numsS k n (l, 0) acc).2.2 = e
    | .ok (w, r) => numsS k n (l, 0) acc = (acc ++ w, (r, 0))
  | 0, l, acc => by show numsS k 0 (l, 0) acc = (acc ++ [], (l, 0)); rw [List.append_nil]; rfl
  | n + 1, l, acc => by
    have h := numS_tells k l
    have e0 : numsS k (n + 1) (l, 0) acc = numsS k n (numS k (l, 0)).2 (acc ++ [(numS k (l, 0)).1]) := by
      show (if ((l, (0 : Int)) : Rs).2 ≠ 0 then _ else _) = _
      rw [if_neg (by simp)]
    rw [e0]
    show match pBind (pNum k) (fun v => pBind (pMany (pNum k) n) fun vs => pRet (v :: vs)) l with | .error e => _ | .ok (w, r) => _
    cases hp : pNum k l with
    | error e =>
      rw [hp] at h
      rw [pBind_err hp]
      obtain ⟨h1, h2⟩ := h
      refine ⟨h1, ?_⟩
      rw [numsS_bad (by rw [h2]; exact h1)]
      exact h2
    | ok q =>
      obtain ⟨v, r⟩ := q
      rw [hp] at h
      obtain ⟨rfl, h2⟩ := h
      rw [pBind_ok hp, h2]
      have ih := numsS_tells k n r (acc ++ [(numS k (l, 0)).1])
      cases hm : pMany (pNum k) n r with
      | error e =>
        rw [hm] at ih
        rw [pBind_err hm]
        exact ih
      | ok q =>
        obtain ⟨w, r'⟩ := q
        rw [hm] at ih
        rw [pBind_ok hm]
        show numsS _ _ _ _ = _
        rw [ih, List.append_assoc]
        rfl
theorem datumS_tells (l : List Int) : Tells (pDatum l) (datumS (l, 0)).1 (datumS (l, 0)).2 := by
  unfold pDatum datumS
  have h := numS_tells 4 l
  cases hp : pNum 4 l with
  | error e =>
    rw [hp] at h
    rw [pBind_err hp]
    obtain ⟨h1, h2⟩ := h
    refine ⟨h1, ?_⟩
    rw [numS_bad (k := 1) (by rw [h2]; exact h1), mustS_bad (by rw [h2]; exact h1)]
    exact h2
  | ok q =>
    obtain ⟨v, r⟩ := q
    rw [hp] at h
    obtain ⟨h1, h2⟩ := h
    rw [pBind_ok hp, h2, ← h1]
    have g := numS_tells 1 r
    cases hq : pNum 1 r with
    | error e =>
      rw [hq] at g
      rw [pBind_err hq]
      obtain ⟨g1, g2⟩ := g
      refine ⟨g1, ?_⟩
      rw [mustS_bad (by rw [g2]; exact g1)]
      exact g2
    | ok q =>
      obtain ⟨s, r2⟩ := q
      rw [hq] at g
      obtain ⟨g1, g2⟩ := g
      rw [pBind_ok hq, g2, ← g1]
      have f := mustS_tells (decide (s < 2)) 3 (by decide) r2
      cases hr : pMust (decide (s < 2)) 3 r2 with
      | error e =>
        rw [hr] at f
        rw [pBind_err hr]
        exact f
      | ok q =>
        obtain ⟨u, r3⟩ := q
        rw [hr] at f
        rw [pBind_ok hr]
        exact ⟨rfl, f.2⟩
theorem dataS_tells : ∀ (n : Nat) (l : List Int) (acc : List (Int × Bool)), match pMany pDatum n l with
    | .error e => e ≠ 0 ∧ (dataS n (l, 0) acc).2.2 = e
    | .ok (w, r) => dataS n (l, 0) acc = (acc ++ w, (r, 0))
  | 0, l, acc => by show dataS 0 (l, 0) acc = (acc ++ [], (l, 0)); rw [List.append_nil]; rfl
  | n + 1, l, acc => by
    have h := datumS_tells l
    have e0 : dataS (n + 1) (l, 0) acc = dataS n (datumS (l, 0)).2 (acc ++ [(datumS (l, 0)).1]) := by
      show (if ((l, (0 : Int)) : Rs).2 ≠ 0 then _ else _) = _
      rw [if_neg (by simp)]
    rw [e0]
    show match pBind pDatum (fun v => pBind (pMany pDatum n) fun vs => pRet (v :: vs)) l with | .error e => _ | .ok (w, r) => _
    cases hp : pDatum l with
    | error e =>
      rw [hp] at h
      rw [pBind_err hp]
      obtain ⟨h1, h2⟩ := h
      refine ⟨h1, ?_⟩
      rw [dataS_bad (by rw [h2]; exact h1)]
      exact h2
    | ok q =>
      obtain ⟨v, r⟩ := q
      rw [hp] at h
      obtain ⟨rfl, h2⟩ := h
      rw [pBind_ok hp, h2]
      have ih := dataS_tells n r (acc ++ [(datumS (l, 0)).1])
      cases hm : pMany pDatum n r with
      | error e =>
        rw [hm] at ih
        rw [pBind_err hm]
        exact ih
      | ok q =>
        obtain ⟨w, r'⟩ := q
        rw [hm] at ih
        rw [pBind_ok hm]
        show dataS _ _ _ = _
        rw [ih, List.append_assoc]
        rfl
/-- The whole: state by state. -/
def s1 (l : List Int) : Rs := mustS (decide ((numS 4 (l, 0)).1 = 1095980081)) 3 (numS 4 (l, 0)).2
def s2 (l : List Int) : Int × Rs := numS 2 (s1 l)
def s3 (l : List Int) : List Int × Rs := numsS 4 (s2 l).1.toNat (s2 l).2 []
def s4 (l : List Int) : Int × Rs := numS 2 (s3 l).2
def s5 (l : List Int) : List (Int × Bool) × Rs := dataS (s4 l).1.toNat (s4 l).2 []
def s6 (l : List Int) : Int × Rs := numS 1 (s5 l).2
def s7 (l : List Int) : List Int × Rs := numsS 2 (s6 l).1.toNat (s6 l).2 []
def s8 (l : List Int) : Int × Rs := numS 1 (s7 l).2
def s9 (l : List Int) : List Int × Rs := numsS 2 (s8 l).1.toNat (s8 l).2 []
def imgS (l : List Int) : Img := ⟨(s3 l).1, (s5 l).1.map (·.1), (s5 l).1.map (·.2), (s7 l).1, (s9 l).1⟩
def s10 (l : List Int) : Rs := mustS (decide ((s9 l).2.1.length = 0)) 5 (s9 l).2
def errS (l : List Int) : Int := if (s10 l).2 ≠ 0 then (s10 l).2 else chkI (imgS l)
theorem s3_bad {l : List Int} (h : (s2 l).2.2 ≠ 0) : (s3 l).2 = (s2 l).2 := by unfold s3; rw [numsS_bad h]
theorem s5_bad {l : List Int} (h : (s4 l).2.2 ≠ 0) : (s5 l).2 = (s4 l).2 := by unfold s5; rw [dataS_bad h]
theorem s7_bad {l : List Int} (h : (s6 l).2.2 ≠ 0) : (s7 l).2 = (s6 l).2 := by unfold s7; rw [numsS_bad h]
theorem s9_bad {l : List Int} (h : (s8 l).2.2 ≠ 0) : (s9 l).2 = (s8 l).2 := by unfold s9; rw [numsS_bad h]
theorem err10 {l : List Int} {e : Int} (h : e ≠ 0) (q : (s9 l).2.2 = e) : errS l = e := by
  have : s10 l = (s9 l).2 := by unfold s10; rw [mustS_bad (by rw [q]; exact h)]
  unfold errS
  rw [this, q, if_pos h]
theorem err8 {l : List Int} {e : Int} (h : e ≠ 0) (q : (s8 l).2.2 = e) : errS l = e := err10 h (by rw [s9_bad (by rw [q]; exact h)]; exact q)
theorem err7 {l : List Int} {e : Int} (h : e ≠ 0) (q : (s7 l).2.2 = e) : errS l = e := err8 h (by unfold s8; rw [numS_bad (by rw [q]; exact h)]; exact q)
theorem err6 {l : List Int} {e : Int} (h : e ≠ 0) (q : (s6 l).2.2 = e) : errS l = e := err7 h (by rw [s7_bad (by rw [q]; exact h)]; exact q)
theorem err5 {l : List Int} {e : Int} (h : e ≠ 0) (q : (s5 l).2.2 = e) : errS l = e := err6 h (by unfold s6; rw [numS_bad (by rw [q]; exact h)]; exact q)
theorem err4 {l : List Int} {e : Int} (h : e ≠ 0) (q : (s4 l).2.2 = e) : errS l = e := err5 h (by rw [s5_bad (by rw [q]; exact h)]; exact q)
theorem err3 {l : List Int} {e : Int} (h : e ≠ 0) (q : (s3 l).2.2 = e) : errS l = e := err4 h (by unfold s4; rw [numS_bad (by rw [q]; exact h)]; exact q)
theorem err2 {l : List Int} {e : Int} (h : e ≠ 0) (q : (s2 l).2.2 = e) : errS l = e := err3 h (by rw [s3_bad (by rw [q]; exact h)]; exact q)
theorem err1 {l : List Int} {e : Int} (h : e ≠ 0) (q : (s1 l).2 = e) : errS l = e := err2 h (by unfold s2; rw [numS_bad (by rw [q]; exact h)]; exact q)
theorem body_is (l : List Int) : match pBody l with
    | .error e => e ≠ 0 ∧ errS l = e
    | .ok (m, r) => imgS l = m ∧ (s9 l).2 = (r, 0) := by
  unfold pBody
  have h0 := numS_tells 4 l
  cases q0 : pNum 4 l with
  | error e =>
    rw [q0] at h0
    rw [pBind_err q0]
    exact ⟨h0.1, err1 h0.1 (by unfold s1; rw [mustS_bad (by rw [h0.2]; exact h0.1)]; exact h0.2)⟩
  | ok z =>
    obtain ⟨x0, r0⟩ := z
    rw [q0] at h0
    obtain ⟨h0, g0⟩ := h0
    rw [pBind_ok q0]
    have h1 := mustS_tells (decide (x0 = 1095980081)) 3 (by decide) r0
    have e1 : s1 l = mustS (decide (x0 = 1095980081)) 3 (r0, 0) := by unfold s1; rw [← h0, g0]
    cases q1 : pMust (decide (x0 = 1095980081)) 3 r0 with
    | error e =>
      rw [q1] at h1
      rw [pBind_err q1]
      exact ⟨h1.1, err1 h1.1 (by rw [e1]; exact h1.2)⟩
    | ok z =>
      obtain ⟨u1, r1⟩ := z
      rw [q1] at h1
      rw [pBind_ok q1]
      have g1 : s1 l = (r1, 0) := e1.trans h1.2
      have e2 : s2 l = numS 2 (r1, 0) := by unfold s2; rw [g1]
      have h2 := numS_tells 2 r1
      rw [← e2] at h2
      cases q2 : pNum 2 r1 with
      | error e =>
        rw [q2] at h2
        rw [pBind_err q2]
        exact ⟨h2.1, err2 h2.1 h2.2⟩
      | ok z =>
        obtain ⟨n, r2⟩ := z
        rw [q2] at h2
        obtain ⟨f2, g2⟩ := h2
        rw [pBind_ok q2]
        have e3 : s3 l = numsS 4 n.toNat (r2, 0) [] := by unfold s3; rw [← f2, g2]
        have h3 := numsS_tells 4 n.toNat r2 []
        rw [← e3] at h3
        cases q3 : pMany (pNum 4) n.toNat r2 with
        | error e =>
          rw [q3] at h3
          rw [pBind_err q3]
          exact ⟨h3.1, err3 h3.1 h3.2⟩
        | ok z =>
          obtain ⟨code, r3⟩ := z
          rw [q3] at h3
          have g3 : (s3 l).2 = (r3, 0) := by rw [h3]
          have f3 : (s3 l).1 = code := by rw [h3]; rfl
          rw [pBind_ok q3]
          have e4 : s4 l = numS 2 (r3, 0) := by unfold s4; rw [g3]
          have h4 := numS_tells 2 r3
          rw [← e4] at h4
          cases q4 : pNum 2 r3 with
          | error e =>
            rw [q4] at h4
            rw [pBind_err q4]
            exact ⟨h4.1, err4 h4.1 h4.2⟩
          | ok z =>
            obtain ⟨d, r4⟩ := z
            rw [q4] at h4
            obtain ⟨f4, g4⟩ := h4
            rw [pBind_ok q4]
            have e5 : s5 l = dataS d.toNat (r4, 0) [] := by unfold s5; rw [← f4, g4]
            have h5 := dataS_tells d.toNat r4 []
            rw [← e5] at h5
            cases q5 : pMany pDatum d.toNat r4 with
            | error e =>
              rw [q5] at h5
              rw [pBind_err q5]
              exact ⟨h5.1, err5 h5.1 h5.2⟩
            | ok z =>
              obtain ⟨ds, r5⟩ := z
              rw [q5] at h5
              have g5 : (s5 l).2 = (r5, 0) := by rw [h5]
              have f5 : (s5 l).1 = ds := by rw [h5]; rfl
              rw [pBind_ok q5]
              have e6 : s6 l = numS 1 (r5, 0) := by unfold s6; rw [g5]
              have h6 := numS_tells 1 r5
              rw [← e6] at h6
              cases q6 : pNum 1 r5 with
              | error e =>
                rw [q6] at h6
                rw [pBind_err q6]
                exact ⟨h6.1, err6 h6.1 h6.2⟩
              | ok z =>
                obtain ⟨i, r6⟩ := z
                rw [q6] at h6
                obtain ⟨f6, g6⟩ := h6
                rw [pBind_ok q6]
                have e7 : s7 l = numsS 2 i.toNat (r6, 0) [] := by unfold s7; rw [← f6, g6]
                have h7 := numsS_tells 2 i.toNat r6 []
                rw [← e7] at h7
                cases q7 : pMany (pNum 2) i.toNat r6 with
                | error e =>
                  rw [q7] at h7
                  rw [pBind_err q7]
                  exact ⟨h7.1, err7 h7.1 h7.2⟩
                | ok z =>
                  obtain ⟨inn, r7⟩ := z
                  rw [q7] at h7
                  have g7 : (s7 l).2 = (r7, 0) := by rw [h7]
                  have f7 : (s7 l).1 = inn := by rw [h7]; rfl
                  rw [pBind_ok q7]
                  have e8 : s8 l = numS 1 (r7, 0) := by unfold s8; rw [g7]
                  have h8 := numS_tells 1 r7
                  rw [← e8] at h8
                  cases q8 : pNum 1 r7 with
                  | error e =>
                    rw [q8] at h8
                    rw [pBind_err q8]
                    exact ⟨h8.1, err8 h8.1 h8.2⟩
                  | ok z =>
                    obtain ⟨o, r8⟩ := z
                    rw [q8] at h8
                    obtain ⟨f8, g8⟩ := h8
                    rw [pBind_ok q8]
                    have e9 : s9 l = numsS 2 o.toNat (r8, 0) [] := by unfold s9; rw [← f8, g8]
                    have h9 := numsS_tells 2 o.toNat r8 []
                    rw [← e9] at h9
                    cases q9 : pMany (pNum 2) o.toNat r8 with
                    | error e =>
                      rw [q9] at h9
                      rw [pBind_err q9]
                      exact ⟨h9.1, err10 h9.1 h9.2⟩
                    | ok z =>
                      obtain ⟨out, r9⟩ := z
                      rw [q9] at h9
                      have g9 : (s9 l).2 = (r9, 0) := by rw [h9]
                      have f9 : (s9 l).1 = out := by rw [h9]; rfl
                      rw [pBind_ok q9]
                      refine ⟨?_, g9⟩
                      unfold imgS
                      rw [f3, f5, f7, f9]
/-- What the reader comes to is what is read. -/
theorem errS_is (l : List Int) : errS l = (readI l).1 ∧ (errS l = 0 → imgS l = (readI l).2) := by
  suffices h : (∀ e, pBody l = .error e → e ≠ 0 ∧ errS l = e) ∧ ∀ m r, pBody l = .ok (m, r) → imgS l = m ∧ (s9 l).2 = (r, 0) by
    unfold readI
    cases hp : pBody l with
    | error e =>
      obtain ⟨h1, h2⟩ := h.1 e hp
      exact ⟨h2, fun q => absurd (h2.symm.trans q) h1⟩
    | ok q =>
      obtain ⟨m, r⟩ := q
      obtain ⟨h1, h2⟩ := h.2 m r hp
      show errS l = (if r ≠ [] then ((5 : Int), img0) else if chkI m ≠ 0 then (chkI m, img0) else (0, m)).1 ∧ (errS l = 0 → imgS l = (if r ≠ [] then ((5 : Int), img0) else if chkI m ≠ 0 then (chkI m, img0) else (0, m)).2)
      have e10 : s10 l = if r ≠ [] then (r, 5) else (r, 0) := by
        unfold s10 mustS
        rw [h2]
        by_cases hr : r = []
        · subst hr; rfl
        · have : ¬ (r.length = 0) := fun q => hr (List.eq_nil_of_length_eq_zero q)
          simp [hr]
      by_cases hr : r = []
      · rw [if_neg (by simpa using hr)] at e10 ⊢
        have e : errS l = chkI m := by unfold errS; rw [e10, h1]; rfl
        rw [e]
        by_cases hc : chkI m = 0
        · rw [if_neg (by simpa using hc), hc]
          exact ⟨rfl, fun _ => h1⟩
        · rw [if_pos hc]
          exact ⟨rfl, fun q => absurd q hc⟩
      · rw [if_pos hr] at e10 ⊢
        have e : errS l = 5 := by unfold errS; rw [e10]; rfl
        rw [e]
        exact ⟨rfl, fun q => absurd q (by decide)⟩
  have h := body_is l
  constructor
  · intro e q
    rw [q] at h
    exact h
  · intro m r q
    rw [q] at h
    exact h
end Go.Proofs.YtochnjbacglhbaaDoor
