/- The walk of the law QuatUnits: it returns true and writes nothing that was there. -/
import Derived.Test.YtdphiobmjdiefaaQuatK
import Derived.RegionTactic
namespace Go.Proofs.Ytdphiobmjdiefaa.quatUnits
open Go.RowKit Go.ChangeShapes Go.OpenShut

theorem units_of {p0 p1 p2 p3 : Int} (n1 : 536870912 ≤ wNrm p0 p1 p2 p3) (n2 : wNrm p0 p1 p2 p3 ≤ 2146435072) (f u : Nat → Int) (hf : f = pt p0 p1 p2 p3)
    (hu : u = pt (wU p0 p1 p2 p3 p0) (wU p0 p1 p2 p3 p1) (wU p0 p1 p2 p3 p2) (wU p0 p1 p2 p3 p3)) :
    (∀ k, -1342177280 ≤ u k ∧ u k ≤ 1342177280) ∧ (-68719476736 < u 0 * u 0 + u 1 * u 1 + u 2 * u 2 + u 3 * u 3 - 1152921504606846976 ∧ u 0 * u 0 + u 1 * u 1 + u 2 * u 2 + u 3 * u 3 - 1152921504606846976 < 68719476736)
      ∧ (∀ i k, -8589934592 < u i * f k - u k * f i ∧ u i * f k - u k * f i < 8589934592) := by
  obtain ⟨z, h, hz, hh, hs, hb, hx⟩ := unit_true n1 n2
  have e : ∀ v, wU p0 p1 p2 p3 v = wScale v z h := fun v => by unfold wU; rw [hz, hh]
  have m : ∀ k, f k = p0 ∨ f k = p1 ∨ f k = p2 ∨ f k = p3 := by
    intro k
    rw [hf]; unfold pt
    split
    · exact .inl rfl
    · split
      · exact .inr (.inl rfl)
      · split
        · exact .inr (.inr (.inl rfl))
        · exact .inr (.inr (.inr rfl))
  have g : ∀ k, u k = wScale (f k) z h := by
    intro k
    rw [hu, hf]; unfold pt
    rw [e, e, e, e]
    split
    · rfl
    · split
      · rfl
      · split <;> rfl
  have f0 : f 0 = p0 := by rw [hf]; rfl
  have f1 : f 1 = p1 := by rw [hf]; rfl
  have f2 : f 2 = p2 := by rw [hf]; rfl
  have f3 : f 3 = p3 := by rw [hf]; rfl
  refine ⟨fun k => by rw [g]; exact hb _ (m k), by rw [g 0, g 1, g 2, g 3, f0, f1, f2, f3]; exact hs, fun i k => by rw [g i, g k]; exact hx _ _ (m i) (m k)⟩

set_option maxHeartbeats 4000000 in
theorem walk (p0 p1 p2 p3 : Int) (fp0 : (Lit.int .i32 p0).wf = true) (fp1 : (Lit.int .i32 p1).wf = true) (fp2 : (Lit.int .i32 p2).wf = true) (fp3 : (Lit.int .i32 p3).wf = true) (w : World) :
    Calls Try.prog 3 #[.agg #[.int .i32 p0, .int .i32 p1, .int .i32 p2, .int .i32 p3]] w fun e w' => e = .returned (.bool true) ∧ Below w.heap.size w w' := by
  have hp : Wd4 p0 p1 p2 p3 := ⟨bounds_i32 fp0, bounds_i32 fp1, bounds_i32 fp2, bounds_i32 fp3⟩
  have pb := pt_bd hp
  clear fp0 fp1 fp2 fp3
  obtain ⟨W, hW⟩ : ∃ W, w.alloc (.cells #[.int .i32 p0, .int .i32 p1, .int .i32 p2, .int .i32 p3] 23) = W := ⟨_, rfl⟩
  have hbW : Below w.heap.size w W := by rw [← hW]; exact (Below.refl _ _).alloc (Nat.le_refl _) _
  have z0 : w.heap.size < W.heap.size := by rw [← hW]; simp
  have hc : FourAt W w.heap.size (pt p0 p1 p2 p3) := by rw [← hW]; exact FourAt.new w p0 p1 p2 p3 _
  have HW := Lib.hid hW
  have HC := Lib.hid hc
  have PB := Lib.hid pb
  have HK : ∀ w', Below W.heap.size W w' → (w'.cell? ⟨w.heap.size, 0, none⟩ = some (.int .i32 p0) ∧ w'.cell? ⟨w.heap.size, 1, none⟩ = some (.int .i32 p1) ∧ w'.cell? ⟨w.heap.size, 2, none⟩ = some (.int .i32 p2) ∧ w'.cell? ⟨w.heap.size, 3, none⟩ = some (.int .i32 p3)) :=
    fun w' h => ⟨(h.cell (p := ⟨w.heap.size, 0, none⟩) z0).trans (hc.c 0 (by decide)), (h.cell (p := ⟨w.heap.size, 1, none⟩) z0).trans (hc.c 1 (by decide)), (h.cell (p := ⟨w.heap.size, 2, none⟩) z0).trans (hc.c 2 (by decide)), (h.cell (p := ⟨w.heap.size, 3, none⟩) z0).trans (hc.c 3 (by decide))⟩
  have HKK := Lib.hid HK
  clear hW hc pb HK
  obtain ⟨n, hn⟩ : ∃ n, wNrm p0 p1 p2 p3 = n := ⟨_, rfl⟩
  have HN := Lib.hid hn
  rcases (show n < 536870912 ∨ (¬ n < 536870912 ∧ 2146435072 < n) ∨ (¬ n < 536870912 ∧ ¬ 2146435072 < n) by omega) with h | ⟨h, h'⟩ | ⟨h, h'⟩
  rotate_left 2
  · obtain ⟨f, hf⟩ : ∃ f, f = pt p0 p1 p2 p3 := ⟨_, rfl⟩
    obtain ⟨u, hu⟩ : ∃ u, u = pt (wU p0 p1 p2 p3 p0) (wU p0 p1 p2 p3 p1) (wU p0 p1 p2 p3 p2) (wU p0 p1 p2 p3 p3) := ⟨_, rfl⟩
    obtain ⟨ub, us, ux⟩ := units_of (p0 := p0) (p1 := p1) (p2 := p2) (p3 := p3) (by omega) (by omega) f u hf hu
    have u0 : wU p0 p1 p2 p3 p0 = u 0 := by rw [hu]; rfl
    have u1 : wU p0 p1 p2 p3 p1 = u 1 := by rw [hu]; rfl
    have u2 : wU p0 p1 p2 p3 p2 = u 2 := by rw [hu]; rfl
    have u3 : wU p0 p1 p2 p3 p3 = u 3 := by rw [hu]; rfl
    have eu : ∀ k, k < 4 → pt (u 0) (u 1) (u 2) (u 3) k = u k := by
      intro k hk
      match k, hk with
      | 0, _ => rfl
      | 1, _ => rfl
      | 2, _ => rfl
      | 3, _ => rfl
    have ub' : ∀ k, -1342177280 ≤ pt (u 0) (u 1) (u 2) (u 3) k ∧ pt (u 0) (u 1) (u 2) (u 3) k ≤ 1342177280 := by
      intro k; unfold pt
      split
      · exact ub 0
      · split
        · exact ub 1
        · split
          · exact ub 2
          · exact ub 3
    rw [← hf] at HC PB
    have HU := Lib.hid (show wU p0 p1 p2 p3 p0 = u 0 ∧ wU p0 p1 p2 p3 p1 = u 1 ∧ wU p0 p1 p2 p3 p2 = u 2 ∧ wU p0 p1 p2 p3 p3 = u 3 from ⟨u0, u1, u2, u3⟩)
    have UB := Lib.hid ub
    have UB' := Lib.hid ub'
    have US := Lib.hid us
    have UX := Lib.hid ux
    have EU := Lib.hid eu
    clear hn hf hu u0 u1 u2 u3 ub us ux eu ub'
    go_enter Try.func3, Try.ntmps3
    go_wp2_with fail
    rw [HW.out]
    refine (norm_v p0 p1 p2 p3 n _ hp HN.out).mono ?_
    rintro e w1 ⟨rfl, hb1⟩
    have k1 := HKK.out _ hb1
    obtain ⟨q0, q1, q2, q3⟩ := k1
    go_wp2_with (go_at_call 8; refine (unit_v p0 p1 p2 p3 (u 0) (u 1) (u 2) (u 3) _ hp HU.out.1 HU.out.2.1 HU.out.2.2.1 HU.out.2.2.2).mono ?_; rintro e w2 ⟨rfl, hb2⟩)
    clear q0 q1 q2 q3
    have hb12 := hb1.trans (hb2.mono hb1.size)
    obtain ⟨V, hV⟩ : ∃ V, w2.alloc (.cells #[.int .i32 (u 0), .int .i32 (u 1), .int .i32 (u 2), .int .i32 (u 3)] 23) = V := ⟨_, rfl⟩
    have hbV : Below W.heap.size W V := by rw [← hV]; exact hb12.alloc hb12.size _
    have zV : w2.heap.size < V.heap.size := by rw [← hV]; simp
    have hu : FourAt V w2.heap.size (pt (u 0) (u 1) (u 2) (u 3)) := by rw [← hV]; exact FourAt.new w2 _ _ _ _ _
    rw [hV]
    refine (refIs_true (u 0) (u 1) (u 2) (u 3) _ UB'.out US.out.1 US.out.2).mono ?_
    rintro e w3 ⟨rfl, hb3⟩
    have hb23 := hbV.trans (hb3.mono hbV.size)
    have hf3 := HC.out.keep hb23 z0
    have hu3 := hu.keep hb3 zV
    have hbw := hbW.trans (hb23.mono (Nat.le_of_lt z0))
    have HF3 := Lib.hid hf3
    have HU3 := Lib.hid hu3
    clear hV hu hb1 hb2 hb12 hbV hb3 hf3 hu3
    generalize w2.heap.size = gu at *
    go_wp2
    go_loopw [5] (fun i wr => ∃ k d : Nat, k ≤ 4 ∧ i = .int .i64 k ∧ wr = w3.drewN d) (fun i _ => 4 - (intOf i).toNat)
    case atStart => exact ⟨0, 0, by omega, rfl, rfl⟩
    case round =>
      obtain ⟨i, d, hi, rfl, rfl⟩ := hrel
      by_cases hlt : i < 4
      · have hlt' : (i : Int) < 4 := by omega
        have bi := PB.out i
        have ai := UB.out i
        have ui := HU3.out.c i hlt
        rw [EU.out i hlt] at ui
        have fi := HF3.out.c i hlt
        have UI := Lib.hid ui
        have FI := Lib.hid fi
        clear ui fi
        go_wp2
        go_loopw [6] (fun j wr => ∃ k d : Nat, k ≤ i ∧ j = .int .i64 k ∧ wr = w3.drewN d) (fun j _ => i - (intOf j).toNat)
        case atStart => exact ⟨0, d, by omega, rfl, rfl⟩
        case round =>
          obtain ⟨k, d', hk, rfl, rfl⟩ := hrel
          by_cases hlk : k < i
          · have hlk' : (k : Int) < i := by omega
            have hk4 : (k : Int) < 4 := by omega
            have bk := PB.out k
            have ak := UB.out k
            have xk := UX.out i k
            have uk := HU3.out.c k (by omega)
            rw [EU.out k (by omega)] at uk
            have fk := HF3.out.c k (by omega)
            have r1 := abs_mul (a := u i) (b := f k) (A := 1342177280) (B := 2147483648) ai.1 ai.2 (by omega) (by omega)
            have r2 := abs_mul (a := u k) (b := f i) (A := 1342177280) (B := 2147483648) ak.1 ak.2 (by omega) (by omega)
            have g1 : (w3.drewN d').cell? ⟨gu, i, none⟩ = some (.int .i32 (u i)) := UI.out
            have g2 : (w3.drewN d').cell? ⟨gu, k, none⟩ = some (.int .i32 (u k)) := uk
            have g3 : (w3.drewN d').cell? ⟨w.heap.size, i, none⟩ = some (.int .i32 (f i)) := FI.out
            have g4 : (w3.drewN d').cell? ⟨w.heap.size, k, none⟩ = some (.int .i32 (f k)) := fk
            clear uk fk
            generalize hX : w3.drewN d' = X at g1 g2 g3 g4 ⊢
            have HX := Lib.hid hX
            clear hX
            generalize u i = ya at *
            generalize f i = yb at *
            generalize u k = yc at *
            generalize f k = yd at *
            go_wp2
            go_region
            go_wp2
            go_roundw
            case rel => exact ⟨k + 1, d' + 1, by omega, by go_num, by rw [← HX.out]; rfl⟩
            case measure => simp [intOf]; omega
          · obtain rfl : k = i := by omega
            go_wp2
            go_roundw
            case rel => exact ⟨k + 1, d', by omega, by go_num, rfl⟩
            case measure => simp [intOf]; omega
      · obtain rfl : i = 4 := by omega
        go_wp2_with (go_at_call 7; refine (quatAwake_is _).mono ?_; rintro e w4 ⟨rfl, hb4⟩)
        go_ret
        exact ⟨rfl, (below_drewN hbw d).trans (hb4.mono (below_drewN hbw d).size)⟩
  all_goals
    clear hn
    go_enter Try.func3, Try.ntmps3
    go_wp2_with fail
    rw [HW.out]
    refine (norm_v p0 p1 p2 p3 n _ hp HN.out).mono ?_
    rintro e w1 ⟨rfl, hb1⟩
    go_wp2_with (go_at_call 7; refine (quatAwake_is _).mono ?_; rintro e w2 ⟨rfl, hb2⟩)
    go_ret
    exact ⟨rfl, hbW.trans ((hb1.trans (hb2.mono hb1.size)).mono (Nat.le_of_lt z0))⟩
end Go.Proofs.Ytdphiobmjdiefaa.quatUnits
