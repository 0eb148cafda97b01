/- The listed tables and errors lie as the program's text has them, wherever a row's condition is met. -/
import Derived.Test.YtekhgidbnpfmnaaGreatDoorCodG
import Derived.Test.YtekhgidbnpfmnaaGreatDoorLinA
import Derived.Stop.LaidErr
namespace Go.Proofs.YtekhgidbnpfmnaaGreatDoor
open Go.RowKit Go.ChangeShapes

/-- An error that the program's start-up lays, wherever it stands in the list. -/
theorem sentinel_in {P : Program} {n nm : String} {text : List UInt8} {W : World} {g : Nat} {ti tp te ts : TypeId} {ms : Array (String × TypeId)} {f : Field}
    (hg : P.globalNamed n = some g) (ht : (P.globals[g]?).map (·.type) = some ti) (hi : P.underlying ti = some (.interface ms)) (hrow : ∀ u, P.typeName? 3 u = some nm → u = tp)
    (hp : P.underlying tp = some (.pointer te)) (he : P.underlying te = some (.struct #[f])) (hft : f.type = ts) (hfo : f.offset = 0) (hs : P.underlying ts = some .string) (hc : P.cellsOf te = 1) (hcs : P.cellsOf ts = 1) :
    ∀ (l : List (String × DataW Unit)), laidMet P l W → (n, .iface nm (.ptr (.agg [.lit (.string text)]))) ∈ l → ∃ q, W.var? P n = some #[.iface tp q]
  | [], _, hm => by cases hm
  | x :: r, h, hm => by
    rcases List.mem_cons.1 hm with e | hm
    · subst e
      obtain ⟨a, _, hv, _⟩ := laid_sentinel h hg ht hi hrow hp he hft hfo hs hc hcs
      exact ⟨_, hv⟩
    · exact sentinel_in hg ht hi hrow hp he hft hfo hs hc hcs r h.tail hm
theorem star_error : "*" ++ "errors.errorString" = "*errors.errorString" := by decide
theorem error_row (u : TypeId) (h : Tryz.prog.typeName? 3 u = some "*errors.errorString") : u = 221 :=
  typeName_ptr_named (nm := "errors.errorString") (by rw [star_error]; kernel_rfl) (by kernel_rfl) (by decide) u (by rw [star_error]; exact h)
theorem error_in {W : World} {l : List (String × DataW Unit)} {n : String} {g : Nat} {text : List UInt8} (h : laidMet Tryz.prog l W) (hg : Tryz.prog.globalNamed n = some g) (ht : (Tryz.prog.globals[g]?).map (·.type) = some 135)
    (hm : (n, .iface "*errors.errorString" (.ptr (.agg [.lit (.string text)]))) ∈ l) : ∃ tp q, W.var? Tryz.prog n = some #[.iface tp q] :=
  ⟨_, sentinel_in hg ht Tryz.underlying135 error_row Tryz.underlying221 Tryz.underlying223 rfl rfl Tryz.underlying9 (by kernel_rfl) (by kernel_rfl) l h hm⟩
theorem lin_laid {W : World} {l : List (String × DataW Unit)} (h : laidMetH Tryz.prog l W) (hp : (l.all fun x => x.2.handleName?.isNone) = true) (m1 : ("astrolabe/ops.shapes", Rows.laid_astrolabe_ops_shapes) ∈ l)
    (m2 : ("internal/strconv.uint64pow10", Rows.laid_internal_strconv_uint64pow10) ∈ l) (m3 : ("strconv.ErrSyntax", Rows.laid_strconv_ErrSyntax) ∈ l) (m4 : ("strconv.ErrRange", Rows.laid_strconv_ErrRange) ∈ l) : LinLaid W := by
  have hs := shapes_laid h hp m1
  rw [MakeChecks.laidMetH_plain _ _ _ hp] at h
  have hg : Tryz.prog.globalNamed "internal/strconv.uint64pow10" = some 2 := by kernel_rfl
  have hf : flat Tryz.prog 5 204 (Rows.laid_internal_strconv_uint64pow10 : DataW Unit) = some (.int .u64 1 :: Lib.pow10Tab.tail.map fun z => Value.int .u64 z) := by kernel_rfl
  obtain ⟨ty, hh⟩ := laid_block h m2 5 hg (by kernel_rfl) hf
  refine ⟨hs, ?_, error_in (g := 5) h (by kernel_rfl) (by kernel_rfl) m3, error_in (g := 6) h (by kernel_rfl) (by kernel_rfl) m4⟩
  unfold Lib.TabIs World.var?
  rw [hg]
  simp only [Option.bind_some, hh]
  kernel_rfl
end Go.Proofs.YtekhgidbnpfmnaaGreatDoor
