/-
  From what the row lists to what the contracts ask of the variable errors.errorType.
-/
import Derived.Test.YtdeeeiimlcggpaaDoorRows
import Derived.Test.YtdeeeiimlcggpaaDoorErrAs
import Derived.LaidHandle
namespace Go.Proofs.YtdeeeiimlcggpaaDoor
set_option maxRecDepth 100000

theorem gErr : Tryd.prog.globalNamed "errors.errorType" = some 0 := by kernel_rfl
theorem rtErr : (Tryd.prog.cutTypes.find? (·.1 == "internal/reflectlite.rtype")).map (·.2) = some 99 := by kernel_rfl
theorem oneErr : ((List.range 147).filter fun t => Tryd.prog.rowNamed t [101, 114, 114, 111, 114]) = [43] := by kernel_rfl
theorem sizeErr : Tryd.prog.types.size = 147 := by kernel_rfl

theorem errAt_of_met {W : World} (h : handlesMet Tryd.prog [("errors.errorType", Rows.laid_errors_errorType)] W) : ErrAt W := by
  obtain ⟨name, u, ty, e1, e2, e3, e4, e5⟩ := h _ (List.mem_singleton.2 rfl)
  have en : name = [101, 114, 114, 111, 114] := (Option.some.inj e1).symm
  subst en
  obtain rfl := Option.some.inj (rtErr.symm.trans e2)
  have hm : ty ∈ (List.range 147).filter fun t => Tryd.prog.rowNamed t [101, 114, 114, 111, 114] := List.mem_filter.2 ⟨List.mem_range.2 (by rw [← sizeErr]; exact e3), e4⟩
  rw [oneErr] at hm
  obtain rfl := List.mem_singleton.1 hm
  have hh : typeHandle Tryd.prog 43 = .pointer (some ⟨3, 43, none⟩) := by kernel_rfl
  rw [hh] at e5
  unfold ErrAt
  simpa using World.var?_cell gErr e5 0

theorem errAt_of_laid {W : World} (h : laidMetH Tryd.prog [("errors.errorType", Rows.laid_errors_errorType)] W) : ErrAt W := by
  have h' : laidMet Tryd.prog [] W ∧ handlesMet Tryd.prog [("errors.errorType", Rows.laid_errors_errorType)] W := h
  exact errAt_of_met h'.2

end Go.Proofs.YtdeeeiimlcggpaaDoor
