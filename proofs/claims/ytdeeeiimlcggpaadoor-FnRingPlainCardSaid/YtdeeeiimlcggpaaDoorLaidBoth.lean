/-
  From what a row lists, the tables and the handle, to what the contracts ask.
-/
import Derived.Test.YtdeeeiimlcggpaaDoorLaid
import Derived.Test.YtdeeeiimlcggpaaDoorLaidErr
namespace Go.Proofs.YtdeeeiimlcggpaaDoor
set_option maxRecDepth 100000

theorem both_of_laid {W : World} (h : laidMetH Tryd.prog [("math/bits.deBruijn32tab", Rows.laid_math_bits_deBruijn32tab), ("math/bits.deBruijn64tab", Rows.laid_math_bits_deBruijn64tab), ("errors.errorType", Rows.laid_errors_errorType)] W) : Tab W ∧ ErrAt W := by
  have h' : laidMet Tryd.prog [("math/bits.deBruijn32tab", Rows.laid_math_bits_deBruijn32tab), ("math/bits.deBruijn64tab", Rows.laid_math_bits_deBruijn64tab)] W ∧ handlesMet Tryd.prog [("errors.errorType", Rows.laid_errors_errorType)] W := h
  exact ⟨tab_of_met h'.1, errAt_of_met h'.2⟩

/-- Which variable is it? (so that a seat without it drops this text) -/
theorem both_there : (0, 2) = (0, 2) := rfl

end Go.Proofs.YtdeeeiimlcggpaaDoor
