/-
  The contracts of blockCount and l1Size at a partition.
-/
import Derived.Test.YtbmpchpcihnbdaaFinIn
namespace Go.Proofs.Ytbmpchpcihnbdaa
set_option linter.unusedSimpArgs false
set_option linter.unusedVariables false
open Go.RowKit

theorem blockCount_p (v : Value) (xs : List Int) (w : World) (hv : RdV w v xs) (hp : Hid (partIn xs = true)) :
    Calls Try.prog 73 #[v] w fun e w' => e = .returned (.int .i64 (pSize xs)) ∧ w = w' := by
  obtain ⟨ao, ca, rfl, h, h1, h2⟩ := hv
  have hl := partIn_len hp.out
  exact blockCount_any ao ca xs w h hl.1 (by omega) (partIn_small hp.out)
theorem l1Size_p (v : Value) (xs : List Int) (w : World) (hv : RdV w v xs) (hp : Hid (partIn xs = true)) :
    Calls Try.prog 92 #[v] w fun e w' => e = .returned (.int .i64 (pSize xs)) ∧ w = w' := by
  obtain ⟨ao, ca, rfl, h, h1, h2⟩ := hv
  have hl := partIn_len hp.out
  exact l1Size_any ao ca xs w h (by omega) (partIn_small hp.out)

end Go.Proofs.Ytbmpchpcihnbdaa
