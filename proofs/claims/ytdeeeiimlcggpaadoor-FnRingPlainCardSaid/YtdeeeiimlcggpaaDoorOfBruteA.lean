/-
  The answers, part by part.
-/
import Derived.Test.YtdeeeiimlcggpaaDoorRingDef
namespace Go.Proofs.YtdeeeiimlcggpaaDoor
set_option linter.unusedSimpArgs false
set_option linter.unusedVariables false
set_option linter.unnecessarySimpa false
set_option maxRecDepth 100000

theorem ofChk_0123 : forParts ofChk 4 4 [0, 1, 2, 3] = true := by decide +kernel
theorem ofChk_0120 : forParts ofChk 4 3 [0, 1, 2, 0] = true := by decide +kernel
theorem ofChk_0122 : forParts ofChk 4 3 [0, 1, 2, 2] = true := by decide +kernel
theorem ofChk_0010 : forParts ofChk 4 2 [0, 0, 1, 0] = true := by decide +kernel
theorem ofChk_0100 : forParts ofChk 4 2 [0, 1, 0, 0] = true := by decide +kernel
theorem ofChk_0110 : forParts ofChk 4 2 [0, 1, 1, 0] = true := by decide +kernel
theorem ofChk_0000 : forParts ofChk 4 1 [0, 0, 0, 0] = true := by decide +kernel

end Go.Proofs.YtdeeeiimlcggpaaDoor
