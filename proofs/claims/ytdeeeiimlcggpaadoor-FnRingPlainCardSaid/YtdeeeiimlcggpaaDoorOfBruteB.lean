/-
  The answers, part by part.
-/
import Derived.Test.YtdeeeiimlcggpaaDoorRingDef
namespace Go.Proofs.YtdeeeiimlcggpaaDoor
set_option linter.unusedSimpArgs false
set_option linter.unusedVariables false
set_option linter.unnecessarySimpa false
set_option maxRecDepth 100000

theorem ofChk_0012 : forParts ofChk 4 3 [0, 0, 1, 2] = true := by decide +kernel
theorem ofChk_0102 : forParts ofChk 4 3 [0, 1, 0, 2] = true := by decide +kernel
theorem ofChk_0112 : forParts ofChk 4 3 [0, 1, 1, 2] = true := by decide +kernel
theorem ofChk_0121 : forParts ofChk 4 3 [0, 1, 2, 1] = true := by decide +kernel
theorem ofChk_0001 : forParts ofChk 4 2 [0, 0, 0, 1] = true := by decide +kernel
theorem ofChk_0011 : forParts ofChk 4 2 [0, 0, 1, 1] = true := by decide +kernel
theorem ofChk_0101 : forParts ofChk 4 2 [0, 1, 0, 1] = true := by decide +kernel
theorem ofChk_0111 : forParts ofChk 4 2 [0, 1, 1, 1] = true := by decide +kernel

end Go.Proofs.YtdeeeiimlcggpaaDoor
