/-
  Small words for the plain laws: what the functions tell for partitions and for other lists.
-/
import Derived.Test.YtabgadmdjpohaaaPlainMath
import Derived.Test.YtabgadmdjpohaaaTogether
namespace Go.Proofs.Ytabgadmdjpohaaa
set_option linter.unusedSimpArgs false
set_option linter.unusedVariables false
set_option linter.unnecessarySimpa false

theorem partSize_yes {xs : List Int} (h : partIn xs = true) : partSize xs = (pSize xs, true) := by simp [partSize, h]
theorem partSize_no {xs : List Int} (h : ¬ partIn xs = true) : partSize xs = (0, false) := by simp [partSize, h]
theorem partType_yes {xs : List Int} (h : partIn xs = true) : partType xs = (desc (sizes xs), true) := by simp [partType, h]
theorem partType_no {xs : List Int} (h : ¬ partIn xs = true) : partType xs = ([], false) := by simp [partType, h]
theorem finerMeet_yes {xs ys : List Int} (h : alike xs ys = true) : finerMeet xs ys = (kOut (mix 8 xs ys), true) := by simp [finerMeet, h]
theorem finerMeet_no {xs ys : List Int} (h : alike xs ys = false) : finerMeet xs ys = ([], false) := by simp [finerMeet, h]
theorem finerJoin_yes {xs ys : List Int} (h : alike xs ys = true) : finerJoin xs ys = (kOut (joinAll xs ys xs.length xs.length), true) := by simp [finerJoin, h]
theorem finerJoin_no {xs ys : List Int} (h : alike xs ys = false) : finerJoin xs ys = ([], false) := by simp [finerJoin, h]

end Go.Proofs.Ytabgadmdjpohaaa
