/-
  The contracts of FinerRank, pairCount, FinerChains (impl and spec).
-/
import Derived.Test.YthkkolnohgibeaaDoorCells
import Derived.Test.YthkkolnohgibeaaDoorKernel
namespace Go.Proofs.YthkkolnohgibeaaDoor
set_option linter.unusedSimpArgs false
set_option linter.unusedVariables false
set_option linter.unnecessarySimpa false
open Go.RowKit
set_option maxRecDepth 100000

def finerRank (xs : List Int) : Int × Bool := if partIn xs then ((xs.length : Int) - pSize xs, true) else (0, false)

/-- After d merges of p blocks: the ways. -/
def chD (p : Nat) : Nat → Int
  | 0 => 1
  | d + 1 => chD p d * (((p - d) * (p - d - 1) / 2 : Nat) : Int)

theorem chD_bd : ∀ p, p < 9 → ∀ d, d < 9 → 0 ≤ chD p d ∧ chD p d ≤ 2000000 := by decide +kernel

def finerChains (xs : List Int) : Int × Bool := if partIn xs then (chD (pSize xs).toNat ((pSize xs).toNat - 1), true) else (0, false)

end Go.Proofs.YthkkolnohgibeaaDoor
