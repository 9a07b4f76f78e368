/-
  Lines inside a fence; what keeps a list of lists over the rounds of an iterator; the contract of impl.linesOf and of its iterator.
-/
import Derived.RangeFuncBox
import Derived.RangeFuncNested
import Derived.RangeFuncBound
import Derived.RangeFuncCalls
import Derived.RangeFuncLeaves
import Derived.Shelf.Abstract
import Derived.WalkKit
import Derived.OwnWalkIn
import Derived.TacticsInMore
import Derived.LoopNIn
import Derived.LoopIn
import Derived.Sort.LoopGhostIn
import Derived.Maps.AppendAt
import Derived.Lib.BufferWrite
import Derived.Test.YtipmafplpoadjaaDoorLine4
namespace Go.Proofs.YtipmafplpoadjaaDoor
set_option linter.unusedSimpArgs false
set_option linter.unusedVariables false
set_option linter.unnecessarySimpa false
open Go.RowKit Go.Shelf
set_option maxRecDepth 100000

attribute [local go_sem] Oper.semAt_some

section
variable {F : Fence} {n : Nat}

end

/-- All lists of n things. -/
def allL (n : Nat) : List (List Int) := (List.range (opn n 0).toNat).map fun p => atL n (p : Nat)

theorem allL_length (n : Nat) : (allL n).length = (opn n 0).toNat := by simp [allL]

theorem range_prefix (p T : Nat) (h : p ≤ T) : List.range p <+: List.range T := by
  have := List.take_prefix p (List.range T)
  rwa [List.take_range, Nat.min_eq_left h] at this

end Go.Proofs.YtipmafplpoadjaaDoor
