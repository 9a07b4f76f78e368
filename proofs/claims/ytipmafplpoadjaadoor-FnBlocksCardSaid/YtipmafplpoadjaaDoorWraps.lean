/-
  Small sums that are not wrapped.
-/
import Derived.Test.YtipmafplpoadjaaDoorPure
namespace Go.Proofs.YtipmafplpoadjaaDoor
open Go.RowKit
theorem w_add (s j : Nat) (h : s + j + 1 ≤ 100) : wrap64 ((s : Int) + (j : Int) + 1) = (s : Int) + (j : Int) + 1 := IntWalk.wrap64_in _ (by omega)
theorem w_add0 (s : Nat) (h : s + 1 ≤ 100) : wrap64 ((s : Int) + 1) = (s : Int) + 1 := IntWalk.wrap64_in _ (by omega)
theorem w_ne (m : Nat) (h : 1 ≤ m) : ((m : Int) == 0) = false := by simp; omega
theorem w_pred (j i : Nat) (h : j = i + 1) (hb : j ≤ 100) : wrap64 ((j : Int) - 1) = (i : Int) := by rw [IntWalk.wrap64_in _ (by omega)]; omega
theorem w_pred2 (j i : Nat) (h : j = i + 1) (hb : j ≤ 100) : IntKind.i64.wrap ((j : Int) - 1) = (i : Int) := by rw [IntWalk.i64_in _ (by omega)]; omega
end Go.Proofs.YtipmafplpoadjaaDoor
