/-
  Small facts for the law of maps.
-/
import Derived.Test.YtfomfjbfhcajbaaNumMath
namespace Go.Proofs.Ytfomfjbfhcajbaa
open Go.RowKit
theorem j1_ne (j : Nat) : ¬ (j : Int) + 1 = 0 := by omega
theorem j1_beq (j : Nat) : ((j : Int) + 1 == 0) = false := by simp; omega
theorem j1_wrap (j : Nat) (h : j < 100) : wrap64 ((j : Int) + 1) = (j : Int) + 1 := IntWalk.wrap64_in _ (by omega)
end Go.Proofs.Ytfomfjbfhcajbaa
