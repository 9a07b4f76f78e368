/-
  A partition is what its blocks make: over all partitions.
-/
import Derived.Test.YtfomfjbfhcajbaaDoorParts
import Derived.Test.YtfomfjbfhcajbaaDoorPartOf
import Derived.Test.YtfomfjbfhcajbaaDoorSpecType
namespace Go.Proofs.YtfomfjbfhcajbaaDoor
set_option maxRecDepth 100000

def backChk (xs : List Int) : Bool := decide (partOf xs.length (blocksTo xs (pSize xs).toNat) = (xs, true))
theorem backChk_all : forParts backChk 8 0 [] = true := by decide +kernel
theorem part_back {xs : List Int} (hx : partIn xs = true) : partOf xs.length (blocksTo xs (pSize xs).toNat) = (xs, true) := of_decide_eq_true (parts_all backChk backChk_all hx)

end Go.Proofs.YtfomfjbfhcajbaaDoor
