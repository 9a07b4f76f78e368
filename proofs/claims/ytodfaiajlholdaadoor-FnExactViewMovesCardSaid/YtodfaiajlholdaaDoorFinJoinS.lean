/-
  The contract of spec.FinerJoin.
-/
import Derived.Test.YtodfaiajlholdaaDoorJoinMath
import Derived.Test.YtodfaiajlholdaaDoorPut
import Derived.Test.YtodfaiajlholdaaDoorSpecType
import Derived.StillTailTactics
namespace Go.Proofs.YtodfaiajlholdaaDoor
set_option linter.unusedSimpArgs false
set_option linter.unusedVariables false
set_option linter.unnecessarySimpa false
open Go.RowKit
set_option maxRecDepth 100000

theorem iota_snoc (n : Nat) : iota 0 (n + 1) = iota 0 n ++ [(n : Int)] := by simp [iota, List.range_succ]

theorem row_len (xs ys f : List Int) (n : Nat) (hf : f.length = n) (i : Nat) (hi : i < n) (k : Nat) (hk : k ≤ n) : (joinRow xs ys f i k).length = n := (row_le xs ys n f hf i hi k hk).1
theorem pass_len (xs ys f : List Int) (n : Nat) (hf : f.length = n) (i : Nat) (hi : i ≤ n) : (joinPass xs ys f n i).length = n := (pass_le xs ys n f hf i hi).1

theorem own_quiet {w w' : World} {B : Nat} {v : Value} {xs : List Int} (h : Own w B v xs) (hq : Quiet w w') : Own w' B v xs := own_below h hq.below

end Go.Proofs.YtodfaiajlholdaaDoor
