/-
  The contracts of FinerMeet (impl and spec).
-/
import Derived.Test.YtodfaiajlholdaaDoorFinIn
import Derived.Test.YtodfaiajlholdaaDoorTurnMath
import Derived.Test.YtodfaiajlholdaaDoorPut
import Derived.Test.YtodfaiajlholdaaDoorSpecType
import Derived.StillTailTactics
import Derived.Deep.RegionHeld3
namespace Go.Proofs.YtodfaiajlholdaaDoor
set_option linter.unusedSimpArgs false
set_option linter.unusedVariables false
set_option linter.unnecessarySimpa false
open Go.RowKit
set_option maxRecDepth 100000

def mix (c : Int) (xs ys : List Int) : List Int := (List.range xs.length).map fun i => c * xs.getD i 0 + ys.getD i 0

theorem mix_length (c : Int) (xs ys : List Int) : (mix c xs ys).length = xs.length := by simp [mix]
theorem mix_getD (c : Int) (xs ys : List Int) (i : Nat) (h : i < xs.length) : (mix c xs ys).getD i 0 = c * xs.getD i 0 + ys.getD i 0 := by
  simp [mix, List.getD, h]

theorem mix_pat (xs ys : List Int) (hx : Small xs) (hy : Small ys) (hl : ys.length = xs.length) : kOut (mix 10 xs ys) = kOut (mix 8 xs ys) := by
  refine (kOut_pat (mix 8 xs ys) (mix 10 xs ys) (by simp [mix_length]) fun i j hi hj => ?_).1
  rw [mix_length] at hi hj
  rw [mix_getD _ _ _ _ hi, mix_getD _ _ _ _ hj, mix_getD _ _ _ _ hi, mix_getD _ _ _ _ hj]
  have h1 := hx i hi
  have h2 := hx j hj
  have h3 := hy i (by omega)
  have h4 := hy j (by omega)
  omega

def finerMeet (xs ys : List Int) : List Int × Bool := if alike xs ys then (kOut (mix 8 xs ys), true) else ([], false)

theorem finerMeet_len (xs ys : List Int) (h : xs.length ≤ 1048576) (_ : ys.length ≤ 1048576) : (finerMeet xs ys).1.length ≤ 2305843009213693952 := by
  unfold finerMeet
  split
  · rw [kOut_length, mix_length]; omega
  · simp

end Go.Proofs.YtodfaiajlholdaaDoor
