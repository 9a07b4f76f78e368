/-
  The contracts of impl.renamed and PartTurned (impl and spec).
-/
import Derived.Test.YtbmpchpcihnbdaaKernel
namespace Go.Proofs.Ytbmpchpcihnbdaa
set_option linter.unusedSimpArgs false
set_option linter.unusedVariables false
set_option linter.unnecessarySimpa false
open Go.RowKit

/-- The numbers xs put to the places ps, the first k of them. -/
def putTo (xs ps : List Int) : Nat → List Int
  | 0 => List.replicate xs.length 0
  | k + 1 => (putTo xs ps k).set (ps.getD k 0).toNat (xs.getD k 0)

theorem putTo_length (xs ps : List Int) (k : Nat) : (putTo xs ps k).length = xs.length := by
  induction k with
  | zero => simp [putTo]
  | succ k ih => simp [putTo, ih]

/-- The names n - 1, n - 2, .. -/
def backNames (n : Nat) : List Int := (List.range n).map (fun (j : Nat) => (n : Int) - 1 - (j : Int))
theorem backNames_length (n : Nat) : (backNames n).length = n := by simp [backNames]
theorem backNames_getD (n j : Nat) (h : j < n) : (backNames n).getD j 0 = (n : Int) - 1 - j := by simp [backNames, List.getD, h]

theorem putTo_back_at (xs : List Int) (k : Nat) (hk : k ≤ xs.length) (j : Nat) (hj : j < xs.length) : (putTo xs (backNames xs.length) k).getD j 0 = if xs.length - 1 - j < k then xs.getD (xs.length - 1 - j) 0 else 0 := by
  induction k with
  | zero => simp [putTo, List.getD, hj]
  | succ k ih =>
    have e : (((xs.length : Int) - 1 - (k : Int))).toNat = xs.length - 1 - k := by omega
    rw [putTo, backNames_getD _ _ (by omega), e, List.getD_eq_getElem?_getD, List.getElem?_set]
    by_cases h : xs.length - 1 - k = j
    · rw [if_pos h, if_pos (by rw [putTo_length]; omega), if_pos (by omega)]
      have : xs.length - 1 - j = k := by omega
      rw [this]
      rfl
    · rw [if_neg h, ← List.getD_eq_getElem?_getD, ih (by omega)]
      by_cases h2 : xs.length - 1 - j < k
      · rw [if_pos h2, if_pos (by omega)]
      · rw [if_neg h2, if_neg (by omega)]

theorem ext_getD {xs ys : List Int} (hl : xs.length = ys.length) (h : ∀ j, j < xs.length → xs.getD j 0 = ys.getD j 0) : xs = ys := by
  apply List.ext_getElem hl
  intro j h1 h2
  have := h j h1
  simpa [List.getD, h1, h2] using this

theorem putTo_back (xs : List Int) : putTo xs (backNames xs.length) xs.length = xs.reverse := by
  refine ext_getD (by rw [putTo_length]; simp) fun j hj => ?_
  rw [putTo_length] at hj
  rw [putTo_back_at xs _ (Nat.le_refl _) j hj, if_pos (by omega)]
  simp [List.getD, hj, show xs.length - 1 - j < xs.length by omega]

def partTurned (xs : List Int) : List Int × Bool := if partIn xs then (kOut xs.reverse, true) else ([], false)

theorem partTurned_len (xs : List Int) (h : xs.length ≤ 1048576) : (partTurned xs).1.length ≤ 2305843009213693952 := by
  unfold partTurned
  split
  · rw [kOut_length]; simp; omega
  · simp

theorem back_stage (n k : Nat) (h : k < n) : ((backNames n).take k ++ List.replicate (n - k) 0).set k ((n : Int) - 1 - k) = (backNames n).take (k + 1) ++ List.replicate (n - (k + 1)) 0 := by
  have := set_stage (backNames n) k (by rw [backNames_length]; omega) ((n : Int) - 1 - k) (backNames_getD n k h).symm
  rwa [backNames_length] at this

theorem reverse_take_snoc (xs : List Int) (k : Nat) (h : k < xs.length) : xs.reverse.take (k + 1) = xs.reverse.take k ++ [xs.getD (xs.length - 1 - k) 0] := by
  rw [take_snoc _ _ (by simpa using h)]
  congr 1
  simp [List.getD, h, show xs.length - 1 - k < xs.length by omega]

end Go.Proofs.Ytbmpchpcihnbdaa
