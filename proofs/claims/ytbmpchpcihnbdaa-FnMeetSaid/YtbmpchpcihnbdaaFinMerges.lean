/-
  The contracts of merged, l2Merges, FinerMerges (impl and spec).
-/
import Derived.Test.YtbmpchpcihnbdaaHeldMat
import Derived.Test.YtbmpchpcihnbdaaFinIn
import Derived.Test.YtbmpchpcihnbdaaFinRank
import Derived.Test.YtbmpchpcihnbdaaSpecType
namespace Go.Proofs.Ytbmpchpcihnbdaa
set_option linter.unusedSimpArgs false
set_option linter.unusedVariables false
set_option linter.unnecessarySimpa false
open Go.RowKit
set_option maxRecDepth 100000

/-- The number g told as l. -/
def retold (xs : List Int) (l g : Int) : List Int := xs.map fun x => if x = g then l else x

theorem retold_length (xs : List Int) (l g : Int) : (retold xs l g).length = xs.length := by simp [retold]
theorem retold_getD (xs : List Int) (l g : Int) (k : Nat) (h : k < xs.length) : (retold xs l g).getD k 0 = if xs.getD k 0 = g then l else xs.getD k 0 := by
  simp [retold, List.getD, h]

theorem retold_stage (xs : List Int) (l g : Int) (k : Nat) (h : k < xs.length) (v : Int) (hv : v = (retold xs l g).getD k 0) :
    ((retold xs l g).take k ++ xs.drop k).set k v = (retold xs l g).take (k + 1) ++ xs.drop (k + 1) := by
  have hk : ((retold xs l g).take k).length = k := by simp [retold_length]; omega
  rw [hv, List.set_append_right _ _ (by omega), hk, Nat.sub_self, List.drop_eq_getElem_cons h, List.set_cons_zero, take_snoc _ k (by rw [retold_length]; exact h), List.append_assoc]
  rfl
theorem retold_keep (xs : List Int) (l g : Int) (k : Nat) (h : k < xs.length) (hv : xs.getD k 0 = (retold xs l g).getD k 0) :
    (retold xs l g).take k ++ xs.drop k = (retold xs l g).take (k + 1) ++ xs.drop (k + 1) := by
  rw [take_snoc _ k (by rw [retold_length]; exact h), drop_cons xs k h, hv, List.append_assoc]
  rfl

/-- The first j merges with the block x as the lesser one. -/
def mrow (xs : List Int) (x j : Nat) : List (List Int) := (List.range j).map fun i => kOut (retold xs (x : Int) ((x + 1 + i : Nat) : Int))
/-- The merges with lesser blocks below k, of p blocks. -/
def mergesTo (xs : List Int) (p k : Nat) : List (List Int) := (List.range k).flatMap fun x => mrow xs x (p - 1 - x)
def finerMerges (xs : List Int) : List (List Int) × Bool := if partIn xs then (mergesTo xs (pSize xs).toNat (pSize xs).toNat, true) else ([], false)

theorem mrow_length (xs : List Int) (x j : Nat) : (mrow xs x j).length = j := by simp [mrow]
theorem mrow_succ (xs : List Int) (x j : Nat) : mrow xs x (j + 1) = mrow xs x j ++ [kOut (retold xs (x : Int) ((x + 1 + j : Nat) : Int))] := by simp [mrow, List.range_succ]
theorem mergesTo_succ (xs : List Int) (p k : Nat) : mergesTo xs p (k + 1) = mergesTo xs p k ++ mrow xs k (p - 1 - k) := by simp [mergesTo, List.range_succ]

theorem total_append (a b : List (List Int)) : total (a ++ b) = total a + total b := by
  induction a with
  | nil => simp [total]
  | cons x a ih => rw [List.cons_append, total_cons, total_cons, ih]; omega

theorem mrow_total (xs : List Int) (x j : Nat) : total (mrow xs x j) = j * xs.length := by
  induction j with
  | zero => simp [mrow, total]
  | succ j ih => rw [mrow_succ, total_append, ih, total_cons, kOut_length, retold_length, Nat.succ_mul]; simp [total]

theorem mergesTo_bd (xs : List Int) (p : Nat) (hp : p ≤ 8) (hl : xs.length ≤ 8) : ∀ k, (mergesTo xs p k).length ≤ 8 * k ∧ total (mergesTo xs p k) ≤ 64 * k := by
  intro k
  induction k with
  | zero => simp [mergesTo, total]
  | succ k ih =>
    rw [mergesTo_succ, List.length_append, mrow_length, total_append, mrow_total]
    have h1 : p - 1 - k ≤ 8 := by omega
    have h2 : (p - 1 - k) * xs.length ≤ 8 * 8 := Nat.mul_le_mul h1 hl
    omega

theorem finerMerges_len (xs : List Int) (_ : xs.length ≤ 1048576) : (finerMerges xs).1.length ≤ 1000000 ∧ total (finerMerges xs).1 ≤ 1000000 := by
  unfold finerMerges
  split
  · rename_i h
    have h1 := pSize_bd (partIn_small h)
    have h2 := mergesTo_bd xs (pSize xs).toNat (by omega) (partIn_len h).2 (pSize xs).toNat
    dsimp only
    omega
  · simp [total]

end Go.Proofs.Ytbmpchpcihnbdaa
