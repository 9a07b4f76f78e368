/-
  Pairs chosen out of all pairs, row by row. No program is named here.
-/
import Derived.Test.YtieldehghmikkaaPairMath
namespace Go.Proofs.Ytieldehghmikkaa
set_option linter.unusedSimpArgs false
set_option linter.unusedVariables false

/-- The chosen pairs (i, j) with j below k; those with the first thing below i. -/
def selRow (f : Nat × Nat → Bool) (i k : Nat) : List (Nat × Nat) := ((List.range k).filter fun j => decide (i < j) && f (i, j)).map fun j => (i, j)
def selRows (f : Nat × Nat → Bool) (n i : Nat) : List (Nat × Nat) := (List.range i).flatMap fun r => selRow f r n

theorem selRow_start (f : Nat × Nat → Bool) (i k : Nat) (h : k ≤ i + 1) : selRow f i k = [] := by
  unfold selRow
  rw [List.map_eq_nil_iff, List.filter_eq_nil_iff]
  intro j hj
  rw [List.mem_range] at hj
  simp
  omega
theorem selRow_next (f : Nat × Nat → Bool) (i k : Nat) (h : i < k) : selRow f i (k + 1) = selRow f i k ++ if f (i, k) then [(i, k)] else [] := by
  unfold selRow
  rw [List.range_succ, List.filter_append, List.map_append]
  congr 1
  simp only [List.filter_cons, List.filter_nil, decide_eq_true h, Bool.true_and]
  cases f (i, k) <;> rfl
theorem selRows_next (f : Nat × Nat → Bool) (n i : Nat) : selRows f n (i + 1) = selRows f n i ++ selRow f i n := by
  unfold selRows
  rw [List.range_succ, List.flatMap_append]
  simp
theorem sel_all (f : Nat × Nat → Bool) (n : Nat) : (allP n).filter f = selRows f n n := by
  unfold allP selRows selRow
  rw [List.filter_flatMap]
  congr 1
  funext i
  rw [List.filter_map, List.filter_filter]
  congr 1
  apply List.filter_congr
  intro j _
  simp only [Function.comp]
  rw [Bool.and_comm]
theorem selRow_len (f : Nat × Nat → Bool) (i k : Nat) : (selRow f i k).length ≤ k := by
  unfold selRow
  rw [List.length_map]
  have := List.length_filter_le (fun j => decide (i < j) && f (i, j)) (List.range k)
  rw [List.length_range] at this
  exact this
theorem selRows_len (f : Nat × Nat → Bool) (n i : Nat) : (selRows f n i).length ≤ i * n := by
  induction i with
  | zero => simp [selRows]
  | succ i ih =>
    rw [selRows_next, List.length_append, Nat.succ_mul]
    have := selRow_len f i n
    omega
theorem sel_len (f : Nat × Nat → Bool) {n i k : Nat} (hn : n ≤ 100) (hi : i ≤ n) (hk : k ≤ n) : (selRows f n i ++ selRow f i k).length ≤ 10100 := by
  rw [List.length_append]
  have h1 := selRows_len f n i
  have h2 := selRow_len f i k
  have h3 := Nat.mul_le_mul (Nat.le_trans hi hn) hn
  omega
theorem otherP_sel (n : Nat) (L : List (Nat × Nat)) : otherP n L = selRows (fun p => !L.contains p) n n := sel_all _ n
theorem ofP_sel (xs : List Int) : ofP xs = selRows (fun p => xs.getD p.1 0 == xs.getD p.2 0) xs.length xs.length := sel_all _ _
theorem encPs_append (L M : List (Nat × Nat)) : encPs (L ++ M) = encPs L ++ encPs M := by simp [encPs]

end Go.Proofs.Ytieldehghmikkaa
