/-
  The draws of chapter 4: DrawListAll, ListAt, ListNext, ListBefore, ListBlocks, ListOpen.
-/
import Derived.Test.YtdeeeiimlcggpaaRds
import Derived.Test.YtdeeeiimlcggpaaTriBell
namespace Go.Proofs.Ytdeeeiimlcggpaa
set_option linter.unusedSimpArgs false
set_option linter.unusedVariables false
set_option linter.unnecessarySimpa false
open Go.RowKit
set_option maxRecDepth 100000

theorem belN_bd : ∀ n, n < 10 → 1 ≤ belN n ∧ belN n ≤ 21147 := by decide +kernel

/-- Two drawn numbers. -/
def TwoNum (w : World) (e : Ending) (w' : World) : Prop :=
  ∃ n k : Int, e = .returned (.tuple #[.int .i64 n, .int .i64 k]) ∧ (-1 ≤ n ∧ n ≤ 30000) ∧ (-1 ≤ k ∧ k ≤ 30000) ∧ Below w.heap.size w w'

/-- A drawn list. -/
def OneDrawn (w : World) (e : Ending) (w' : World) : Prop := ∃ v xs, e = .returned v ∧ Own w' w.heap.size v xs ∧ xs.length ≤ 9 ∧ (∀ x ∈ xs, 0 ≤ x ∧ x ≤ 9) ∧ Below w.heap.size w w'

/-- A drawn number and a drawn list. -/
def NumList (w : World) (e : Ending) (w' : World) : Prop := ∃ (n : Int) (v : Value) (xs : List Int), e = .returned (.tuple #[.int .i64 n, v]) ∧ (-1 ≤ n ∧ n ≤ 100) ∧ Own w' w.heap.size v xs ∧ xs.length ≤ 9 ∧ (∀ x ∈ xs, 0 ≤ x ∧ x ≤ 9) ∧ Below w.heap.size w w'

end Go.Proofs.Ytdeeeiimlcggpaa
