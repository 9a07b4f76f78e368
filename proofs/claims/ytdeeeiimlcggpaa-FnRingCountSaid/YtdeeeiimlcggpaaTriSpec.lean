/-
  The contracts of the model's numbers: l6In, l3In, l3Blocks, l3Rings, l3Rows, l3Great.
-/
import Derived.Test.YtdeeeiimlcggpaaTriRules
namespace Go.Proofs.Ytdeeeiimlcggpaa
set_option linter.unusedSimpArgs false
set_option linter.unusedVariables false
set_option linter.unnecessarySimpa false
open Go.RowKit
set_option maxRecDepth 100000

theorem sIn_any (n a b : Int) (w : World) : Calls Try.prog 30 #[.int .i64 n, .int .i64 a, .int .i64 b] w fun e w' => e = .returned (.bool (decide (a ≤ n ∧ n ≤ b))) ∧ w = w' := by
  by_cases h1 : a ≤ n
  · by_cases h2 : n ≤ b
    · go_enter Try.func30, Try.ntmps30
      go_wp2
      go_ret
      exact ⟨ret_bool (by simp [h1, h2]), rfl⟩
    · go_enter Try.func30, Try.ntmps30
      go_wp2
      go_ret
      exact ⟨ret_bool (by simp [h1, h2]), rfl⟩
  · go_enter Try.func30, Try.ntmps30
    go_wp2
    go_ret
    exact ⟨ret_bool (by simp; omega), rfl⟩

def inNum (n k : Int) : Bool := decide (0 ≤ n ∧ n ≤ 12) && decide (0 ≤ k ∧ k ≤ 12)

theorem fB_zero (n : Nat) : fB (n + 1) 0 = 0 := by
  induction n with
  | zero => rfl
  | succ n ih => rw [fB, if_neg (by omega), ih, fB_out _ _ (by omega)]; simp

theorem fR_zero (n : Nat) : fR (n + 1) 0 = 0 := by
  induction n with
  | zero => rfl
  | succ n ih => rw [fR, if_neg (by omega), ih, fR_out _ _ (by omega)]; simp

theorem fL_zero (n : Nat) : fL (n + 1) 0 = 0 := by
  induction n with
  | zero => rfl
  | succ n ih => rw [fL, if_neg (by omega), ih, fL_out _ _ (by omega)]; simp

theorem fG_zero : ∀ n : Nat, n < 13 → ∀ k : Nat, k < 14 → n < 2 * k ∨ (k = 0 ∧ 0 < n) → fG n k = 0 := by decide +kernel

/-- A number of things and one of blocks. -/
def numBy (G : Int → Int → Int) (n k : Int) : Int × Bool := if inNum n k then (G n k, true) else (0, false)

theorem inNum_parts {n k : Int} (h : inNum n k = true) : (0 ≤ n ∧ n ≤ 12) ∧ (0 ≤ k ∧ k ≤ 12) := by simpa [inNum] using h

end Go.Proofs.Ytdeeeiimlcggpaa
