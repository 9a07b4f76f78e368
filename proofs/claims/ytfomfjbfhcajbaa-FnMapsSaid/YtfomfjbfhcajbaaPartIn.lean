/-
  The contracts of impl.PartIn and spec.PartIn.
-/
import Derived.Test.YtfomfjbfhcajbaaRows
import Derived.Test.YtfomfjbfhcajbaaPure
import Derived.WalkLawsBesides
import Derived.WalkSpells
namespace Go.Proofs.Ytfomfjbfhcajbaa
set_option linter.unusedSimpArgs false
set_option linter.unusedVariables false
set_option linter.unnecessarySimpa false
open Go.RowKit

def okFrom : Int → List Int → Bool
  | _, [] => true
  | b, x :: xs => decide (0 ≤ x) && decide (x ≤ b) && okFrom (if x = b then b + 1 else b) xs

def partIn (xs : List Int) : Bool := decide (1 ≤ xs.length) && decide (xs.length ≤ 8) && okFrom 0 xs

theorem okFrom_no {b x : Int} {xs : List Int} (h : x < 0 ∨ b < x) : okFrom b (x :: xs) = false := by
  rcases h with h | h
  · simp [okFrom, show ¬ 0 ≤ x by omega]
  · simp [okFrom, show ¬ x ≤ b by omega]

theorem okFrom_yes {b x : Int} {xs : List Int} (h : 0 ≤ x) (h2 : x < b) : okFrom b (x :: xs) = okFrom b xs := by
  simp [okFrom, h, show x ≤ b by omega, show ¬ x = b by omega]

theorem okFrom_new {b : Int} {xs : List Int} (h : 0 ≤ b) : okFrom b (b :: xs) = okFrom (b + 1) xs := by
  simp [okFrom, h]

theorem l6In_any (n lo hi : Int) (w : World) : Calls Try.prog 58 #[.int .i64 n, .int .i64 lo, .int .i64 hi] w fun e w' => e = .returned (.bool (decide (lo ≤ n ∧ n ≤ hi))) ∧ w = w' := by
  by_cases h1 : lo ≤ n
  · by_cases h2 : n ≤ hi
    all_goals
      go_enter Try.func58, Try.ntmps58
      go_wp2
      go_ret
      exact ⟨by simp [h1, h2]; try omega, rfl⟩
  · go_enter Try.func58, Try.ntmps58
    go_wp2
    go_ret
    exact ⟨by simp [h1]; omega, rfl⟩

end Go.Proofs.Ytfomfjbfhcajbaa
