/-
  The contracts of FinerRank, pairCount, FinerChains (impl and spec).
-/
import Derived.Test.YtieldehghmikkaaCells
import Derived.Test.YtieldehghmikkaaKernel
namespace Go.Proofs.Ytieldehghmikkaa
set_option linter.unusedSimpArgs false
set_option linter.unusedVariables false
set_option linter.unnecessarySimpa false
open Go.RowKit
set_option maxRecDepth 100000

def finerRank (xs : List Int) : Int × Bool := if partIn xs then ((xs.length : Int) - pSize xs, true) else (0, false)

theorem pairCount_any (c : Nat) (w : World) (hc : c ≤ 8) : Calls Try.prog 74 #[.int .i64 c] w fun e w' => e = .returned (.int .i64 ((c * (c - 1) / 2 : Nat) : Int)) ∧ w = w' := by
  have h : c = 0 ∨ c = 1 ∨ c = 2 ∨ c = 3 ∨ c = 4 ∨ c = 5 ∨ c = 6 ∨ c = 7 ∨ c = 8 := by omega
  rcases h with rfl | rfl | rfl | rfl | rfl | rfl | rfl | rfl | rfl
  all_goals
    go_enter Try.func74, Try.ntmps74
    go_wp2
    go_ret
    exact ⟨rfl, rfl⟩

/-- After d merges of p blocks: the ways. -/
def chD (p : Nat) : Nat → Int
  | 0 => 1
  | d + 1 => chD p d * (((p - d) * (p - d - 1) / 2 : Nat) : Int)

theorem chD_bd : ∀ p, p < 9 → ∀ d, d < 9 → 0 ≤ chD p d ∧ chD p d ≤ 2000000 := by decide +kernel

def finerChains (xs : List Int) : Int × Bool := if partIn xs then (chD (pSize xs).toNat ((pSize xs).toNat - 1), true) else (0, false)

end Go.Proofs.Ytieldehghmikkaa
