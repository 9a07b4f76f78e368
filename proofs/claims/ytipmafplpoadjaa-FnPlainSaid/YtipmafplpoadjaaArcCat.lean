/-
  Partitions without crossing are as many as ballots; crossing and nesting are exchanged: asked of all partitions by the kernel.
-/
import Derived.Test.YtipmafplpoadjaaArcAll
namespace Go.Proofs.Ytipmafplpoadjaa
set_option linter.unusedSimpArgs false
set_option linter.unusedVariables false
set_option linter.unnecessarySimpa false

/-- The ballots. -/
def tCat (n : Nat) : Nat := [1, 1, 2, 5, 14, 42, 132, 429].getD n 0

theorem cat_all : ∀ n, n < 8 → 1 ≤ n → (allL n).countP (fun xs => plainP (arcsOf xs)) = tCat n := by decide +kernel

/-- The number of ways, one factor more at a time. -/
def wayN (n : Nat) : Nat → Nat
  | 0 => 1
  | k + 1 => wayN n k * (n + (k + 1)) / (k + 1)

theorem way_bd : ∀ n, n < 8 → ∀ k, k < 8 → wayN n k ≤ 100000 := by decide +kernel
theorem way_end : ∀ n, n < 8 → 1 ≤ n → (n + 1) * tCat n = wayN n n := by decide +kernel

def prs (n : Nat) : List (Nat × Nat) := (allL n).map fun xs => (crossings xs, nestings xs)

theorem prs_perm : ∀ n, n < 7 → ((prs n).map fun q => (q.2, q.1)).isPerm (prs n) = true := by decide +kernel

theorem count_prs (n : Nat) (c m : Int) : (allL n).countP (fun xs => countP2 c m (arcsOf xs)) = (prs n).countP fun q => ((q.1 : Int) == c) && ((q.2 : Int) == m) := by
  unfold prs
  rw [List.countP_map]
  rfl

theorem count_swap (n : Nat) (hn : n < 7) (c m : Int) : (allL n).countP (fun xs => countP2 c m (arcsOf xs)) = (allL n).countP (fun xs => countP2 m c (arcsOf xs)) := by
  rw [count_prs, count_prs, ← (List.isPerm_iff.1 (prs_perm n hn)).countP_eq, List.countP_map]
  refine List.countP_congr fun q _ => ?_
  simp only [Function.comp, Bool.and_comm]

theorem arcCount_swap (n c m : Int) : arcCount n c m = arcCount n m c := by
  unfold arcCount
  by_cases h : (1 ≤ n ∧ n ≤ 6) ∧ 0 ≤ c ∧ 0 ≤ m
  · rw [if_pos h, if_pos ⟨h.1, h.2.2, h.2.1⟩, count_swap n.toNat (by omega) c m]
  · rw [if_neg h, if_neg (fun k => h ⟨k.1, k.2.2, k.2.1⟩)]

theorem arcPlain_cat {n : Nat} (h1 : 1 ≤ n) (h7 : n ≤ 7) : arcPlain (n : Int) = (((tCat n : Nat) : Int), true) := by
  unfold arcPlain
  rw [if_pos (by omega), Int.toNat_natCast, cat_all n (by omega) h1]

end Go.Proofs.Ytipmafplpoadjaa
