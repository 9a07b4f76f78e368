/-
  The contracts of impl.isNaming, spec.l1Names and PartNamed (impl and spec).
-/
import Derived.Test.YtieldehghmikkaaBits
import Derived.Test.YtieldehghmikkaaPut
import Derived.Deep.RegionHeld3
namespace Go.Proofs.Ytieldehghmikkaa
set_option linter.unusedSimpArgs false
set_option linter.unusedVariables false
set_option linter.unnecessarySimpa false
open Go.RowKit

theorem own_drew {w : World} {B : Nat} {v : Value} {xs : List Int} (h : Own w B v xs) : Own w.drew B v xs := h

theorem nameFrom_cons (n s : Nat) (x : Int) (xs : List Int) : nameFrom n s (x :: xs) = (decide (0 ≤ x ∧ x < n) && !s.testBit x.toNat && nameFrom n (s ||| 2 ^ x.toNat) xs) := rfl

theorem or64_fact : ∀ b, b < 256 → ∀ t, t < 8 → bits BinOp.or IntKind.i64 ((b : Nat) : Int) (wrap64 (2 ^ (t : Nat))) = ((b ||| 2 ^ t : Nat) : Int) := by decide +kernel
theorem pow64_fact : ∀ t, t < 9 → wrap64 (wrap64 (2 ^ (t : Nat)) - 1) = ((2 ^ t - 1 : Nat) : Int) := by decide +kernel
theorem maskFrom_snoc : ∀ (xs : List Int) (s : Nat) (x : Int), maskFrom s (xs ++ [x]) = maskFrom s xs ||| 2 ^ x.toNat := by
  intro xs
  induction xs with
  | nil => intro s x; rfl
  | cons y ys ih => intro s x; exact ih _ x

theorem inRange_snoc {n : Nat} {xs : List Int} {x : Int} (h : inRange n xs) (hx : 0 ≤ x ∧ x < n) : inRange n (xs ++ [x]) := by
  intro j hj
  simp at hj
  by_cases hl : j < xs.length
  · rw [getD_snoc_lt _ _ _ hl]; exact h j hl
  · obtain rfl : j = xs.length := by omega
    rw [getD_snoc_eq]; exact hx

def partNamed (xs ps : List Int) : List Int × Bool := if partIn xs ∧ namesOk xs.length ps then (kOut (putTo xs ps xs.length), true) else ([], false)

theorem partNamed_len (xs ps : List Int) (h : xs.length ≤ 1048576) (_ : ps.length ≤ 1048576) : (partNamed xs ps).1.length ≤ 2305843009213693952 := by
  unfold partNamed
  split
  · rw [kOut_length, putTo_length]; omega
  · simp

theorem namesOk_facts {n : Nat} {ps : List Int} (h : namesOk n ps = true) : ps.length = n ∧ ∀ j, j < n → 0 ≤ ps.getD j 0 ∧ ps.getD j 0 < n := by
  simp only [namesOk, Bool.and_eq_true, decide_eq_true_eq] at h
  exact ⟨h.1, fun j hj => nameFrom_range n ps 0 h.2 j (by omega)⟩

end Go.Proofs.Ytieldehghmikkaa
