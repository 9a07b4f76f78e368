/-
  Plain lists: what is asked of each partition of at most eight things, one by one. No program is named here.
-/
import Derived.Test.YtbmpchpcihnbdaaTurnMath
namespace Go.Proofs.Ytbmpchpcihnbdaa
set_option linter.unusedSimpArgs false
set_option linter.unusedVariables false
set_option linter.unnecessarySimpa false

/-- p holds of each list that goes on from pre, by at most d numbers, b being the next new block. -/
def forParts (p : List Int → Bool) : Nat → Nat → List Int → Bool
  | 0, _, _ => true
  | d + 1, b, pre => (List.range (b + 1)).all fun v => p (pre ++ [(v : Int)]) && forParts p d (if v = b then b + 1 else b) (pre ++ [(v : Int)])

theorem forParts_at (p : List Int → Bool) : ∀ (d b : Nat) (pre rest : List Int), forParts p d b pre = true → rest ≠ [] → rest.length ≤ d → okFrom (b : Int) rest = true → p (pre ++ rest) = true := by
  intro d
  induction d with
  | zero =>
    intro b pre rest _ hne hl
    cases rest with
    | nil => exact absurd rfl hne
    | cons x r => simp at hl
  | succ d ih =>
    intro b pre rest h hne hl hok
    cases rest with
    | nil => exact absurd rfl hne
    | cons x r =>
      simp only [okFrom, Bool.and_eq_true, decide_eq_true_eq] at hok
      obtain ⟨⟨h0, h1⟩, h2⟩ := hok
      obtain ⟨v, rfl⟩ := Int.eq_ofNat_of_zero_le h0
      have hv := (List.all_eq_true.1 h) v (by simp; omega)
      simp only [Bool.and_eq_true] at hv
      by_cases hr : r = []
      · subst hr; exact hv.1
      · have e : pre ++ (v : Int) :: r = (pre ++ [(v : Int)]) ++ r := by simp
        rw [e]
        refine ih _ _ r hv.2 hr (by simp at hl; omega) ?_
        split at h2
        · rw [if_pos (by omega)]; simpa using h2
        · rw [if_neg (by omega)]; exact h2

/-- What holds of each partition, one by one, holds of whatever partition there is. -/
theorem parts_all (p : List Int → Bool) (h : forParts p 8 0 [] = true) {xs : List Int} (hx : partIn xs = true) : p xs = true := by
  have hl := partIn_len hx
  have := forParts_at p 8 0 [] xs h (by intro e; rw [e] at hl; simp at hl) hl.2 (partIn_ok hx)
  simpa using this

end Go.Proofs.Ytbmpchpcihnbdaa
