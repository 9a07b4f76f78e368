/-
  The contracts of FinerSplits (impl and spec).
-/
import Derived.Test.YtbmpchpcihnbdaaSortMath
import Derived.Test.YtbmpchpcihnbdaaTurnMath
import Derived.Test.YtbmpchpcihnbdaaCells
import Derived.Test.YtbmpchpcihnbdaaFinSign
import Derived.Laws.EntriesVeiled
namespace Go.Proofs.Ytbmpchpcihnbdaa
set_option linter.unusedSimpArgs false
set_option linter.unusedVariables false
set_option linter.unnecessarySimpa false
open Go.RowKit
set_option maxRecDepth 100000

/-- The splits of a block of n things. -/
def spl : Nat → Int
  | 0 => 0
  | n + 1 => if n = 0 then 0 else 2 * spl n + 1

theorem spl_bd : ∀ n, n < 9 → 0 ≤ spl n ∧ spl n ≤ 127 := by decide +kernel

def sumOf (f : Nat → Int) (l : List Int) : Int := l.foldl (fun w c => w + f c.toNat) 0
def finerSplits (xs : List Int) : Int × Bool := if partIn xs then (sumOf spl (sizes xs), true) else (0, false)

theorem sumOf_snoc (f : Nat → Int) (l : List Int) (c : Int) : sumOf f (l ++ [c]) = sumOf f l + f c.toNat := by simp [sumOf, List.foldl_append]
theorem sumOf_bd : ∀ l : List Int, (∀ c ∈ l, 0 ≤ c ∧ c ≤ 8) → 0 ≤ sumOf spl l ∧ sumOf spl l ≤ 127 * l.length := by
  refine snoc_induction (fun _ => by simp [sumOf]) fun l c ih h => ?_
  have h1 := ih fun d hd => h d (by simp [hd])
  have h2 := h c (by simp)
  have h3 := spl_bd c.toNat (by omega)
  rw [sumOf_snoc, List.length_append]
  simp
  omega

theorem cntAt_pos (xs : List Int) (b : Nat) : ∀ k i, i < k → xs.getD i 0 = (b : Int) → 1 ≤ cntAt xs b k := by
  intro k
  induction k with
  | zero => intro i hi; omega
  | succ k ih =>
    intro i hi e
    unfold cntAt
    by_cases h : i = k
    · subst h
      rw [if_pos e]
      omega
    · have := ih i (by omega) e
      split <;> omega

theorem sizes_bd {xs : List Int} (h : partIn xs = true) : ∀ c ∈ sizes xs, 1 ≤ c ∧ c ≤ 8 := by
  intro c hc
  obtain ⟨b, hb, rfl⟩ := List.mem_map.1 hc
  have hb2 : b < (pSize xs).toNat := by simpa using hb
  have hm : (b : Int) ∈ xs := (mem_part h _).2 (by omega)
  obtain ⟨i, hi, e⟩ := mem_iff_getD.1 hm
  have h1 := cntAt_pos xs b xs.length i hi e
  have h2 := cntAt_le xs b xs.length
  have h3 := (partIn_len h).2
  omega

theorem sumOf_cons (f : Nat → Int) (c : Int) (l : List Int) : sumOf f (c :: l) = f c.toNat + sumOf f l := by
  revert l
  refine snoc_induction (by simp [sumOf]) fun l d ih => ?_
  have e : c :: (l ++ [d]) = (c :: l) ++ [d] := rfl
  rw [e, sumOf_snoc, ih, sumOf_snoc]
  omega

theorem sumOf_perm (f : Nat → Int) {l m : List Int} (h : l.Perm m) : sumOf f l = sumOf f m := by
  induction h with
  | nil => rfl
  | cons x _ ih => rw [sumOf_cons, sumOf_cons, ih]
  | swap x y l => rw [sumOf_cons, sumOf_cons, sumOf_cons, sumOf_cons]; omega
  | trans _ _ h1 h2 => exact h1.trans h2

end Go.Proofs.Ytbmpchpcihnbdaa
