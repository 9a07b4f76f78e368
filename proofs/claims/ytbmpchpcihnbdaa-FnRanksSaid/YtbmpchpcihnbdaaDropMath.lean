/-
  Plain lists: how many blocks there are once a thing is left out. No program is named here.
-/
import Derived.Test.YtbmpchpcihnbdaaPlainMath
import Derived.Test.YtbmpchpcihnbdaaDrop
import Derived.Test.YtbmpchpcihnbdaaPlainKit
namespace Go.Proofs.Ytbmpchpcihnbdaa
set_option linter.unusedSimpArgs false
set_option linter.unusedVariables false
set_option linter.unnecessarySimpa false

theorem kNext_snoc (f : List Int) (x : Int) : kNext (f ++ [x]) = kNext f + if x ∈ f then 0 else 1 := by
  by_cases h : x ∈ f
  · rw [(kOut_mem h).2, if_pos h]; omega
  · rw [(kOut_new h).2, if_neg h]

/-- A number put anywhere counts once more just where it was not there. -/
theorem kNext_put (u : List Int) (x : Int) : ∀ v, kNext (u ++ x :: v) = kNext (u ++ v) + if x ∈ u ++ v then 0 else 1 := by
  refine snoc_induction ?_ fun v y ih => ?_
  · rw [List.append_nil]; exact kNext_snoc u x
  · have e1 : u ++ x :: (v ++ [y]) = (u ++ x :: v) ++ [y] := by simp
    have e2 : u ++ (v ++ [y]) = (u ++ v) ++ [y] := by simp
    rw [e1, e2, kNext_snoc, kNext_snoc, ih]
    by_cases hxy : y = x
    · subst hxy
      have m1 : y ∈ u ++ y :: v := by simp
      have m2 : y ∈ (u ++ v) ++ [y] := by simp
      rw [if_pos m1, if_pos m2]
    · have m1 : (y ∈ u ++ x :: v) ↔ y ∈ u ++ v := by simp [hxy]
      have m2 : (x ∈ (u ++ v) ++ [y]) ↔ x ∈ u ++ v := by simp [Ne.symm hxy]
      simp only [m1, m2]
      omega

theorem at_split {xs : List Int} {i : Nat} (h : i < xs.length) : xs = xs.take i ++ xs.getD i 0 :: xs.drop (i + 1) := by
  rw [← drop_cons xs i h, List.take_append_drop]

theorem count_dropAt {xs : List Int} {i : Nat} (h : i < xs.length) : xs.count (xs.getD i 0) = (dropAt xs i).count (xs.getD i 0) + 1 := by
  obtain ⟨x, hx⟩ : ∃ x, x = xs.getD i 0 := ⟨_, rfl⟩
  have e := at_split h
  rw [← hx] at e ⊢
  unfold dropAt
  conv => lhs; rw [e]
  rw [List.count_append, List.count_append, List.count_cons_self]
  omega

theorem pSize_le' {xs : List Int} (hx : partIn xs = true) : pSize xs ≤ xs.length := by
  have e := kOut_part hx
  have h1 := pSize_kOut xs
  rw [e] at h1
  have := (kNext_bd xs).2
  omega

theorem drop_facts {xs : List Int} {i : Nat} (hx : partIn xs = true) (h1 : xs.length ≠ 1) (h : i < xs.length) :
    partIn (kOut (dropAt xs i)) = true ∧ 1 ≤ xs.count (xs.getD i 0) ∧ (xs.count (xs.getD i 0) = 1 → pSize (kOut (dropAt xs i)) = pSize xs - 1) ∧ (xs.count (xs.getD i 0) ≠ 1 → pSize (kOut (dropAt xs i)) = pSize xs) := by
  have hl := dropAt_length xs i h
  have hb := partIn_len hx
  have hc := count_dropAt h
  have e1 : pSize xs = kNext xs := by
    have := pSize_kOut xs
    rw [kOut_part hx] at this
    exact this
  have e2 := kNext_put (xs.take i) (xs.getD i 0) (xs.drop (i + 1))
  rw [← at_split h] at e2
  have e3 : xs.take i ++ xs.drop (i + 1) = dropAt xs i := rfl
  rw [e3] at e2
  refine ⟨partIn_kOut (by omega) (by omega), by omega, fun hz => ?_, fun hz => ?_⟩
  · have : xs.getD i 0 ∉ dropAt xs i := List.count_eq_zero.mp (by omega)
    rw [if_neg this] at e2
    rw [pSize_kOut, e1]
    omega
  · have : xs.getD i 0 ∈ dropAt xs i := List.count_pos_iff.mp (by omega)
    rw [if_pos this] at e2
    rw [pSize_kOut, e1]
    omega

theorem count_take_succ {xs : List Int} {k : Nat} (x : Int) (h : k < xs.length) : (xs.take (k + 1)).count x = (xs.take k).count x + if xs.getD k 0 = x then 1 else 0 := by
  rw [take_snoc xs k h, List.count_append, List.count_singleton]
  congr 1
  by_cases e : xs.getD k 0 = x
  · simp [e]
  · simp [e]

end Go.Proofs.Ytbmpchpcihnbdaa
