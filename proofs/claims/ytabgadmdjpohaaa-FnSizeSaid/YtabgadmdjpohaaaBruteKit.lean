/-
  Small words out of what was asked of each partition one by one.
-/
import Derived.Test.YtabgadmdjpohaaaBrute
namespace Go.Proofs.Ytabgadmdjpohaaa
set_option linter.unusedSimpArgs false
set_option linter.unusedVariables false
set_option linter.unnecessarySimpa false

theorem size_facts {xs : List Int} (hx : partIn xs = true) : (pSize xs = xs.length ↔ (desc (sizes xs)).getD 0 0 = 1) ∧ (desc (sizes xs)).sum = xs.length ∧ 1 ≤ (desc (sizes xs)).length := by
  have h := parts_all sizeFacts sizeFacts_all hx
  simp only [sizeFacts, Bool.and_eq_true, decide_eq_true_eq] at h
  refine ⟨h.1.1, h.1.2, ?_⟩
  have h2 := pSize_pos (partIn_small hx) (partIn_len hx).1
  rw [desc_length, sizes_length]
  omega

theorem pSize_le {xs : List Int} (hx : partIn xs = true) : pSize xs ≤ xs.length := by
  have e := kOut_part hx
  have h1 := pSize_kOut xs
  rw [e] at h1
  have := (kNext_bd xs).2
  omega

theorem split_facts {xs : List Int} (hx : partIn xs = true) : (sumOf spl (sizes xs) = 0 ↔ pSize xs = xs.length) ∧ (pSize xs = 1 → sumOf spl (sizes xs) = ((2 ^ (xs.length - 1) - 1 : Nat) : Int)) := by
  have h := parts_all splitFacts splitFacts_all hx
  simp only [splitFacts, Bool.and_eq_true, decide_eq_true_eq] at h
  exact h

end Go.Proofs.Ytabgadmdjpohaaa
