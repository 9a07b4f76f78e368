/-
  The contract of impl.PartBlocks, given what the table of bits.TrailingZeros holds.
-/
import Derived.Test.YtdeeeiimlcggpaaDoorIter
import Derived.Test.YtdeeeiimlcggpaaDoorRowsCat
import Derived.Test.YtdeeeiimlcggpaaDoorBlocksOf
namespace Go.Proofs.YtdeeeiimlcggpaaDoor
set_option linter.unusedSimpArgs false
set_option linter.unusedVariables false
set_option linter.unnecessarySimpa false
open Go.RowKit
set_option maxRecDepth 100000

theorem bits_or : ∀ k : Nat, k < 8 → ∀ m : Nat, m < 2 ^ k → bitsL (m ||| 2 ^ k) = bitsL m ++ [(k : Int)] ∧ m ||| 2 ^ k < 2 ^ (k + 1) := by decide +kernel
theorem bits_mask (xs : List Int) (b : Nat) : ∀ k, k ≤ 8 → bitsL (maskAt xs b k) = blkAt xs b k ∧ maskAt xs b k < 2 ^ k
  | 0, _ => ⟨by unfold maskAt blkAt; decide, by unfold maskAt; decide⟩
  | k + 1, h => by
    obtain ⟨h1, h2⟩ := bits_mask xs b k (by omega)
    have h3 := bits_or k (by omega) _ h2
    have h4 : 2 ^ k ≤ 2 ^ (k + 1) := Nat.pow_le_pow_right (by omega) (by omega)
    unfold maskAt blkAt
    split
    · rw [h3.1, h1]
      exact ⟨rfl, h3.2⟩
    · exact ⟨h1, by omega⟩

theorem partBlocks_len (xs : List Int) (h : xs.length ≤ 1048576) : (partBlocks xs).1.length ≤ 1000000 ∧ total (partBlocks xs).1 ≤ 1000000 := by
  unfold partBlocks
  split
  · rename_i hp
    have hl := partIn_len hp
    have hbd := pSize_bd (partIn_small hp)
    obtain ⟨p, hpe⟩ : ∃ p : Nat, p = (pSize xs).toNat := ⟨_, rfl⟩
    have hp8 : p ≤ 8 := by omega
    rw [← hpe]
    show (blocksTo xs p).length ≤ 1000000 ∧ total (blocksTo xs p) ≤ 1000000
    refine ⟨by rw [blocksTo_length]; omega, ?_⟩
    have : ∀ l : List (List Int), (∀ r ∈ l, r.length ≤ 8) → total l ≤ 8 * l.length := by
      intro l
      induction l with
      | nil => intro _; simp [total]
      | cons r l ih =>
        intro h
        have h1 := ih fun s hs => h s (by simp [hs])
        have h2 := h r (by simp)
        simp [total] at h1 ⊢
        omega
    have h2 := this (blocksTo xs p) (fun r hr => by
      obtain ⟨b, _, rfl⟩ := List.mem_map.1 hr
      rw [blkAt_length]
      have := cntAt_le xs b xs.length
      omega)
    rw [blocksTo_length] at h2
    omega
  · simp [total]

end Go.Proofs.YtdeeeiimlcggpaaDoor
