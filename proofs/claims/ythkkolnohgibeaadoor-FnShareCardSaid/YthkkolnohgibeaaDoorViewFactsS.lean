/-
  Facts on shares, for the plain law.
-/
import Derived.Test.YthkkolnohgibeaaDoorViewShare
import Derived.Test.YthkkolnohgibeaaDoorShare
import Derived.Test.YthkkolnohgibeaaDoorPartBlocks
import Derived.Test.YthkkolnohgibeaaDoorFinMeet
import Derived.Test.YthkkolnohgibeaaDoorPlainKit
namespace Go.Proofs.YthkkolnohgibeaaDoor
set_option linter.unusedSimpArgs false
set_option linter.unusedVariables false

theorem viewShare_yes {xs ys : List Int} (h : alike xs ys = true) : viewShare xs ys = (shareOf xs ys, true) := by simp [viewShare, h]
theorem viewShare_no {xs ys : List Int} (h : alike xs ys = false) : viewShare xs ys = ([], false) := by simp [viewShare, h]

theorem tabRow_sum (A B : Nat → Nat) (k x : Nat) : ∀ q, (tabRow A B q k x).sum = (sumR (fun y => cellN A B k x y) q : Nat) := by
  intro q
  induction q with
  | zero => rfl
  | succ q ih =>
    have h1 : tabRow A B (q + 1) k x = tabRow A B q k x ++ [(cellN A B k x q : Int)] := by
      unfold tabRow
      rw [List.range_succ, List.map_append]
      rfl
    have h2 : sumR (fun y => cellN A B k x y) (q + 1) = sumR (fun y => cellN A B k x y) q + cellN A B k x q := rfl
    rw [h1, List.sum_append, ih, h2]
    simp

theorem cntAt_cntB {xs : List Int} (hp : partIn xs = true) (b : Nat) : ∀ k, k ≤ xs.length → cntAt xs b k = cntB (fun i => decide (numAtN xs i = b)) k := by
  intro k
  induction k with
  | zero => intro _; rfl
  | succ k ih =>
    intro hk
    have h1 := (numAtN_int hp (k := k) (by omega)).1
    have h2 : cntB (fun i => decide (numAtN xs i = b)) (k + 1) = cntB (fun i => decide (numAtN xs i = b)) k + if decide (numAtN xs k = b) = true then 1 else 0 := rfl
    have h3 : cntAt xs b (k + 1) = if xs.getD k 0 = b then cntAt xs b k + 1 else cntAt xs b k := rfl
    rw [h2, h3, ← ih (by omega)]
    by_cases e : xs.getD k 0 = (b : Int)
    · rw [if_pos e, if_pos (decide_eq_true (by omega))]
    · rw [if_neg e, if_neg (by rw [decide_eq_true_eq]; omega)]
      rfl

/-- How many numbers of the first k rows are not 0. -/
def nzTo (T : Nat → Nat → Nat) (q k : Nat) : Nat := sumR (fun x => cntB (fun y => decide (0 < T x y)) q) k

theorem share_facts {xs ys : List Int} (ha : alike xs ys = true) : ∃ p q : Nat, pSize xs = p ∧ pSize ys = q ∧ 1 ≤ p ∧ p ≤ 8 ∧ 1 ≤ q ∧ q ≤ 8 ∧
    viewShare xs ys = (tabTo (numAtN xs) (numAtN ys) p q xs.length, true) ∧ partBlocks xs = (blocksTo xs p, true) ∧ partSize (kOut (mix 8 xs ys)) = (((nzTo (cellN (numAtN xs) (numAtN ys) xs.length) q p : Nat) : Int), true) ∧
    (∀ i, i < p → (tabRow (numAtN xs) (numAtN ys) q xs.length i).sum = ((blkAt xs i xs.length).length : Nat)) := by
  obtain ⟨hx, hy, hl⟩ := alike_iff.1 ha
  have hl8 := partIn_len hx
  have b1 := pSize_bd (partIn_small hx)
  have b2 := pSize_bd (partIn_small hy)
  have b3 := pSize_pos (partIn_small hx) hl8.1
  have b4 := pSize_pos (partIn_small hy) (by omega)
  obtain ⟨p, hp⟩ := Int.eq_ofNat_of_zero_le b1.1
  obtain ⟨q, hq⟩ := Int.eq_ofNat_of_zero_le b2.1
  have hA : ∀ i, i < xs.length → numAtN xs i < p := fun i hi => by have := (numAtN_int hx hi).2; omega
  have hB : ∀ i, i < xs.length → numAtN ys i < q := fun i hi => by have := (numAtN_int hy (k := i) (by omega)).2; omega
  refine ⟨p, q, hp, hq, by omega, by omega, by omega, by omega, ?_, ?_, ?_, ?_⟩
  · rw [viewShare_yes ha]
    unfold shareOf
    rw [hp, hq]
    rfl
  · simp [partBlocks, hx, hp]
  · have hm := (finer_parts (meet_finer ha).1).1
    rw [partSize_yes hm, pSize_kOut]
    have hk := nz_meet (A := numAtN xs) (B := numAtN ys) (m := mix 8 xs ys) (P := p) (Q := q) (fun i hi => hA i (by rw [mix_length] at hi; exact hi)) (fun i hi => hB i (by rw [mix_length] at hi; exact hi)) (fun i k hi hk => by
      rw [mix_length] at hi hk
      have a1 := (numAtN_int hx hi).1
      have a2 := (numAtN_int hx hk).1
      have a3 := (numAtN_int hy (k := i) (by omega)).1
      have a4 := (numAtN_int hy (k := k) (by omega)).1
      rw [mix_eq_iff hx hy hl hi hk, a1, a2, a3, a4]
      constructor <;> intro h <;> omega)
    rw [mix_length] at hk
    rw [hk]
    rfl
  · intro i hi
    rw [tabRow_sum, row_sum i xs.length hB, blkAt_length, cntAt_cntB hx i xs.length (Nat.le_refl _)]

end Go.Proofs.YthkkolnohgibeaaDoor
