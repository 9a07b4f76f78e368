/-
  Facts on moves, for the plain law.
-/
import Derived.Test.YthkkolnohgibeaaDoorViewMoves
import Derived.Test.YthkkolnohgibeaaDoorTurnMath
import Derived.Test.YthkkolnohgibeaaDoorTurned
namespace Go.Proofs.YthkkolnohgibeaaDoor
set_option linter.unusedSimpArgs false
set_option linter.unusedVariables false

theorem viewMoves_yes {xs ys : List Int} (h : alike xs ys = true) : viewMoves xs ys = ((xs.length : Int) - (movesN xs ys : Nat), true) := by simp [viewMoves, h]
theorem viewMoves_no {xs ys : List Int} (h : alike xs ys = false) : viewMoves xs ys = (0, false) := by simp [viewMoves, h]

theorem numAtN_eq {xs : List Int} (hx : partIn xs = true) {i k : Nat} (hi : i < xs.length) (hk : k < xs.length) : numAtN xs i = numAtN xs k ↔ xs.getD i 0 = xs.getD k 0 := by
  have a1 := (numAtN_int hx hi).1
  have a2 := (numAtN_int hx hk).1
  omega

theorem moves_facts {xs ys : List Int} (ha : alike xs ys = true) : ∃ m : Nat, viewMoves xs ys = ((xs.length : Int) - m, true) ∧ viewMoves ys xs = ((xs.length : Int) - m, true) ∧ viewMoves (kOut xs.reverse) (kOut ys.reverse) = ((xs.length : Int) - m, true) ∧
    partTurned xs = (kOut xs.reverse, true) ∧ partTurned ys = (kOut ys.reverse, true) ∧ 1 ≤ m ∧ m ≤ xs.length ∧ (m = xs.length ↔ xs = ys) := by
  obtain ⟨hx, hy, hl⟩ := alike_iff.1 ha
  have hl8 := partIn_len hx
  have hm := moves_isMost ha
  have htx : partIn (kOut xs.reverse) = true := partIn_kOut (by rw [List.length_reverse]; exact hl8.1) (by rw [List.length_reverse]; exact hl8.2)
  have hty : partIn (kOut ys.reverse) = true := partIn_kOut (by rw [List.length_reverse, ← hl]; exact hl8.1) (by rw [List.length_reverse, ← hl]; exact hl8.2)
  have hlx : (kOut xs.reverse).length = xs.length := by rw [kOut_length, List.length_reverse]
  have hly : (kOut ys.reverse).length = xs.length := by rw [kOut_length, List.length_reverse, hl]
  have hat : alike (kOut xs.reverse) (kOut ys.reverse) = true := alike_iff.2 ⟨htx, hty, by omega⟩
  have e2 : movesN ys xs = movesN xs ys := by
    have := moves_isMost (alike_iff.2 ⟨hy, hx, hl.symm⟩)
    rw [← hl] at this
    exact isMost_one this (isMost_comm hm)
  have rev : ∀ zs : List Int, partIn zs = true → zs.length = xs.length → ∀ i k, i < xs.length → k < xs.length → (numAtN zs (xs.length - 1 - i) = numAtN zs (xs.length - 1 - k) ↔ numAtN (kOut zs.reverse) i = numAtN (kOut zs.reverse) k) := by
    intro zs hz hzl i k hi hk
    have htz : partIn (kOut zs.reverse) = true := partIn_kOut (by rw [List.length_reverse, hzl]; exact hl8.1) (by rw [List.length_reverse, hzl]; exact hl8.2)
    have hlz : (kOut zs.reverse).length = xs.length := by rw [kOut_length, List.length_reverse, hzl]
    rw [numAtN_eq hz (by omega) (by omega), numAtN_eq htz (by omega) (by omega)]
    have := (kOut_inv zs.reverse).2 i k (by rw [List.length_reverse]; omega) (by rw [List.length_reverse]; omega)
    rw [← this, getD_reverse zs i (by omega), getD_reverse zs k (by omega), hzl]
  have e3 : movesN (kOut xs.reverse) (kOut ys.reverse) = movesN xs ys := by
    have h1 := moves_isMost hat
    rw [hlx] at h1
    have h2 := isMost_pat (A' := numAtN (kOut xs.reverse)) (B' := numAtN (kOut ys.reverse)) (fun i k hi hk => by
      have r1 := rev xs hx rfl i k hi hk
      have r2 := rev ys hy hl.symm i k hi hk
      exact ⟨fun h => r1.symm.trans (h.trans r2), fun h => r1.trans (h.trans r2.symm)⟩) (isMost_rev hm)
    exact isMost_one h1 h2
  refine ⟨movesN xs ys, viewMoves_yes ha, ?_, ?_, by simp [partTurned, hx], by simp [partTurned, hy], isMost_pos hl8.1 hm, isMost_le hm, ?_⟩
  · rw [viewMoves_yes (alike_iff.2 ⟨hy, hx, hl.symm⟩), e2, hl]
  · rw [viewMoves_yes hat, e3, hlx]
  · rw [isMost_all hm]
    constructor
    · intro h
      have hp := (kOut_pat xs ys hl.symm fun i k hi hk => by
        rw [← numAtN_eq hx hi hk, ← numAtN_eq hy (by omega) (by omega)]
        exact h i k hi hk).1
      rw [(kOut_of_ok xs (partIn_ok hx)).1, (kOut_of_ok ys (partIn_ok hy)).1] at hp
      exact hp.symm
    · rintro rfl
      exact fun i k _ _ => Iff.rfl

end Go.Proofs.YthkkolnohgibeaaDoor
