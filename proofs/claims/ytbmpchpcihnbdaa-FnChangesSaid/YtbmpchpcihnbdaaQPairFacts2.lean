/-
  Facts on whole pair lists, changes, best partitions. No program is named here.
-/
import Derived.Test.YtbmpchpcihnbdaaMgF
import Derived.Test.YtbmpchpcihnbdaaMgH
import Derived.Test.YtbmpchpcihnbdaaQPairBrute
import Derived.Test.YtbmpchpcihnbdaaMgD
namespace Go.Proofs.Ytbmpchpcihnbdaa
set_option linter.unusedSimpArgs false
set_option linter.unusedVariables false
set_option maxRecDepth 100000

theorem mem_allP2 {xs : List Int} (h : partIn xs = true) : xs ∈ allL xs.length := by
  have h1 := plc_bd (partIn_ok h)
  unfold allL
  rw [List.mem_map]
  refine ⟨(plc xs).toNat, by rw [List.mem_range]; omega, ?_⟩
  rw [show (((plc xs).toNat : Nat) : Int) = plc xs by omega]
  exact atL_plc (partIn_ok h)

theorem all_parts : ∀ n, n < 7 → 1 ≤ n → ((allL n).all fun x => partIn x && x.length == n) = true := by decide +kernel
theorem all_in {n : Nat} (h1 : 1 ≤ n) (h6 : n ≤ 6) {x : List Int} (h : x ∈ allL n) : partIn x = true ∧ x.length = n := by
  have := List.all_eq_true.1 (all_parts n (by omega) h1) x h
  simpa using this
theorem best_in {n : Nat} (h1 : 1 ≤ n) (h6 : n ≤ 6) (L : List (Nat × Nat)) : bestP n L ∈ allL n ∧ partIn (bestP n L) = true ∧ (bestP n L).length = n := by
  have h := best_mem L (allL n).tail ((allL n).getD 0 [])
  rw [all_cons h1 h6] at h
  exact ⟨h, all_in h1 h6 h⟩
theorem best_least {n : Nat} (h1 : 1 ≤ n) (h6 : n ≤ 6) (L : List (Nat × Nat)) {x : List Int} (hp : partIn x = true) (hl : x.length = n) : costP (bestP n L) L ≤ costP x L := by
  have hm := mem_allP2 hp
  rw [hl] at hm
  refine best_le L (allL n).tail ((allL n).getD 0 []) x ?_
  rw [all_cons h1 h6]
  exact hm

theorem part_of {xs : List Int} (hp : partIn xs = true) (h6 : xs.length ≤ 6) : partP xs.length (ofP xs) = xs := by
  have h := List.all_eq_true.1 (List.all_eq_true.1 part_all xs.length (List.mem_range.2 (by omega))) xs (mem_allP2 hp)
  exact eq_of_beq h
theorem whole_of {xs : List Int} (hp : partIn xs = true) (h6 : xs.length ≤ 6) : wholeP xs.length (ofP xs) = true := by
  unfold wholeP
  rw [part_of hp h6]
  simp

theorem singles_part : ∀ n, n < 7 → 1 ≤ n → partIn (iota 0 n) = true ∧ (iota 0 n).length = n := by decide +kernel
theorem one_part : ∀ n, n < 7 → 1 ≤ n → partIn (List.replicate n 0) = true ∧ (List.replicate n (0 : Int)).length = n := by decide +kernel

theorem changes_le {n : Nat} {L : List (Nat × Nat)} (h1 : 1 ≤ n) (h6 : n ≤ 6) (h : L.Sublist (allP n)) : costP (bestP n L) L ≤ L.length ∧ costP (bestP n L) L ≤ (otherP n L).length := by
  obtain ⟨p1, l1⟩ := singles_part n (by omega) h1
  obtain ⟨p2, l2⟩ := one_part n (by omega) h1
  have a := best_least h1 h6 L p1 l1
  have b := best_least h1 h6 L p2 l2
  rw [cost_single (by omega) h] at a
  rw [cost_one (by omega) h] at b
  exact ⟨a, b⟩

/-- A whole list is the list of its partition. -/
theorem whole_eq {n : Nat} {L : List (Nat × Nat)} (h1 : 1 ≤ n) (h5 : n ≤ 5) (h : L.Sublist (allP n)) (hw : wholeP n L = true) : L = ofP (partP n L) := by
  obtain ⟨_, hl, hp, ht, _⟩ := pair_chk h1 h5 h
  have hs : L.Sublist (ofP (partP n L)) := by
    refine sorted_sublist _ _ ((allP_sorted n (by omega)).sublist (by have := ofP_sub (partP n L); rw [hl] at this; exact this)) ((allP_sorted n (by omega)).sublist h) fun p hp2 => ?_
    unfold ofP
    rw [hl]
    exact List.mem_filter.2 ⟨h.subset hp2, by rw [ht p hp2]; simp⟩
  unfold wholeP at hw
  exact hs.eq_of_length (by have := eq_of_beq hw; omega)

theorem whole_iff {n : Nat} {L : List (Nat × Nat)} (h1 : 1 ≤ n) (h5 : n ≤ 5) (h : L.Sublist (allP n)) : (costP (bestP n L) L = 0 ↔ wholeP n L = true) ∧ (wholeP n L = true → bestP n L = partP n L) := by
  obtain ⟨_, hpb, hlb⟩ := best_in h1 (by omega) L
  have back : costP (bestP n L) L = 0 → partP n L = bestP n L ∧ wholeP n L = true := by
    intro h0
    have e := (cost_zero (by omega) h hlb).1 h0
    have e2 := part_of hpb (by omega)
    have e3 := whole_of hpb (by omega)
    rw [hlb, ← e] at e2 e3
    exact ⟨e2, e3⟩
  have forth : wholeP n L = true → costP (bestP n L) L = 0 := by
    intro hw
    have e := whole_eq h1 h5 h hw
    obtain ⟨_, hl, hp, _, _⟩ := pair_chk h1 h5 h
    have h2 := best_least h1 (by omega) L hp hl
    have h3 := (cost_zero (by omega) h hl).2 e
    have h4 := cost_nonneg (by omega) h hlb
    omega
  exact ⟨⟨fun h0 => (back h0).2, forth⟩, fun hw => ((back (forth hw)).1).symm⟩

end Go.Proofs.Ytbmpchpcihnbdaa
