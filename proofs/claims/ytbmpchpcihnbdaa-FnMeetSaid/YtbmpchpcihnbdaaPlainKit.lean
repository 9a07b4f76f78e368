/-
  Small words for the plain laws: what the functions tell for partitions and for other lists.
-/
import Derived.Test.YtbmpchpcihnbdaaPlainMath
import Derived.Test.YtbmpchpcihnbdaaTogether
import Derived.Test.YtbmpchpcihnbdaaFinRank
import Derived.Test.YtbmpchpcihnbdaaFinSplits
import Derived.Test.YtbmpchpcihnbdaaDrop
namespace Go.Proofs.Ytbmpchpcihnbdaa
set_option linter.unusedSimpArgs false
set_option linter.unusedVariables false
set_option linter.unnecessarySimpa false

theorem partSize_yes {xs : List Int} (h : partIn xs = true) : partSize xs = (pSize xs, true) := by simp [partSize, h]
theorem partSize_no {xs : List Int} (h : ¬ partIn xs = true) : partSize xs = (0, false) := by simp [partSize, h]
theorem partType_yes {xs : List Int} (h : partIn xs = true) : partType xs = (desc (sizes xs), true) := by simp [partType, h]
theorem partType_no {xs : List Int} (h : ¬ partIn xs = true) : partType xs = ([], false) := by simp [partType, h]
theorem finerMeet_yes {xs ys : List Int} (h : alike xs ys = true) : finerMeet xs ys = (kOut (mix 8 xs ys), true) := by simp [finerMeet, h]
theorem finerMeet_no {xs ys : List Int} (h : alike xs ys = false) : finerMeet xs ys = ([], false) := by simp [finerMeet, h]
theorem finerJoin_yes {xs ys : List Int} (h : alike xs ys = true) : finerJoin xs ys = (kOut (joinAll xs ys xs.length xs.length), true) := by simp [finerJoin, h]
theorem finerJoin_no {xs ys : List Int} (h : alike xs ys = false) : finerJoin xs ys = ([], false) := by simp [finerJoin, h]

theorem finerRank_yes {xs : List Int} (h : partIn xs = true) : finerRank xs = ((xs.length : Int) - pSize xs, true) := by simp [finerRank, h]
theorem finerRank_no {xs : List Int} (h : ¬ partIn xs = true) : finerRank xs = (0, false) := by simp [finerRank, h]
theorem finerMerges_yes {xs : List Int} (h : partIn xs = true) {p : Nat} (hp : pSize xs = p) : finerMerges xs = (mergesTo xs p p, true) := by simp [finerMerges, h, hp]
theorem finerMerges_no {xs : List Int} (h : ¬ partIn xs = true) : finerMerges xs = ([], false) := by simp [finerMerges, h]
theorem finerSplits_yes {xs : List Int} (h : partIn xs = true) : finerSplits xs = (sumOf spl (sizes xs), true) := by simp [finerSplits, h]
theorem finerSplits_no {xs : List Int} (h : ¬ partIn xs = true) : finerSplits xs = (0, false) := by simp [finerSplits, h]
theorem finerChains_yes {xs : List Int} (h : partIn xs = true) {p : Nat} (hp : pSize xs = p) : finerChains xs = (chD p (p - 1), true) := by simp [finerChains, h, hp]
theorem finerChains_no {xs : List Int} (h : ¬ partIn xs = true) : finerChains xs = (0, false) := by simp [finerChains, h]
theorem finerInterval_yes {xs ys : List Int} (h : finerIn xs ys = true) : finerInterval xs ys = (prodOf bellN (inner xs ys), true) := by simp [finerInterval, h]
theorem finerInterval_no {xs ys : List Int} (h : finerIn xs ys = false) : finerInterval xs ys = (0, false) := by simp [finerInterval, h]

/-- What an interval tells of both partitions. -/
theorem interval_facts {xs ys : List Int} (h : finerIn xs ys = true) : (prodOf bellN (inner xs ys) = 1 ↔ xs = ys) ∧ (prodOf bellN (inner xs ys) = 2 ↔ pSize xs = pSize ys + 1) := by
  have h1 := inner_facts h
  have h2 := inner_sum h
  have h3 := inner_length xs ys
  have hnn : ∀ c ∈ inner xs ys, 0 ≤ c := fun c hc => by
    obtain ⟨j, hj, e⟩ := mem_iff_getD.1 hc
    have := h1.2 j hj
    omega
  have h4 := prod_small (inner xs ys) fun y hy => ⟨h1.2 y hy, by have := getD_le_sum (inner xs ys) y hnn hy; omega⟩
  have h5 := (pSize_bd (partIn_small (finer_parts h).2.1)).1
  refine ⟨?_, by omega⟩
  rw [h4.2.2.1]
  constructor
  · intro e
    exact under_both h (by omega)
  · intro e
    rw [h2, h3, e]
    omega

/-- A merge, by its place. -/
theorem merge_at {xs : List Int} (hx : partIn xs = true) (p : Nat) {k : Nat} (hk : k < (mergesTo xs p p).length) : ∃ x y : Nat, x < y ∧ y < p ∧ (mergesTo xs p p).getD k [] = kOut (retold xs (x : Int) (y : Int)) := by
  refine merges_each xs p _ p ?_
  simp [List.getD, hk]

theorem chains_step : ∀ p, p < 9 → 2 ≤ p → chD p (p - 1) = ((p * (p - 1) / 2 : Nat) : Int) * chD (p - 1) (p - 2) := by decide +kernel

theorem halves_zero : ∀ p, p < 9 → 1 ≤ p → (p * (p - 1) / 2 = 0 ↔ p = 1) := by decide

theorem wf_small {i : Int} (h0 : -100000 ≤ i) (h1 : i ≤ 100000) : (Lit.int .i64 i).wf = true := by
  simp [Lit.wf, IntKind.min, IntKind.max, IntKind.bits, IntKind.signed]
  omega

theorem pSize_end {xs : List Int} (h : partIn xs = true) : pSize xs = endFrom 0 xs := by
  have e := kOut_of_ok xs (partIn_ok h)
  have h2 := pSize_kOut xs
  rw [e.1] at h2
  rw [h2, e.2]

theorem put_part {xs : List Int} {k : Int} (h : partIn xs = true) (hl : xs.length ≠ 8) (h0 : 0 ≤ k) (h1 : k ≤ pSize xs) : partIn (xs ++ [k]) = true := by
  have hlen := partIn_len h
  have ha := okFrom_append xs 0 k
  have ho := partIn_ok h
  rw [pSize_end h] at h1
  unfold partIn
  rw [ha.1, ho]
  simp [h0, h1]
  omega

theorem put_drop {xs : List Int} {k : Int} (h : partIn xs = true) (hl : xs.length ≠ 8) (h0 : 0 ≤ k) (h1 : k ≤ pSize xs) : partDrop (xs ++ [k]) (xs.length : Int) = (xs, true) := by
  have hlen := partIn_len h
  have e : dropAt (xs ++ [k]) xs.length = xs := by
    unfold dropAt
    rw [List.take_left, List.drop_of_length_le (by simp)]
    simp
  unfold partDrop
  rw [if_pos ⟨put_part h hl h0 h1, by rw [List.length_append]; show xs.length + 1 ≠ 1; omega, by omega, by rw [List.length_append]; show (xs.length : Int) < ((xs.length + 1 : Nat) : Int); omega⟩, Int.toNat_natCast, e, kOut_part h]

theorem together_facts {xs : List Int} {i k : Int} (h : partTogether xs i k = true) : partTogether xs k i = true ∧ partTogether xs i i = true := by
  simp only [partTogether, Bool.and_eq_true, decide_eq_true_eq] at h ⊢
  obtain ⟨⟨⟨h1, h2⟩, h3⟩, h4⟩ := h
  exact ⟨⟨⟨⟨h1, h3⟩, h2⟩, h4.symm⟩, ⟨⟨⟨h1, h2⟩, h2⟩, trivial⟩⟩

theorem kernel_ends {xs : List Int} (h1 : 1 ≤ xs.length) (h8 : xs.length ≤ 8) : partTogether (kOut xs) 0 ((xs.length : Int) - 1) = decide (xs.getD 0 0 = xs.getD (xs.length - 1) 0) := by
  have hp := partIn_kOut h1 h8
  have e : ((xs.length : Int) - 1).toNat = xs.length - 1 := by omega
  unfold partTogether
  rw [hp, kOut_length, e, decide_eq_true (by omega : (0 : Int) ≤ 0 ∧ (0 : Int) < xs.length), decide_eq_true (by omega : 0 ≤ (xs.length : Int) - 1 ∧ (xs.length : Int) - 1 < xs.length)]
  simp only [Bool.true_and]
  rw [Bool.eq_iff_iff, decide_eq_true_eq, decide_eq_true_eq]
  exact ((kOut_inv xs).2 0 (xs.length - 1) (by omega) (by omega)).symm

end Go.Proofs.Ytbmpchpcihnbdaa
