/-
  Plain lists: numbers put to the places that different names tell. No program is named here.
-/
import Derived.Test.YtabgadmdjpohaaaNamed
import Derived.Test.YtabgadmdjpohaaaTogether
import Derived.Test.YtabgadmdjpohaaaPlainMath
namespace Go.Proofs.Ytabgadmdjpohaaa
set_option linter.unusedSimpArgs false
set_option linter.unusedVariables false
set_option linter.unnecessarySimpa false

theorem nameFrom_not (n : Nat) : ∀ (xs : List Int) (s b : Nat), nameFrom n s xs = true → s.testBit b = true → ∀ j, j < xs.length → (xs.getD j 0).toNat ≠ b := by
  intro xs
  induction xs with
  | nil => intro s b _ _ j hj; simp at hj
  | cons x xs ih =>
    intro s b h hb j hj
    simp only [nameFrom, Bool.and_eq_true, decide_eq_true_eq, Bool.not_eq_true'] at h
    cases j with
    | zero =>
      intro e
      have e : x.toNat = b := by simpa using e
      rw [e, hb] at h
      exact absurd h.1.2 (by simp)
    | succ j =>
      have := ih _ b h.2 (by rw [Nat.testBit_or, hb]; rfl) j (by simpa using hj)
      simpa using this

theorem nameFrom_ne (n : Nat) : ∀ (xs : List Int) (s : Nat), nameFrom n s xs = true → ∀ i j, i < j → j < xs.length → (xs.getD i 0).toNat ≠ (xs.getD j 0).toNat := by
  intro xs
  induction xs with
  | nil => intro s _ i j _ hj; simp at hj
  | cons x xs ih =>
    intro s h i j hij hj
    simp only [nameFrom, Bool.and_eq_true, decide_eq_true_eq, Bool.not_eq_true'] at h
    cases j with
    | zero => omega
    | succ j =>
      cases i with
      | zero =>
        have := nameFrom_not n xs (s ||| 2 ^ x.toNat) x.toNat h.2 (by rw [Nat.testBit_or, Nat.testBit_two_pow_self]; simp) j (by simpa using hj)
        simpa using this.symm
      | succ i =>
        have := ih _ h.2 i j (by omega) (by simpa using hj)
        simpa using this

theorem set_at (l : List Int) (j : Nat) (x : Int) (h : j < l.length) : (l.set j x).getD j 0 = x := by
  simp [List.getD, h]
theorem set_far (l : List Int) (i j : Nat) (x : Int) (h : i ≠ j) : (l.set i x).getD j 0 = l.getD j 0 := by
  simp [List.getD, List.getElem?_set_ne h]

theorem put_at {xs ps : List Int} (hn : namesOk xs.length ps = true) : ∀ k, k ≤ xs.length → ∀ i, i < k → (putTo xs ps k).getD (ps.getD i 0).toNat 0 = xs.getD i 0 := by
  obtain ⟨hl, hr⟩ := namesOk_facts hn
  have hne : ∀ i j, i < j → j < ps.length → (ps.getD i 0).toNat ≠ (ps.getD j 0).toNat := by
    simp only [namesOk, Bool.and_eq_true] at hn
    exact nameFrom_ne _ _ _ hn.2
  intro k
  induction k with
  | zero => intro _ i hi; omega
  | succ k ih =>
    intro hk i hi
    rw [putTo]
    have hb := hr k (by omega)
    by_cases e : i = k
    · subst e
      exact set_at _ _ _ (by rw [putTo_length]; omega)
    · rw [set_far _ _ _ _ (hne i k (by omega) (by omega)).symm]
      exact ih (by omega) i (by omega)

/-- Named things are together just as they were. -/
theorem named_together {xs ps : List Int} (hx : partIn xs = true) (hn : namesOk xs.length ps = true) {i k : Nat} (hi : i < xs.length) (hk : k < xs.length) :
    partIn (kOut (putTo xs ps xs.length)) = true ∧ partTogether (kOut (putTo xs ps xs.length)) (ps.getD i 0) (ps.getD k 0) = partTogether xs (i : Int) (k : Int) := by
  obtain ⟨hl, hr⟩ := namesOk_facts hn
  have hlen := partIn_len hx
  have hp : partIn (kOut (putTo xs ps xs.length)) = true := partIn_kOut (by rw [putTo_length]; exact hlen.1) (by rw [putTo_length]; exact hlen.2)
  refine ⟨hp, ?_⟩
  have h1 := hr i hi
  have h2 := hr k hk
  unfold partTogether
  rw [hp, hx, kOut_length, putTo_length, decide_eq_true (h1), decide_eq_true (h2), decide_eq_true (by omega : (0 : Int) ≤ (i : Int) ∧ (i : Int) < xs.length), decide_eq_true (by omega : (0 : Int) ≤ (k : Int) ∧ (k : Int) < xs.length)]
  simp only [Bool.true_and]
  rw [Bool.eq_iff_iff, decide_eq_true_eq, decide_eq_true_eq, Int.toNat_natCast, Int.toNat_natCast, ← (kOut_inv (putTo xs ps xs.length)).2 _ _ (by rw [putTo_length]; omega) (by rw [putTo_length]; omega), put_at hn _ (Nat.le_refl _) i hi, put_at hn _ (Nat.le_refl _) k hk]

end Go.Proofs.Ytabgadmdjpohaaa
