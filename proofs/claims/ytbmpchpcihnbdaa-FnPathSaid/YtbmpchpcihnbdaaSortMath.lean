/-
  Plain lists: both ways to sort come to one list.
-/
import Derived.Test.YtbmpchpcihnbdaaBlocksOf
namespace Go.Proofs.Ytbmpchpcihnbdaa
set_option linter.unusedSimpArgs false
set_option linter.unusedVariables false
set_option linter.unnecessarySimpa false

theorem getD_set (l : List Int) (k : Nat) (x : Int) (q : Nat) (hk : k < l.length) : (l.set k x).getD q 0 = if q = k then x else l.getD q 0 := by
  rw [List.getD_eq_getElem?_getD, List.getElem?_set]
  by_cases e : k = q
  · subst e
    simp [hk]
  · rw [if_neg e, if_neg (fun e' => e e'.symm), ← List.getD_eq_getElem?_getD]

theorem getD_swap (l : List Int) (i j q : Nat) (hi : i < l.length) (hj : j < l.length) : (swapAt l i j).getD q 0 = if q = j then l.getD i 0 else if q = i then l.getD j 0 else l.getD q 0 := by
  unfold swapAt
  rw [getD_set _ _ _ _ (by simpa using hj), getD_set _ _ _ _ hi]

theorem swapAt_perm (l : List Int) (i j : Nat) (hi : i < l.length) (hj : j < l.length) : (swapAt l i j).Perm l := by
  have h := Array.swap_perm (xs := l.toArray) (i := i) (j := j) (by simpa using hi) (by simpa using hj)
  have h2 := Array.perm_iff_toList_perm.1 h
  have e : (l.toArray.swap i j (by simpa using hi) (by simpa using hj)).toList = swapAt l i j := by
    simp [swapAt, List.getD, hi, hj]
  rw [e] at h2
  simpa using h2

theorem sink_perm : ∀ (j : Nat) (l : List Int), j < l.length → (sink l j).Perm l := by
  intro j
  induction j with
  | zero => intro l _; exact List.Perm.refl _
  | succ j ih =>
    intro l hj
    unfold sink
    split
    · exact (ih _ (by rw [swapAt_length]; omega)).trans (swapAt_perm l (j + 1) j hj (by omega))
    · exact List.Perm.refl _

theorem isort_perm (l : List Int) (k : Nat) (h : k ≤ l.length) : (isort l k).Perm l := by
  induction k with
  | zero => exact List.Perm.refl _
  | succ k ih => exact (sink_perm k _ (by rw [isort_length]; omega)).trans (ih (by omega))

def SortedTo (l : List Int) (k : Nat) : Prop := ∀ p q, p < q → q < k → l.getD p 0 ≤ l.getD q 0

theorem sink_sorted (k : Nat) : ∀ (j : Nat) (l : List Int), j ≤ k → k < l.length → (∀ p q, p < q → q ≤ k → p ≠ j → q ≠ j → l.getD p 0 ≤ l.getD q 0) → (∀ q, j < q → q ≤ k → l.getD j 0 ≤ l.getD q 0) → SortedTo (sink l j) (k + 1) := by
  intro j
  induction j with
  | zero =>
    intro l hj hk h1 h2 p q hpq hq
    show l.getD p 0 ≤ l.getD q 0
    by_cases e : p = 0
    · subst e; exact h2 q hpq (by omega)
    · exact h1 p q hpq (by omega) e (by omega)
  | succ j ih =>
    intro l hj hk h1 h2
    unfold sink
    by_cases hlt : l.getD (j + 1) 0 < l.getD j 0
    · rw [if_pos hlt]
      have g := fun q => getD_swap l (j + 1) j q (by omega) (by omega)
      refine ih _ (by omega) (by rw [swapAt_length]; exact hk) ?_ ?_
      · intro p q hpq hq hp hqj
        rw [g p, g q, if_neg hp, if_neg hqj]
        by_cases e1 : p = j + 1
        · subst e1
          rw [if_pos rfl, if_neg (by omega)]
          exact h1 j q (by omega) hq (by omega) (by omega)
        · rw [if_neg e1]
          by_cases e2 : q = j + 1
          · subst e2
            rw [if_pos rfl]
            exact h1 p j (by omega) (by omega) e1 (by omega)
          · rw [if_neg e2]
            exact h1 p q hpq hq e1 e2
      · intro q hq hqk
        rw [g j, g q, if_pos rfl, if_neg (by omega)]
        by_cases e2 : q = j + 1
        · subst e2
          rw [if_pos rfl]
          omega
        · rw [if_neg e2]
          exact h2 q (by omega) hqk
    · rw [if_neg hlt]
      intro p q hpq hq
      by_cases e1 : p = j + 1
      · subst e1; exact h2 q hpq (by omega)
      · by_cases e2 : q = j + 1
        · subst e2
          by_cases e3 : p = j
          · subst e3; omega
          · have := h1 p j (by omega) (by omega) e1 (by omega)
            omega
        · exact h1 p q hpq (by omega) e1 e2

theorem isort_sorted (l : List Int) (k : Nat) (h : k ≤ l.length) : SortedTo (isort l k) k := by
  induction k with
  | zero => intro p q _ hq; omega
  | succ k ih =>
    have := ih (by omega)
    exact sink_sorted k k _ (Nat.le_refl _) (by rw [isort_length]; omega) (fun p q hpq hq hp hqk => this p q hpq (by omega)) (fun q hq hqk => by omega)

theorem desc_perm (l : List Int) : (desc l).Perm l := (List.reverse_perm _).trans (isort_perm l l.length (Nat.le_refl _))

theorem pairwise_of_getD (l : List Int) (h : ∀ p q, p < q → q < l.length → l.getD q 0 ≤ l.getD p 0) : l.Pairwise fun a b => b ≤ a := by
  rw [List.pairwise_iff_getElem]
  intro i j hi hj hij
  have := h i j hij hj
  simpa [List.getD, hi, hj] using this

theorem desc_pairwise (l : List Int) : (desc l).Pairwise fun a b => b ≤ a := by
  have hs := isort_sorted l l.length (Nat.le_refl _)
  have hl := isort_length l l.length
  refine pairwise_of_getD _ fun p q hpq hq => ?_
  rw [desc_length] at hq
  have e : ∀ r, r < l.length → (desc l).getD r 0 = (isort l l.length).getD (l.length - 1 - r) 0 := by
    intro r hr
    unfold desc
    rw [List.getD_eq_getElem?_getD, List.getElem?_reverse (by rw [hl]; exact hr), hl, ← List.getD_eq_getElem?_getD]
  rw [e p (by omega), e q (by omega)]
  exact hs _ _ (by omega) (by omega)

theorem desc_unique (l m : List Int) (hp : m.Perm l) (hs : m.Pairwise fun a b => b ≤ a) : m = desc l :=
  List.Perm.eq_of_pairwise (le := fun a b => b ≤ a) (fun a b _ _ h1 h2 => by omega) hs (desc_pairwise l) (hp.trans (desc_perm l).symm)

/-- Where a number goes into a list that does not rise: from place j down. -/
def posFrom (l : List Int) (v : Int) : Nat → Nat
  | 0 => 0
  | j + 1 => if l.getD j 0 < v then posFrom l v j else j + 1

theorem posFrom_spec (l : List Int) (v : Int) : ∀ j, posFrom l v j ≤ j ∧ (∀ p, posFrom l v j ≤ p → p < j → l.getD p 0 < v) ∧ (posFrom l v j = 0 ∨ v ≤ l.getD (posFrom l v j - 1) 0) := by
  intro j
  induction j with
  | zero => exact ⟨Nat.le_refl _, fun p _ hp => by omega, .inl rfl⟩
  | succ j ih =>
    unfold posFrom
    split
    · obtain ⟨h1, h2, h3⟩ := ih
      refine ⟨by omega, fun p hp hpj => ?_, h3⟩
      by_cases e : p = j
      · subst e; assumption
      · exact h2 p hp (by omega)
    · exact ⟨Nat.le_refl _, fun p hp hpj => by omega, .inr (by rw [Nat.add_sub_cancel]; omega)⟩

def insDesc (l : List Int) (v : Int) : List Int := l.take (posFrom l v l.length) ++ v :: l.drop (posFrom l v l.length)

theorem insDesc_perm (l : List Int) (v : Int) : (insDesc l v).Perm (l ++ [v]) := by
  unfold insDesc
  have h := List.perm_middle (a := v) (l₁ := l.take (posFrom l v l.length)) (l₂ := l.drop (posFrom l v l.length))
  rw [List.take_append_drop] at h
  exact h.trans (List.perm_append_singleton v l).symm

theorem getD_ins (l : List Int) (v : Int) (q p : Nat) (hq : q ≤ l.length) : (l.take q ++ v :: l.drop q).getD p 0 = if p < q then l.getD p 0 else if p = q then v else l.getD (p - 1) 0 := by
  have hl : (l.take q).length = q := by simp; omega
  rw [List.getD_eq_getElem?_getD]
  by_cases h1 : p < q
  · rw [if_pos h1, List.getElem?_append_left (by omega), List.getElem?_take, if_pos h1, ← List.getD_eq_getElem?_getD]
  · rw [if_neg h1, List.getElem?_append_right (by omega), hl]
    by_cases h2 : p = q
    · subst h2
      simp
    · rw [if_neg h2, show p - q = (p - q - 1) + 1 by omega, List.getElem?_cons_succ, List.getElem?_drop, show q + (p - q - 1) = p - 1 by omega, ← List.getD_eq_getElem?_getD]

theorem getD_of_pairwise (l : List Int) (h : l.Pairwise fun a b => b ≤ a) (p q : Nat) (hpq : p ≤ q) (hq : q < l.length) : l.getD q 0 ≤ l.getD p 0 := by
  by_cases e : p = q
  · subst e; exact Int.le_refl _
  · have := List.pairwise_iff_getElem.1 h p q (by omega) hq (by omega)
    simpa [List.getD, hq, show p < l.length by omega] using this

theorem insDesc_pairwise (l : List Int) (v : Int) (h : l.Pairwise fun a b => b ≤ a) : (insDesc l v).Pairwise fun a b => b ≤ a := by
  obtain ⟨h1, h2, h3⟩ := posFrom_spec l v l.length
  have hp := getD_of_pairwise l h
  unfold insDesc
  generalize posFrom l v l.length = q at *
  refine pairwise_of_getD _ fun a b hab hb => ?_
  simp at hb
  rw [getD_ins l v q a h1, getD_ins l v q b h1]
  by_cases a1 : a < q
  · rw [if_pos a1]
    by_cases b1 : b < q
    · rw [if_pos b1]; exact hp a b (by omega) (by omega)
    · rw [if_neg b1]
      by_cases b2 : b = q
      · rw [if_pos b2]
        rcases h3 with h3 | h3
        · omega
        · have := hp a (q - 1) (by omega) (by omega); omega
      · rw [if_neg b2]; exact hp a (b - 1) (by omega) (by omega)
  · rw [if_neg a1, if_neg (by omega), if_neg (by omega)]
    by_cases a2 : a = q
    · rw [if_pos a2]
      have := h2 (b - 1) (by omega) (by omega)
      omega
    · rw [if_neg a2]; exact hp (a - 1) (b - 1) (by omega) (by omega)

theorem fold_desc (l : List Int) : l.foldl insDesc [] = desc l := by
  have : ∀ (l acc : List Int), acc.Pairwise (fun a b => b ≤ a) → (l.foldl insDesc acc).Perm (acc ++ l) ∧ (l.foldl insDesc acc).Pairwise (fun a b => b ≤ a) := by
    intro l
    induction l with
    | nil => intro acc h; exact ⟨by simp, h⟩
    | cons x xs ih =>
      intro acc h
      obtain ⟨i1, i2⟩ := ih (insDesc acc x) (insDesc_pairwise acc x h)
      refine ⟨?_, i2⟩
      have h3 : (insDesc acc x ++ xs).Perm ((acc ++ [x]) ++ xs) := (insDesc_perm acc x).append_right xs
      simpa using i1.trans h3
  obtain ⟨h1, h2⟩ := this l [] List.Pairwise.nil
  exact desc_unique l _ (by simpa using h1) h2

end Go.Proofs.Ytbmpchpcihnbdaa
