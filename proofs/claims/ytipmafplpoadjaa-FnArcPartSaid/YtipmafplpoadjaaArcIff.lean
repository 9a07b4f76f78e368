/-
  Which pairs of things are arcs; between which things they lead. No program is named here.
-/
import Derived.Test.YtipmafplpoadjaaArcMath
import Derived.Test.YtipmafplpoadjaaKernMath
namespace Go.Proofs.Ytipmafplpoadjaa
set_option linter.unusedSimpArgs false
set_option linter.unusedVariables false
set_option linter.unnecessarySimpa false

theorem idx_at {x : Int} {ys : List Int} {t : Nat} (ht : t < ys.length) (he : ys.getD t 0 = x) (hn : ∀ j, j < t → ys.getD j 0 ≠ x) : x ∈ ys ∧ ys.idxOf x = t := by
  have hm : x ∈ ys := mem_of_getD ht he
  refine ⟨hm, ?_⟩
  have hil := List.idxOf_lt_length_of_mem hm
  have hig := getD_idxOf hm
  rcases Nat.lt_trichotomy (ys.idxOf x) t with h | h | h
  · exact absurd hig (hn _ h)
  · exact h
  · have := List.not_of_lt_findIdx (p := (· == x)) (xs := ys) (i := t) (by simpa [List.idxOf] using h)
    simp [List.getD, ht] at he
    simp [he] at this

theorem arcsFrom_of : ∀ (xs : List Int) (i a b : Nat), a < b → b < xs.length → xs.getD b 0 = xs.getD a 0 → (∀ j, a < j → j < b → xs.getD j 0 ≠ xs.getD a 0) → (i + a, i + b) ∈ arcsFrom i xs := by
  intro xs
  induction xs with
  | nil => intro i a b _ h; simp at h
  | cons x ys ih =>
    intro i a b hab hb he hn
    obtain ⟨b', rfl⟩ : ∃ b', b = b' + 1 := ⟨b - 1, by omega⟩
    rw [List.getD_cons_succ] at he
    cases a with
    | zero =>
      rw [List.getD_cons_zero] at he
      obtain ⟨h1, h2⟩ := idx_at (x := x) (ys := ys) (t := b') (by simpa using hb) he (fun j hj => by
        have := hn (j + 1) (by omega) (by omega)
        simpa using this)
      rw [arcsFrom_yes h1, h2, Nat.add_zero, List.mem_cons]
      exact .inl (by congr 1; omega)
    | succ a =>
      rw [List.getD_cons_succ] at he
      have h := ih (i + 1) a b' (by omega) (by simpa using hb) he (fun j hj hk => by
        have := hn (j + 1) (by omega) (by omega)
        simpa using this)
      rw [show i + 1 + a = i + (a + 1) by omega, show i + 1 + b' = i + (b' + 1) by omega] at h
      by_cases hx : x ∈ ys
      · rw [arcsFrom_yes hx]; exact List.mem_cons_of_mem _ h
      · rw [arcsFrom_no hx]; exact h

theorem arcs_iff (xs : List Int) (p : Nat × Nat) : p ∈ arcsOf xs ↔ p.1 < p.2 ∧ p.2 < xs.length ∧ xs.getD p.2 0 = xs.getD p.1 0 ∧ ∀ j, p.1 < j → j < p.2 → xs.getD j 0 ≠ xs.getD p.1 0 := by
  constructor
  · intro h
    obtain ⟨_, h2, h3, h4, h5⟩ := arcsFrom_mem xs 0 p h
    exact ⟨h2, by omega, h4, h5⟩
  · intro ⟨h1, h2, h3, h4⟩
    have := arcsFrom_of xs 0 p.1 p.2 h1 h2 h3 h4
    rw [Nat.zero_add, Nat.zero_add] at this
    exact this


/-- A thing from which an arc leads, and one to which one leads. -/
def fromB (L : List (Nat × Nat)) (t : Nat) : Bool := L.any fun p => p.1 == t
def toB (L : List (Nat × Nat)) (t : Nat) : Bool := L.any fun p => p.2 == t

theorem first_behind {xs : List Int} {i : Nat} : ∀ d j, j = i + 1 + d → xs.getD j 0 = xs.getD i 0 → ∃ k, i < k ∧ k ≤ j ∧ xs.getD k 0 = xs.getD i 0 ∧ ∀ t, i < t → t < k → xs.getD t 0 ≠ xs.getD i 0 := by
  intro d
  induction d using Nat.strongRecOn with
  | _ d ih =>
    intro j hj he
    by_cases h : ∃ t, i < t ∧ t < j ∧ xs.getD t 0 = xs.getD i 0
    · obtain ⟨t, h1, h2, h3⟩ := h
      obtain ⟨k, a, b, c, e⟩ := ih (t - i - 1) (by omega) t (by omega) h3
      exact ⟨k, a, by omega, c, e⟩
    · exact ⟨j, by omega, Nat.le_refl _, he, fun t h1 h2 h3 => h ⟨t, h1, h2, h3⟩⟩

theorem last_ahead {xs : List Int} {i : Nat} : ∀ d j, i = j + 1 + d → xs.getD j 0 = xs.getD i 0 → ∃ k, j ≤ k ∧ k < i ∧ xs.getD k 0 = xs.getD i 0 ∧ ∀ t, k < t → t < i → xs.getD t 0 ≠ xs.getD i 0 := by
  intro d
  induction d using Nat.strongRecOn with
  | _ d ih =>
    intro j hj he
    by_cases h : ∃ t, j < t ∧ t < i ∧ xs.getD t 0 = xs.getD i 0
    · obtain ⟨t, h1, h2, h3⟩ := h
      obtain ⟨k, a, b, c, e⟩ := ih (i - t - 1) (by omega) t (by omega) h3
      exact ⟨k, by omega, b, c, e⟩
    · exact ⟨j, Nat.le_refl _, by omega, he, fun t h1 h2 h3 => h ⟨t, h1, h2, h3⟩⟩

theorem fromB_iff {xs : List Int} {i : Nat} : fromB (arcsOf xs) i = true ↔ ∃ j, i < j ∧ j < xs.length ∧ xs.getD j 0 = xs.getD i 0 := by
  simp only [fromB, List.any_eq_true, beq_iff_eq]
  constructor
  · rintro ⟨p, hp, rfl⟩
    obtain ⟨h1, h2, h3, _⟩ := (arcs_iff xs p).1 hp
    exact ⟨p.2, h1, h2, h3⟩
  · rintro ⟨j, h1, h2, h3⟩
    obtain ⟨k, a, b, c, e⟩ := first_behind (j - i - 1) j (by omega) h3
    exact ⟨(i, k), (arcs_iff xs (i, k)).2 ⟨a, by dsimp only; omega, c, e⟩, rfl⟩

theorem toB_iff {xs : List Int} {i : Nat} (hi : i < xs.length) : toB (arcsOf xs) i = true ↔ ∃ j, j < i ∧ xs.getD j 0 = xs.getD i 0 := by
  simp only [toB, List.any_eq_true, beq_iff_eq]
  constructor
  · rintro ⟨p, hp, rfl⟩
    obtain ⟨h1, h2, h3, _⟩ := (arcs_iff xs p).1 hp
    exact ⟨p.1, h1, h3.symm⟩
  · rintro ⟨j, h1, h3⟩
    obtain ⟨k, a, b, c, e⟩ := last_ahead (i - j - 1) j (by omega) h3
    exact ⟨(k, i), (arcs_iff xs (k, i)).2 ⟨b, hi, c.symm, fun t h4 h5 => by dsimp only at h4 h5 ⊢; rw [c]; exact e t h4 h5⟩, rfl⟩

def befB (xs : List Int) (i k : Nat) : Bool := (List.range k).any fun j => decide (j < i) && (xs.getD j 0 == xs.getD i 0)
def behB (xs : List Int) (i k : Nat) : Bool := (List.range k).any fun j => decide (i < j) && (xs.getD j 0 == xs.getD i 0)

theorem befB_succ (xs : List Int) (i k : Nat) : befB xs i (k + 1) = (befB xs i k || (decide (k < i) && (xs.getD k 0 == xs.getD i 0))) := by simp [befB, List.range_succ, List.any_append]
theorem behB_succ (xs : List Int) (i k : Nat) : behB xs i (k + 1) = (behB xs i k || (decide (i < k) && (xs.getD k 0 == xs.getD i 0))) := by simp [behB, List.range_succ, List.any_append]

theorem befB_all {xs : List Int} {i : Nat} (hi : i < xs.length) : befB xs i xs.length = toB (arcsOf xs) i := by
  rw [Bool.eq_iff_iff, toB_iff hi]
  simp only [befB, List.any_eq_true, List.mem_range, Bool.and_eq_true, decide_eq_true_eq, beq_iff_eq]
  constructor
  · rintro ⟨j, _, h1, h2⟩; exact ⟨j, h1, h2⟩
  · rintro ⟨j, h1, h2⟩; exact ⟨j, by omega, h1, h2⟩
theorem behB_all {xs : List Int} {i : Nat} : behB xs i xs.length = fromB (arcsOf xs) i := by
  rw [Bool.eq_iff_iff, fromB_iff]
  simp only [behB, List.any_eq_true, List.mem_range, Bool.and_eq_true, decide_eq_true_eq, beq_iff_eq]
  constructor
  · rintro ⟨j, h0, h1, h2⟩; exact ⟨j, h1, h0, h2⟩
  · rintro ⟨j, h1, h0, h2⟩; exact ⟨j, h0, h1, h2⟩

def openTo (xs : List Int) (k : Nat) : List Int := ((List.range k).filter fun t => fromB (arcsOf xs) t && !toB (arcsOf xs) t).map fun (t : Nat) => (t : Int)
def closeTo (xs : List Int) (k : Nat) : List Int := ((List.range k).filter fun t => toB (arcsOf xs) t && !fromB (arcsOf xs) t).map fun (t : Nat) => (t : Int)

theorem openTo_succ (xs : List Int) (k : Nat) : openTo xs (k + 1) = openTo xs k ++ if fromB (arcsOf xs) k && !toB (arcsOf xs) k then [(k : Int)] else [] := by
  unfold openTo
  rw [List.range_succ, List.filter_append, List.map_append]
  congr 1
  cases h : (fromB (arcsOf xs) k && !toB (arcsOf xs) k) <;> simp [h]
theorem closeTo_succ (xs : List Int) (k : Nat) : closeTo xs (k + 1) = closeTo xs k ++ if toB (arcsOf xs) k && !fromB (arcsOf xs) k then [(k : Int)] else [] := by
  unfold closeTo
  rw [List.range_succ, List.filter_append, List.map_append]
  congr 1
  cases h : (toB (arcsOf xs) k && !fromB (arcsOf xs) k) <;> simp [h]
theorem openTo_len (xs : List Int) (k : Nat) : (openTo xs k).length ≤ k := by
  unfold openTo
  rw [List.length_map]
  exact Nat.le_trans (List.length_filter_le _ _) (by simp)
theorem closeTo_len (xs : List Int) (k : Nat) : (closeTo xs k).length ≤ k := by
  unfold closeTo
  rw [List.length_map]
  exact Nat.le_trans (List.length_filter_le _ _) (by simp)

end Go.Proofs.Ytipmafplpoadjaa
