/-
  Arcs of a list: what they are, in which order they stand, pairs of them. No program is named here.
-/
import Derived.Test.YtieldehghmikkaaPure
namespace Go.Proofs.Ytieldehghmikkaa
set_option linter.unusedSimpArgs false
set_option linter.unusedVariables false
set_option linter.unnecessarySimpa false

/-- The arcs of a list whose first number stands at place i. -/
def arcsFrom : Nat → List Int → List (Nat × Nat)
  | _, [] => []
  | i, x :: ys => if x ∈ ys then (i, i + 1 + ys.idxOf x) :: arcsFrom (i + 1) ys else arcsFrom (i + 1) ys

def arcsOf (xs : List Int) : List (Nat × Nat) := arcsFrom 0 xs

theorem arcsFrom_yes {i : Nat} {x : Int} {ys : List Int} (h : x ∈ ys) : arcsFrom i (x :: ys) = (i, i + 1 + ys.idxOf x) :: arcsFrom (i + 1) ys := by
  rw [arcsFrom, if_pos h]
theorem arcsFrom_no {i : Nat} {x : Int} {ys : List Int} (h : x ∉ ys) : arcsFrom i (x :: ys) = arcsFrom (i + 1) ys := by
  rw [arcsFrom, if_neg h]

theorem arcsFrom_length : ∀ (xs : List Int) (i : Nat), (arcsFrom i xs).length ≤ xs.length := by
  intro xs
  induction xs with
  | nil => intro i; simp [arcsFrom]
  | cons x ys ih =>
    intro i
    have := ih (i + 1)
    unfold arcsFrom
    split <;> simp <;> omega

/-- What an arc is: the things have the same number, and none between has it. -/
theorem arcsFrom_mem : ∀ (xs : List Int) (i : Nat) (p : Nat × Nat), p ∈ arcsFrom i xs →
    i ≤ p.1 ∧ p.1 < p.2 ∧ p.2 < i + xs.length ∧ xs.getD (p.2 - i) 0 = xs.getD (p.1 - i) 0 ∧ ∀ j, p.1 < j → j < p.2 → xs.getD (j - i) 0 ≠ xs.getD (p.1 - i) 0 := by
  intro xs
  induction xs with
  | nil => intro i p h; simp [arcsFrom] at h
  | cons x ys ih =>
    intro i p h
    have hr : p ∈ arcsFrom (i + 1) ys → i ≤ p.1 ∧ p.1 < p.2 ∧ p.2 < i + (x :: ys).length ∧ (x :: ys).getD (p.2 - i) 0 = (x :: ys).getD (p.1 - i) 0 ∧ ∀ j, p.1 < j → j < p.2 → (x :: ys).getD (j - i) 0 ≠ (x :: ys).getD (p.1 - i) 0 := by
      intro hm
      obtain ⟨h1, h2, h3, h4, h5⟩ := ih (i + 1) p hm
      have hs : ∀ j, i + 1 ≤ j → (x :: ys).getD (j - i) 0 = ys.getD (j - (i + 1)) 0 := fun j hj => by
        obtain ⟨t, ht⟩ : ∃ t, j - i = t + 1 := ⟨j - i - 1, by omega⟩
        rw [ht, List.getD_cons_succ, show j - (i + 1) = t by omega]
      refine ⟨by omega, h2, by simp; omega, ?_, fun j hj hk => ?_⟩
      · rw [hs _ (by omega), hs _ (by omega)]; exact h4
      · rw [hs _ (by omega), hs _ (by omega)]; exact h5 j hj hk
    by_cases hx : x ∈ ys
    · rw [arcsFrom_yes hx, List.mem_cons] at h
      rcases h with rfl | h
      · have hlt := List.idxOf_lt_length_of_mem hx
        refine ⟨Nat.le_refl _, by simp; omega, by simp; omega, ?_, fun j hj hk => ?_⟩
        · dsimp only
          rw [show i + 1 + List.idxOf x ys - i = List.idxOf x ys + 1 by omega, List.getD_cons_succ, Nat.sub_self, List.getD_cons_zero]
          simp [List.getD, hlt, List.getElem_idxOf hlt]
        · dsimp only at hj hk ⊢
          obtain ⟨t, ht⟩ : ∃ t, j - i = t + 1 := ⟨j - i - 1, by omega⟩
          rw [ht, List.getD_cons_succ, Nat.sub_self, List.getD_cons_zero]
          have htl : t < List.idxOf x ys := by omega
          have := List.not_of_lt_findIdx (p := (· == x)) (xs := ys) (i := t) (by simpa [List.idxOf] using htl)
          intro he
          simp [List.getD, show t < ys.length by omega] at he
          simp [he] at this
      · exact hr h
    · rw [arcsFrom_no hx] at h
      exact hr h

theorem arcsFrom_sorted : ∀ (xs : List Int) (i : Nat), (arcsFrom i xs).Pairwise (fun p q => p.1 < q.1 ∧ p.2 ≠ q.2) := by
  intro xs
  induction xs with
  | nil => intro i; simp [arcsFrom]
  | cons x ys ih =>
    intro i
    by_cases hx : x ∈ ys
    · rw [arcsFrom_yes hx, List.pairwise_cons]
      refine ⟨fun q hq => ?_, ih _⟩
      obtain ⟨h1, h2, h3, h4, h5⟩ := arcsFrom_mem ys (i + 1) q hq
      refine ⟨by dsimp only; omega, fun he => ?_⟩
      obtain ⟨_, _, _, g4, g5⟩ := arcsFrom_mem (x :: ys) i (i, i + 1 + ys.idxOf x) (by rw [arcsFrom_yes hx]; simp)
      dsimp only at he g4 g5
      refine g5 q.1 (by omega) (by omega) ?_
      rw [← g4, he]
      obtain ⟨t, ht⟩ : ∃ t, q.1 - i = t + 1 := ⟨q.1 - i - 1, by omega⟩
      obtain ⟨s, hs⟩ : ∃ s, q.2 - i = s + 1 := ⟨q.2 - i - 1, by omega⟩
      rw [ht, hs, List.getD_cons_succ, List.getD_cons_succ, show t = q.1 - (i + 1) by omega, show s = q.2 - (i + 1) by omega]
      exact h4.symm
    · rw [arcsFrom_no hx]
      exact ih _

/-- How many pairs of a list are so, the first one standing ahead of the second one. -/
def pairsL (p : Nat × Nat → Nat × Nat → Bool) : List (Nat × Nat) → Nat
  | [] => 0
  | x :: l => l.countP (p x) + pairsL p l

theorem pairsL_snoc (p : Nat × Nat → Nat × Nat → Bool) (y : Nat × Nat) : ∀ l, pairsL p (l ++ [y]) = pairsL p l + l.countP (fun x => p x y) := by
  intro l
  induction l with
  | nil => simp [pairsL]
  | cons x l ih =>
    rw [List.cons_append, pairsL, ih, pairsL, List.countP_append, List.countP_cons (l := l) (a := x)]
    simp only [List.countP_cons, List.countP_nil]
    omega

theorem pairsL_congr (p q : Nat × Nat → Nat × Nat → Bool) : ∀ l : List (Nat × Nat), l.Pairwise (fun x y => p x y = q x y) → pairsL p l = pairsL q l := by
  intro l
  induction l with
  | nil => intro _; rfl
  | cons x l ih =>
    intro h
    rw [List.pairwise_cons] at h
    rw [pairsL, pairsL, ih h.2, List.countP_congr (fun y hy => by rw [h.1 y hy])]

theorem pairsL_le (p : Nat × Nat → Nat × Nat → Bool) : ∀ l : List (Nat × Nat), pairsL p l ≤ l.length * l.length := by
  intro l
  induction l with
  | nil => simp [pairsL]
  | cons x l ih =>
    have := List.countP_le_length (p := p x) (l := l)
    simp only [pairsL, List.length_cons, Nat.add_mul, Nat.mul_add, Nat.one_mul, Nat.mul_one]
    omega

def crossB (x y : Nat × Nat) : Bool := decide (x.1 < y.1) && decide (y.1 < x.2) && decide (x.2 < y.2)
def nestB (x y : Nat × Nat) : Bool := decide (x.1 < y.1) && decide (y.2 < x.2)
def crossS (x y : Nat × Nat) : Bool := decide (y.1 < x.2) && decide (x.2 < y.2)
def nestS (x y : Nat × Nat) : Bool := decide (y.1 < x.2) && !decide (x.2 < y.2)

def crossings (xs : List Int) : Nat := pairsL crossB (arcsOf xs)
def nestings (xs : List Int) : Nat := pairsL nestB (arcsOf xs)

theorem cross_same (xs : List Int) : pairsL crossS (arcsOf xs) = crossings xs := by
  refine pairsL_congr _ _ _ ((arcsFrom_sorted xs 0).imp fun {x y} h => ?_)
  simp [crossS, crossB, h.1]

theorem nest_same (xs : List Int) : pairsL nestS (arcsOf xs) = nestings xs := by
  refine pairsL_congr _ _ _ (List.Pairwise.imp_of_mem (fun {x y} hx hy h => ?_) (arcsFrom_sorted xs 0))
  have := (arcsFrom_mem xs 0 y hy).2.1
  have h1 := h.1
  have h2 := h.2
  simp only [nestS, nestB, h1, decide_true, Bool.true_and]
  rw [Bool.eq_iff_iff]
  simp
  omega

theorem arcsOf_len (xs : List Int) : (arcsOf xs).length ≤ xs.length := arcsFrom_length xs 0

/-- The sum of the lengths of arcs. -/
def longL : List (Nat × Nat) → Nat
  | [] => 0
  | p :: l => (p.2 - p.1) + longL l

theorem longL_append (l m : List (Nat × Nat)) : longL (l ++ m) = longL l + longL m := by
  induction l with
  | nil => simp [longL]
  | cons x l ih => simp [longL, ih]; omega

/-- The arcs as lists. -/
def rowsOf (l : List (Nat × Nat)) : List (List Int) := l.map fun p => [(p.1 : Int), (p.2 : Int)]

/-- A list tells an arc between two of n things. -/
def toldOk (n : Int) (r : List Int) : Bool := decide (r.length = 2 ∧ (0 ≤ r.getD 0 0 ∧ r.getD 0 0 < n) ∧ r.getD 0 0 < r.getD 1 0 ∧ r.getD 1 0 < n)

end Go.Proofs.Ytieldehghmikkaa
