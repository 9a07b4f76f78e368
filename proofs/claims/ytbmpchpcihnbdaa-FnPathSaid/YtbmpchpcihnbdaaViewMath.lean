/-
  Plain lists: on how many pairs two partitions differ. No program is named here.
-/
import Derived.Test.YtbmpchpcihnbdaaTurnMath
namespace Go.Proofs.Ytbmpchpcihnbdaa
set_option linter.unusedSimpArgs false
set_option linter.unusedVariables false
set_option linter.unnecessarySimpa false

/-- Do two lists differ on a pair? -/
def dif (a b : List Int) (i k : Nat) : Nat := if decide (a.getD i 0 = a.getD k 0) = decide (b.getD i 0 = b.getD k 0) then 0 else 1
/-- On how many pairs of i and one of the first k. -/
def qRow (a b : List Int) (i : Nat) : Nat → Nat
  | 0 => 0
  | k + 1 => qRow a b i k + dif a b i k
/-- On how many pairs of the first n. -/
def quarTo (a b : List Int) : Nat → Nat
  | 0 => 0
  | i + 1 => quarTo a b i + qRow a b i i
def quar (a b : List Int) : Nat := quarTo a b a.length

theorem dif_le (a b : List Int) (i k : Nat) : dif a b i k ≤ 1 := by unfold dif; split <;> omega
theorem dif_comm (a b : List Int) (i k : Nat) : dif a b i k = dif b a i k := by
  unfold dif
  by_cases h : decide (a.getD i 0 = a.getD k 0) = decide (b.getD i 0 = b.getD k 0)
  · rw [if_pos h, if_pos h.symm]
  · rw [if_neg h, if_neg (fun e => h e.symm)]
theorem dif_self (a : List Int) (i k : Nat) : dif a a i k = 0 := by simp [dif]
theorem dif_zero {a b : List Int} {i k : Nat} : dif a b i k = 0 ↔ (a.getD i 0 = a.getD k 0 ↔ b.getD i 0 = b.getD k 0) := by
  unfold dif
  by_cases h1 : a.getD i 0 = a.getD k 0 <;> by_cases h2 : b.getD i 0 = b.getD k 0 <;> simp [h1, h2]

theorem qRow_le (a b : List Int) (i k : Nat) : qRow a b i k ≤ k := by
  induction k with
  | zero => exact Nat.le_refl _
  | succ k ih => have := dif_le a b i k; unfold qRow; omega
theorem qRow_comm (a b : List Int) (i k : Nat) : qRow a b i k = qRow b a i k := by
  induction k with
  | zero => rfl
  | succ k ih => unfold qRow; rw [ih, dif_comm]
theorem quarTo_le (a b : List Int) (n : Nat) : quarTo a b n ≤ n * n := by
  induction n with
  | zero => exact Nat.le_refl _
  | succ n ih =>
    have h1 := qRow_le a b n n
    have h2 : (n + 1) * (n + 1) = n * n + n + n + 1 := by rw [Nat.succ_mul, Nat.mul_succ]; omega
    unfold quarTo
    omega
theorem quarTo_comm (a b : List Int) (n : Nat) : quarTo a b n = quarTo b a n := by
  induction n with
  | zero => rfl
  | succ n ih => unfold quarTo; rw [ih, qRow_comm]
theorem quar_comm {a b : List Int} (h : b.length = a.length) : quar a b = quar b a := by unfold quar; rw [h, quarTo_comm]

theorem qRow_self (a : List Int) (i k : Nat) : qRow a a i k = 0 := by
  induction k with
  | zero => rfl
  | succ k ih => unfold qRow; rw [ih, dif_self]
theorem quarTo_self (a : List Int) (n : Nat) : quarTo a a n = 0 := by
  induction n with
  | zero => rfl
  | succ n ih => unfold quarTo; rw [ih, qRow_self]

theorem qRow_zero {a b : List Int} {i : Nat} : ∀ k, qRow a b i k = 0 → ∀ j, j < k → dif a b i j = 0 := by
  intro k
  induction k with
  | zero => intro _ j hj; omega
  | succ k ih =>
    intro h j hj
    unfold qRow at h
    by_cases e : j = k
    · subst e; omega
    · exact ih (by omega) j (by omega)
theorem quarTo_zero {a b : List Int} : ∀ n, quarTo a b n = 0 → ∀ i k, k < i → i < n → dif a b i k = 0 := by
  intro n
  induction n with
  | zero => intro _ i k _ hi; omega
  | succ n ih =>
    intro h i k hk hi
    unfold quarTo at h
    by_cases e : i = n
    · subst e; exact qRow_zero i (by omega) k hk
    · exact ih (by omega) i k hk (by omega)

/-- Two partitions that differ on no pair are the same. -/
theorem quar_zero {a b : List Int} (ha : partIn a = true) (hb : partIn b = true) (hl : b.length = a.length) : quar a b = 0 ↔ a = b := by
  constructor
  · intro h
    have hz := quarTo_zero a.length h
    have hp : ∀ i k, i < a.length → k < a.length → (a.getD i 0 = a.getD k 0 ↔ b.getD i 0 = b.getD k 0) := by
      intro i k hi hk
      rcases Nat.lt_trichotomy i k with hlt | heq | hgt
      · have := dif_zero.1 (hz k i hlt hk)
        exact ⟨fun e => (this.1 e.symm).symm, fun e => (this.2 e.symm).symm⟩
      · subst heq; simp
      · exact dif_zero.1 (hz i k hgt hi)
    have e := (kOut_pat a b hl hp).1
    rw [(kOut_of_ok a (partIn_ok ha)).1, (kOut_of_ok b (partIn_ok hb)).1] at e
    exact e.symm
  · rintro rfl
    exact quarTo_self a _

/-- By way of what is together in both. -/
theorem dif_meet {a b m : List Int} {i k : Nat} (h : m.getD i 0 = m.getD k 0 ↔ a.getD i 0 = a.getD k 0 ∧ b.getD i 0 = b.getD k 0) : dif a m i k + dif m b i k = dif a b i k := by
  have hm : decide (m.getD i 0 = m.getD k 0) = (decide (a.getD i 0 = a.getD k 0) && decide (b.getD i 0 = b.getD k 0)) := by rw [← Bool.decide_and]; exact decide_eq_decide.2 h
  unfold dif
  rw [hm]
  cases decide (a.getD i 0 = a.getD k 0) <;> cases decide (b.getD i 0 = b.getD k 0) <;> rfl
theorem quar_meet {a b m : List Int} (h : ∀ i k, i < a.length → k < a.length → (m.getD i 0 = m.getD k 0 ↔ a.getD i 0 = a.getD k 0 ∧ b.getD i 0 = b.getD k 0)) (hl : m.length = a.length) : quar a m + quar m b = quar a b := by
  have hr : ∀ i, i < a.length → ∀ k, k ≤ i → qRow a m i k + qRow m b i k = qRow a b i k := by
    intro i hi k
    induction k with
    | zero => intro _; rfl
    | succ k ih =>
      intro hk
      have h1 := ih (by omega)
      have h2 := dif_meet (h i k hi (by omega))
      unfold qRow
      omega
  have hq : ∀ n, n ≤ a.length → quarTo a m n + quarTo m b n = quarTo a b n := by
    intro n
    induction n with
    | zero => intro _; rfl
    | succ n ih =>
      intro hn
      have h1 := ih (by omega)
      have h2 := hr n (by omega) n (Nat.le_refl _)
      unfold quarTo
      omega
  unfold quar
  rw [hl]
  exact hq _ (Nat.le_refl _)

/-- The sum of what one partition and some views differ on. -/
def costOf (a : List Int) (vs : List (List Int)) : Nat := vs.foldr (fun v s => quar a v + s) 0
theorem costOf_append (a : List Int) (l m : List (List Int)) : costOf a (l ++ m) = costOf a l + costOf a m := by
  induction l with
  | nil => simp [costOf]
  | cons x l ih =>
    show quar a x + costOf a (l ++ m) = quar a x + costOf a l + costOf a m
    rw [ih, Nat.add_assoc]
theorem costOf_step (a : List Int) (l : List (List Int)) (k : Nat) (h : k < l.length) : costOf a (l.take (k + 1)) = costOf a (l.take k) + quar a (l.getD k []) := by
  rw [List.take_succ_eq_append_getElem h, costOf_append]
  simp [costOf, List.getD, h]
theorem costOf_take (a : List Int) (l : List (List Int)) (k : Nat) : costOf a (l.take k) ≤ costOf a l := by
  have := costOf_append a (l.take k) (l.drop k)
  rw [List.take_append_drop] at this
  omega

/-- How many views differ from a on one pair; the sum over pairs. -/
def pc (a : List Int) (vs : List (List Int)) (i k : Nat) : Nat := vs.foldr (fun v s => dif a v i k + s) 0
def pRow (a : List Int) (vs : List (List Int)) (i : Nat) : Nat → Nat
  | 0 => 0
  | k + 1 => pRow a vs i k + pc a vs i k
def pTo (a : List Int) (vs : List (List Int)) : Nat → Nat
  | 0 => 0
  | i + 1 => pTo a vs i + pRow a vs i i

theorem pRow_nil (a : List Int) (i k : Nat) : pRow a [] i k = 0 := by
  induction k with
  | zero => rfl
  | succ k ih => unfold pRow; rw [ih]; rfl
theorem pTo_nil (a : List Int) (n : Nat) : pTo a [] n = 0 := by
  induction n with
  | zero => rfl
  | succ n ih => unfold pTo; rw [ih, pRow_nil]
theorem pRow_cons (a v : List Int) (vs : List (List Int)) (i k : Nat) : pRow a (v :: vs) i k = qRow a v i k + pRow a vs i k := by
  induction k with
  | zero => rfl
  | succ k ih =>
    have : pc a (v :: vs) i k = dif a v i k + pc a vs i k := rfl
    unfold pRow qRow
    omega
theorem pTo_cons (a v : List Int) (vs : List (List Int)) (n : Nat) : pTo a (v :: vs) n = quarTo a v n + pTo a vs n := by
  induction n with
  | zero => rfl
  | succ n ih =>
    have := pRow_cons a v vs n n
    unfold pTo quarTo
    omega
theorem costOf_pairs (a : List Int) (vs : List (List Int)) : costOf a vs = pTo a vs a.length := by
  induction vs with
  | nil => rw [pTo_nil]; rfl
  | cons v vs ih =>
    rw [pTo_cons, ← ih]
    rfl

theorem cost_le {a c : List Int} {vs : List (List Int)} (hl : c.length = a.length) (h : ∀ i k, i < a.length → k < i → pc a vs i k ≤ pc c vs i k) : costOf a vs ≤ costOf c vs := by
  rw [costOf_pairs, costOf_pairs, hl]
  have hr : ∀ i, i < a.length → ∀ k, k ≤ i → pRow a vs i k ≤ pRow c vs i k := by
    intro i hi k
    induction k with
    | zero => intro _; exact Nat.le_refl _
    | succ k ih =>
      intro hk
      have h1 := ih (by omega)
      have h2 := h i k hi (by omega)
      unfold pRow
      omega
  have hq : ∀ n, n ≤ a.length → pTo a vs n ≤ pTo c vs n := by
    intro n
    induction n with
    | zero => intro _; exact Nat.le_refl _
    | succ n ih =>
      intro hn
      have h1 := ih (by omega)
      have h2 := hr n (by omega) n (Nat.le_refl _)
      unfold pTo
      omega
  exact hq _ (Nat.le_refl _)

/-- How many views have a pair together. -/
def votes (vs : List (List Int)) (i k : Nat) : Nat := vs.foldr (fun v s => (if v.getD i 0 = v.getD k 0 then 1 else 0) + s) 0

theorem votes_le (vs : List (List Int)) (i k : Nat) : votes vs i k ≤ vs.length := by
  induction vs with
  | nil => exact Nat.le_refl _
  | cons v vs ih =>
    show (if v.getD i 0 = v.getD k 0 then 1 else 0) + votes vs i k ≤ vs.length + 1
    split <;> omega
theorem pc_votes (a : List Int) (vs : List (List Int)) (i k : Nat) : pc a vs i k = if a.getD i 0 = a.getD k 0 then vs.length - votes vs i k else votes vs i k := by
  induction vs with
  | nil => simp [pc, votes]
  | cons v vs ih =>
    have h0 := votes_le vs i k
    have h1 : pc a (v :: vs) i k = dif a v i k + pc a vs i k := rfl
    have h2 : votes (v :: vs) i k = (if v.getD i 0 = v.getD k 0 then 1 else 0) + votes vs i k := rfl
    have h3 : dif a v i k = if decide (a.getD i 0 = a.getD k 0) = decide (v.getD i 0 = v.getD k 0) then 0 else 1 := rfl
    rw [h1, h2, h3, ih, List.length_cons]
    by_cases ea : a.getD i 0 = a.getD k 0
    · rw [if_pos ea, if_pos ea, decide_eq_true ea]
      by_cases ev : v.getD i 0 = v.getD k 0
      · rw [if_pos ev, decide_eq_true ev, if_pos rfl]; omega
      · rw [if_neg ev, decide_eq_false ev, if_neg (by decide)]; omega
    · rw [if_neg ea, if_neg ea, decide_eq_false ea]
      by_cases ev : v.getD i 0 = v.getD k 0
      · rw [if_pos ev, decide_eq_true ev, if_neg (by decide)]
      · rw [if_neg ev, decide_eq_false ev, if_pos rfl]

/-- What has together just the pairs that most views have together costs least. -/
theorem most_least {a c : List Int} {vs : List (List Int)} (hl : c.length = a.length) (h : ∀ i k, i < a.length → k < i → (a.getD i 0 = a.getD k 0 ↔ vs.length < 2 * votes vs i k)) : costOf a vs ≤ costOf c vs := by
  refine cost_le hl fun i k hi hk => ?_
  have h0 := votes_le vs i k
  have h1 := h i k hi hk
  rw [pc_votes, pc_votes]
  by_cases e : a.getD i 0 = a.getD k 0
  · rw [if_pos e]
    have := h1.1 e
    split <;> omega
  · rw [if_neg e]
    have : ¬ vs.length < 2 * votes vs i k := fun hh => e (h1.2 hh)
    split <;> omega

end Go.Proofs.Ytbmpchpcihnbdaa
