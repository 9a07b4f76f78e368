/-
  The table of common things: what its rows add up to, and how many of its numbers are not 0. No program is named here.
-/
import Derived.Test.YthkkolnohgibeaaDoorRankMath
import Derived.Test.YthkkolnohgibeaaDoorMoves
namespace Go.Proofs.YthkkolnohgibeaaDoor
set_option linter.unusedSimpArgs false
set_option linter.unusedVariables false
set_option linter.unnecessarySimpa false

def sumR (f : Nat → Nat) : Nat → Nat
  | 0 => 0
  | n + 1 => sumR f n + f n

theorem sumR_congr {f g : Nat → Nat} {n : Nat} (h : ∀ i, i < n → f i = g i) : sumR f n = sumR g n := by
  induction n with
  | zero => rfl
  | succ n ih => unfold sumR; rw [ih (fun i hi => h i (by omega)), h n (by omega)]
theorem sumR_zero {f : Nat → Nat} {n : Nat} (h : ∀ i, i < n → f i = 0) : sumR f n = 0 := by
  induction n with
  | zero => rfl
  | succ n ih => unfold sumR; rw [ih (fun i hi => h i (by omega)), h n (by omega)]
/-- One place raised. -/
theorem sumR_one {f g : Nat → Nat} {n x d : Nat} (hx : x < n) (h : ∀ i, i < n → g i = f i + if i = x then d else 0) : sumR g n = sumR f n + d := by
  induction n with
  | zero => omega
  | succ n ih =>
    unfold sumR
    have hn := h n (by omega)
    by_cases e : n = x
    · subst e
      rw [if_pos rfl] at hn
      rw [hn, sumR_congr (f := g) (g := f) fun i hi => by rw [h i (by omega), if_neg (by omega)]; rfl]
      omega
    · rw [if_neg e] at hn
      rw [hn, ih (by omega) fun i hi => h i (by omega)]
      omega

theorem cntB_succ (p : Nat → Bool) (n : Nat) : cntB p (n + 1) = cntB p n + if p n then 1 else 0 := rfl
theorem cellN_succ (A B : Nat → Nat) (n x y : Nat) : cellN A B (n + 1) x y = cellN A B n x y + if A n = x ∧ B n = y then 1 else 0 := by
  show cntB _ (n + 1) = cntB _ n + _
  rw [cntB_succ]
  by_cases h1 : A n = x <;> by_cases h2 : B n = y <;> simp [h1, h2]

/-- A row adds up to the things of its block. -/
theorem row_sum {A B : Nat → Nat} {Q : Nat} (x : Nat) : ∀ n, (∀ i, i < n → B i < Q) → sumR (fun y => cellN A B n x y) Q = cntB (fun i => decide (A i = x)) n := by
  intro n
  induction n with
  | zero => intro _; exact sumR_zero fun y _ => rfl
  | succ n ih =>
    intro hB
    have ih := ih fun i hi => hB i (by omega)
    by_cases e : A n = x
    · have h1 : sumR (fun y => cellN A B (n + 1) x y) Q = sumR (fun y => cellN A B n x y) Q + 1 := sumR_one (x := B n) (hB n (by omega)) fun y _ => by
        rw [cellN_succ]
        by_cases hy : y = B n
        · rw [if_pos ⟨e, hy.symm⟩, if_pos hy]
        · rw [if_neg (fun q => hy q.2.symm), if_neg hy]
      rw [h1, ih, cntB_succ]
      simp [e]
    · have h1 : sumR (fun y => cellN A B (n + 1) x y) Q = sumR (fun y => cellN A B n x y) Q := sumR_congr fun y _ => by
        rw [cellN_succ, if_neg (fun q => e q.1)]
        rfl
      rw [h1, ih, cntB_succ]
      simp [e]

/-- How many numbers of a table are not 0. -/
def nz (T : Nat → Nat → Nat) (P Q : Nat) : Nat := sumR (fun x => cntB (fun y => decide (0 < T x y)) Q) P

theorem cntB_one {p q : Nat → Bool} {n x : Nat} (hx : x < n) (hp : p x = false) (hq : q x = true) (h : ∀ i, i < n → i ≠ x → q i = p i) : cntB q n = cntB p n + 1 := by
  induction n with
  | zero => omega
  | succ n ih =>
    unfold cntB
    by_cases e : n = x
    · subst e
      rw [hp, hq, cntB_congr (p := q) (q := p) fun i hi => h i (by omega) (by omega)]
      rfl
    · rw [ih (by omega) fun i hi hne => h i (by omega) hne, h n (by omega) e]
      omega

theorem nz_step {A B : Nat → Nat} {n P Q : Nat} (hA : A n < P) (hB : B n < Q) : nz (cellN A B (n + 1)) P Q = nz (cellN A B n) P Q + if cellN A B n (A n) (B n) = 0 then 1 else 0 := by
  unfold nz
  by_cases h0 : cellN A B n (A n) (B n) = 0
  · rw [if_pos h0]
    refine sumR_one (x := A n) hA fun x _ => ?_
    by_cases e : x = A n
    · rw [if_pos e]
      subst e
      refine cntB_one (x := B n) hB (by rw [h0]; rfl) (by rw [cellN_succ, if_pos ⟨rfl, rfl⟩]; simp) fun y _ hy => ?_
      rw [cellN_succ, if_neg (fun q => hy q.2.symm)]
      rfl
    · rw [if_neg e]
      refine cntB_congr fun y _ => ?_
      rw [cellN_succ, if_neg (fun q => e q.1.symm)]
      rfl
  · rw [if_neg h0]
    refine sumR_congr fun x _ => cntB_congr fun y _ => ?_
    rw [cellN_succ]
    by_cases q : A n = x ∧ B n = y
    · obtain ⟨rfl, rfl⟩ := q
      rw [if_pos ⟨rfl, rfl⟩]
      rw [decide_eq_true (by omega), decide_eq_true (by omega)]
    · rw [if_neg q]
      rfl

theorem cellN_zero {A B : Nat → Nat} {x y : Nat} : ∀ n, cellN A B n x y = 0 ↔ ∀ i, i < n → ¬ (A i = x ∧ B i = y) := by
  intro n
  induction n with
  | zero => exact ⟨fun _ i hi => by omega, fun _ => rfl⟩
  | succ n ih =>
    rw [cellN_succ]
    constructor
    · intro h i hi q
      by_cases e : i = n
      · subst e; rw [if_pos q] at h; omega
      · exact (ih.1 (by omega)) i (by omega) q
    · intro h
      rw [ih.2 fun i hi => h i (by omega), if_neg (h n (by omega))]

/-- The numbers that are not 0 are the blocks of the meet. -/
theorem nz_meet {A B : Nat → Nat} {m : List Int} {P Q : Nat} (hA : ∀ i, i < m.length → A i < P) (hB : ∀ i, i < m.length → B i < Q) (hm : ∀ i k, i < m.length → k < m.length → (m.getD i 0 = m.getD k 0 ↔ A i = A k ∧ B i = B k)) : kNext m = (nz (cellN A B m.length) P Q : Nat) := by
  have key : ∀ k, k ≤ m.length → kNext (m.take k) = (nz (cellN A B k) P Q : Nat) := by
    intro k
    induction k with
    | zero =>
      intro _
      have : nz (cellN A B 0) P Q = 0 := sumR_zero fun x _ => cntB_none fun y _ => rfl
      rw [this]
      simp
      rfl
    | succ k ih =>
      intro hk
      rw [kNext_upto (by omega), ih (by omega), nz_step (hA k (by omega)) (hB k (by omega))]
      by_cases h : m.getD k 0 ∈ m.take k
      · obtain ⟨i, hi, e⟩ := (mem_upto (by omega) _).1 h
        have h1 := (hm i k (by omega) (by omega)).1 e
        have h2 : ¬ cellN A B k (A k) (B k) = 0 := fun q => (cellN_zero k).1 q i hi h1
        rw [if_pos h, if_neg h2]
        rfl
      · have h2 : cellN A B k (A k) (B k) = 0 := (cellN_zero k).2 fun i hi q => h ((mem_upto (by omega) _).2 ⟨i, hi, (hm i k (by omega) (by omega)).2 q⟩)
        rw [if_neg h, if_pos h2]
        push_cast
        rfl
  have := key m.length (Nat.le_refl _)
  rwa [List.take_of_length_le (Nat.le_refl _)] at this

end Go.Proofs.YthkkolnohgibeaaDoor
