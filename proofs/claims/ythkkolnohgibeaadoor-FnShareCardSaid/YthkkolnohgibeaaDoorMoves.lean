/-
  The most things on which two labellings have the same pairs together: by sets of things, and by rows that take columns. No program is named here.
-/
import Derived.Test.YthkkolnohgibeaaDoorViewMath
namespace Go.Proofs.YthkkolnohgibeaaDoor
set_option linter.unusedSimpArgs false
set_option linter.unusedVariables false
set_option linter.unnecessarySimpa false

/-- How many of the first n numbers are such. -/
def cntB (p : Nat → Bool) : Nat → Nat
  | 0 => 0
  | n + 1 => cntB p n + if p n then 1 else 0

theorem cntB_congr {p q : Nat → Bool} {n : Nat} (h : ∀ i, i < n → p i = q i) : cntB p n = cntB q n := by
  induction n with
  | zero => rfl
  | succ n ih => unfold cntB; rw [ih (fun i hi => h i (by omega)), h n (by omega)]
theorem cntB_mono {p q : Nat → Bool} {n : Nat} (h : ∀ i, i < n → p i = true → q i = true) : cntB p n ≤ cntB q n := by
  induction n with
  | zero => exact Nat.le_refl _
  | succ n ih =>
    have h1 := ih (fun i hi => h i (by omega))
    have h2 := h n (by omega)
    unfold cntB
    by_cases e : p n = true
    · rw [if_pos e, if_pos (h2 e)]; omega
    · rw [if_neg e]; omega
theorem cntB_le (p : Nat → Bool) (n : Nat) : cntB p n ≤ n := by
  induction n with
  | zero => exact Nat.le_refl _
  | succ n ih => unfold cntB; split <;> omega
theorem cntB_none {p : Nat → Bool} {n : Nat} (h : ∀ i, i < n → p i = false) : cntB p n = 0 := by
  induction n with
  | zero => rfl
  | succ n ih => unfold cntB; rw [ih (fun i hi => h i (by omega)), h n (by omega)]; rfl
theorem cntB_add {p q r : Nat → Bool} {n : Nat} (h : ∀ i, i < n → (r i = (p i || q i)) ∧ ¬ (p i = true ∧ q i = true)) : cntB r n = cntB p n + cntB q n := by
  induction n with
  | zero => rfl
  | succ n ih =>
    obtain ⟨h1, h2⟩ := h n (by omega)
    unfold cntB
    rw [ih (fun i hi => h i (by omega)), h1]
    cases hp : p n <;> cases hq : q n <;> simp [hp, hq] at h2 ⊢ <;> omega
theorem cntB_full {p : Nat → Bool} {n : Nat} (h : cntB p n = n) : ∀ i, i < n → p i = true := by
  induction n with
  | zero => intro i hi; omega
  | succ n ih =>
    have hl := cntB_le p n
    unfold cntB at h
    intro i hi
    by_cases e : p n = true
    · rw [if_pos e] at h
      by_cases hin : i = n
      · rw [hin]; exact e
      · exact ih (by omega) i (by omega)
    · rw [if_neg e] at h; omega

/-- The best that d rows from one on can take of columns that are free. -/
def bestR (T : Nat → Nat → Nat) (Q : Nat) : Nat → Nat → Nat → Nat
  | 0, _, _ => 0
  | d + 1, row, used => (List.range Q).foldl (fun m c => if used.testBit c then m else max m (T row c + bestR T Q d (row + 1) (used ||| 2 ^ c))) (bestR T Q d (row + 1) used)

theorem fold_ge (p : Nat → Bool) (h : Nat → Nat) : ∀ (l : List Nat) (m : Nat), m ≤ l.foldl (fun m c => if p c then m else max m (h c)) m ∧ (∀ c ∈ l, p c = false → h c ≤ l.foldl (fun m c => if p c then m else max m (h c)) m) ∧
    (l.foldl (fun m c => if p c then m else max m (h c)) m = m ∨ ∃ c ∈ l, p c = false ∧ l.foldl (fun m c => if p c then m else max m (h c)) m = h c) := by
  intro l
  induction l with
  | nil => intro m; exact ⟨Nat.le_refl _, fun c hc => by simp at hc, .inl rfl⟩
  | cons x l ih =>
    intro m
    obtain ⟨h1, h2, h3⟩ := ih (if p x then m else max m (h x))
    simp only [List.foldl_cons]
    refine ⟨Nat.le_trans ?_ h1, fun c hc hp => ?_, ?_⟩
    · split <;> omega
    · rcases List.mem_cons.1 hc with rfl | hc
      · refine Nat.le_trans ?_ h1
        rw [hp]
        exact Nat.le_max_right _ _
      · exact h2 c hc hp
    · rcases h3 with h3 | ⟨c, hc, hp, h3⟩
      · rw [h3]
        by_cases e : p x = true
        · rw [if_pos e]; exact .inl rfl
        · rw [if_neg e]
          by_cases hm : h x ≤ m
          · left; exact Nat.max_eq_left hm
          · right; exact ⟨x, by simp, by simpa using e, Nat.max_eq_right (by omega)⟩
      · exact .inr ⟨c, by simp [hc], hp, h3⟩

/-- What rows take by a choice g of columns. -/
def sumG (T : Nat → Nat → Nat) (Q : Nat) (g : Nat → Nat) : Nat → Nat → Nat
  | 0, _ => 0
  | d + 1, row => (if g row < Q then T row (g row) else 0) + sumG T Q g d (row + 1)

def okG (Q : Nat) (g : Nat → Nat) (d row used : Nat) : Prop :=
  (∀ r, row ≤ r → r < row + d → g r < Q → used.testBit (g r) = false) ∧ ∀ r s, row ≤ r → r < s → s < row + d → g r < Q → g r ≠ g s

theorem best_ge (T : Nat → Nat → Nat) (Q : Nat) (g : Nat → Nat) : ∀ d row used, okG Q g d row used → sumG T Q g d row ≤ bestR T Q d row used := by
  intro d
  induction d with
  | zero => intro row used _; exact Nat.le_refl _
  | succ d ih =>
    rintro row used ⟨h1, h2⟩
    unfold sumG bestR
    obtain ⟨f1, f2, _⟩ := fold_ge (fun c => used.testBit c) (fun c => T row c + bestR T Q d (row + 1) (used ||| 2 ^ c)) (List.range Q) (bestR T Q d (row + 1) used)
    by_cases e : g row < Q
    · rw [if_pos e]
      have hu := h1 row (Nat.le_refl _) (by omega) e
      refine Nat.le_trans (Nat.add_le_add_left (ih (row + 1) (used ||| 2 ^ g row) ⟨fun r a b c => ?_, fun r s a b c => h2 r s (by omega) b (by omega)⟩) _) (f2 (g row) (List.mem_range.2 e) hu)
      rw [Nat.testBit_or, Bool.or_eq_false_iff, Nat.testBit_two_pow]
      exact ⟨h1 r (by omega) (by omega) c, by simpa using h2 row r (Nat.le_refl _) (by omega) (by omega) e⟩
    · rw [if_neg e, Nat.zero_add]
      exact Nat.le_trans (ih (row + 1) used ⟨fun r a b c => h1 r (by omega) (by omega) c, fun r s a b c => h2 r s (by omega) b (by omega)⟩) f1

theorem sumG_congr {T : Nat → Nat → Nat} {Q : Nat} {g g' : Nat → Nat} : ∀ d row, (∀ r, row ≤ r → r < row + d → g r = g' r) → sumG T Q g d row = sumG T Q g' d row := by
  intro d
  induction d with
  | zero => intro row _; rfl
  | succ d ih =>
    intro row h
    unfold sumG
    rw [h row (Nat.le_refl _) (by omega), ih (row + 1) (fun r a b => h r (by omega) (by omega))]

theorem best_some (T : Nat → Nat → Nat) (Q : Nat) : ∀ d row used, ∃ g, okG Q g d row used ∧ sumG T Q g d row = bestR T Q d row used := by
  intro d
  induction d with
  | zero => intro row used; exact ⟨fun _ => Q, ⟨fun r a b => by omega, fun r s a b c => by omega⟩, rfl⟩
  | succ d ih =>
    intro row used
    obtain ⟨_, _, f3⟩ := fold_ge (fun c => used.testBit c) (fun c => T row c + bestR T Q d (row + 1) (used ||| 2 ^ c)) (List.range Q) (bestR T Q d (row + 1) used)
    rcases f3 with f3 | ⟨c, hc, hp, f3⟩
    · obtain ⟨g, ⟨o1, o2⟩, hs⟩ := ih (row + 1) used
      refine ⟨fun r => if r = row then Q else g r, ⟨fun r a b h => ?_, fun r s a b h h' => ?_⟩, ?_⟩
      · by_cases e : r = row
        · simp [e] at h
        · simp only [if_neg e] at h ⊢
          exact o1 r (by omega) (by omega) h
      · by_cases e : r = row
        · simp [e] at h'
        · simp only [if_neg e, if_neg (show ¬ s = row by omega)] at h' ⊢
          exact o2 r s (by omega) b (by omega) h'
      · unfold sumG bestR
        rw [f3, ← hs, if_neg (by simp), Nat.zero_add]
        exact sumG_congr d (row + 1) fun r a b => if_neg (by omega)
    · have hcQ := List.mem_range.1 hc
      obtain ⟨g, ⟨o1, o2⟩, hs⟩ := ih (row + 1) (used ||| 2 ^ c)
      refine ⟨fun r => if r = row then c else g r, ⟨fun r a b h => ?_, fun r s a b h h' => ?_⟩, ?_⟩
      · by_cases e : r = row
        · simp only [if_pos e]; exact hp
        · simp only [if_neg e] at h ⊢
          have := o1 r (by omega) (by omega) h
          rw [Nat.testBit_or, Bool.or_eq_false_iff] at this
          exact this.1
      · have hsn : ¬ s = row := by omega
        by_cases e : r = row
        · simp only [if_pos e, if_neg hsn] at h' ⊢
          intro e2
          have := o1 s (by omega) (by omega) (by omega)
          rw [← e2, Nat.testBit_or, Bool.or_eq_false_iff, Nat.testBit_two_pow] at this
          simp at this
        · simp only [if_neg e, if_neg hsn] at h' ⊢
          exact o2 r s (by omega) b (by omega) h'
      · unfold sumG bestR
        rw [f3, ← hs]
        simp only [if_pos rfl, if_pos hcQ]
        rw [sumG_congr (g := fun r => if r = row then c else g r) (g' := g) d (row + 1) fun r a b => if_neg (by omega)]
        simp
        intro h
        omega

/-- How many things have the labels x and y. -/
def cellN (A B : Nat → Nat) (n x y : Nat) : Nat := cntB (fun i => decide (A i = x) && decide (B i = y)) n

theorem sumG_cells (A B : Nat → Nat) (n Q : Nat) (g : Nat → Nat) : ∀ d row, sumG (cellN A B n) Q g d row = cntB (fun i => decide (row ≤ A i ∧ A i < row + d) && decide (g (A i) < Q) && decide (B i = g (A i))) n := by
  intro d
  induction d with
  | zero =>
    intro row
    symm
    exact cntB_none fun i _ => by
      have : ¬ (row ≤ A i ∧ A i < row + 0) := by omega
      rw [decide_eq_false this]; rfl
  | succ d ih =>
    intro row
    unfold sumG
    rw [ih (row + 1)]
    have h1 : (if g row < Q then cellN A B n row (g row) else 0) = cntB (fun i => decide (A i = row) && decide (g (A i) < Q) && decide (B i = g (A i))) n := by
      by_cases e : g row < Q
      · rw [if_pos e]
        exact cntB_congr fun i _ => by
          by_cases ea : A i = row
          · simp [ea, e]
          · simp [ea]
      · rw [if_neg e]
        symm
        exact cntB_none fun i _ => by
          by_cases ea : A i = row
          · simp [ea, e]
          · simp [ea]
    rw [h1]
    symm
    refine cntB_add fun i _ => ?_
    constructor
    · by_cases ea : A i = row
      · have h2 : row ≤ A i ∧ A i < row + (d + 1) := by omega
        have h3 : ¬ (row + 1 ≤ A i ∧ A i < row + 1 + d) := by omega
        rw [decide_eq_true h2, decide_eq_true ea, decide_eq_false h3]
        simp
      · have h2 : (row ≤ A i ∧ A i < row + (d + 1)) ↔ (row + 1 ≤ A i ∧ A i < row + 1 + d) := by omega
        rw [show decide (row ≤ A i ∧ A i < row + (d + 1)) = decide (row + 1 ≤ A i ∧ A i < row + 1 + d) from decide_eq_decide.2 h2, decide_eq_false ea]
        simp
    · rintro ⟨h2, h3⟩
      simp only [Bool.and_eq_true, decide_eq_true_eq] at h2 h3
      omega

/-- The things of S have the same pairs together in both. -/
def agreeS (A B : Nat → Nat) (n : Nat) (S : Nat → Bool) : Prop := ∀ i k, i < n → k < n → S i = true → S k = true → (A i = A k ↔ B i = B k)

theorem best_sets {A B : Nat → Nat} {n P Q : Nat} (hA : ∀ i, i < n → A i < P) (hB : ∀ i, i < n → B i < Q) :
    (∀ S, agreeS A B n S → cntB S n ≤ bestR (cellN A B n) Q P 0 0) ∧ ∃ S, agreeS A B n S ∧ cntB S n = bestR (cellN A B n) Q P 0 0 := by
  constructor
  · intro S hS
    have hg : ∀ r, ∃ c, (∀ i, i < n → S i = true → A i = r → B i = c) ∧ (c < Q → ∃ i, i < n ∧ S i = true ∧ A i = r ∧ B i = c) := by
      intro r
      by_cases h : ∃ i, i < n ∧ S i = true ∧ A i = r
      · obtain ⟨i, hi, hs, ha⟩ := h
        exact ⟨B i, fun j hj hsj haj => (hS j i hj hi hsj hs).1 (haj.trans ha.symm), fun _ => ⟨i, hi, hs, ha, rfl⟩⟩
      · exact ⟨Q, fun i hi hs ha => absurd ⟨i, hi, hs, ha⟩ h, fun hh => absurd hh (Nat.lt_irrefl _)⟩
    obtain ⟨g, hg⟩ : ∃ g : Nat → Nat, ∀ r, (∀ i, i < n → S i = true → A i = r → B i = g r) ∧ (g r < Q → ∃ i, i < n ∧ S i = true ∧ A i = r ∧ B i = g r) := ⟨fun r => (hg r).choose, fun r => (hg r).choose_spec⟩
    refine Nat.le_trans ?_ (best_ge (cellN A B n) Q g P 0 0 ⟨fun r _ _ _ => by simp, fun r s _ hrs _ hq e => ?_⟩)
    · rw [sumG_cells]
      refine cntB_mono fun i hi hs => ?_
      have h1 := (hg (A i)).1 i hi hs rfl
      have h2 := hA i hi
      have h3 := hB i hi
      simp only [Bool.and_eq_true, decide_eq_true_eq]
      exact ⟨⟨by omega, by omega⟩, h1⟩
    · obtain ⟨i, hi, hsi, hai, hbi⟩ := (hg r).2 hq
      obtain ⟨k, hk, hsk, hak, hbk⟩ := (hg s).2 (by omega)
      have := (hS i k hi hk hsi hsk).2 (by rw [hbi, hbk, e])
      omega
  · obtain ⟨g, ⟨_, o2⟩, hs⟩ := best_some (cellN A B n) Q P 0 0
    refine ⟨fun i => decide (0 ≤ A i ∧ A i < 0 + P) && decide (g (A i) < Q) && decide (B i = g (A i)), fun i k hi hk h1 h2 => ?_, by rw [← hs, sumG_cells]⟩
    simp only [Bool.and_eq_true, decide_eq_true_eq] at h1 h2
    obtain ⟨⟨ha1, hq1⟩, hb1⟩ := h1
    obtain ⟨⟨ha2, hq2⟩, hb2⟩ := h2
    constructor
    · intro e; rw [hb1, hb2, e]
    · intro e
      rw [hb1, hb2] at e
      rcases Nat.lt_trichotomy (A i) (A k) with hlt | heq | hgt
      · exact absurd e (o2 (A i) (A k) (Nat.zero_le _) hlt (by omega) hq1)
      · exact heq
      · exact absurd e.symm (o2 (A k) (A i) (Nat.zero_le _) hgt (by omega) hq2)

/-- m is the greatest number of things on which both have the same pairs together. -/
def isMost (A B : Nat → Nat) (n m : Nat) : Prop := (∀ S, agreeS A B n S → cntB S n ≤ m) ∧ ∃ S, agreeS A B n S ∧ cntB S n = m

theorem isMost_one {A B : Nat → Nat} {n m m' : Nat} (h : isMost A B n m) (h' : isMost A B n m') : m = m' := by
  obtain ⟨S, hS, e⟩ := h.2
  obtain ⟨S', hS', e'⟩ := h'.2
  have a := h.1 S' hS'
  have b := h'.1 S hS
  omega
theorem isMost_pat {A B A' B' : Nat → Nat} {n m : Nat} (hp : ∀ i k, i < n → k < n → ((A i = A k ↔ B i = B k) ↔ (A' i = A' k ↔ B' i = B' k))) (h : isMost A B n m) : isMost A' B' n m := by
  have ha : ∀ S, agreeS A B n S ↔ agreeS A' B' n S := fun S => ⟨fun q i k hi hk hs hs' => (hp i k hi hk).1 (q i k hi hk hs hs'), fun q i k hi hk hs hs' => (hp i k hi hk).2 (q i k hi hk hs hs')⟩
  obtain ⟨S, hS, e⟩ := h.2
  exact ⟨fun S hS => h.1 S ((ha S).2 hS), S, (ha S).1 hS, e⟩
theorem isMost_comm {A B : Nat → Nat} {n m : Nat} (h : isMost A B n m) : isMost B A n m := isMost_pat (fun i k _ _ => ⟨fun q => q.symm, fun q => q.symm⟩) h

theorem cntB_head (p : Nat → Bool) (n : Nat) : cntB p (n + 1) = (if p 0 then 1 else 0) + cntB (fun i => p (i + 1)) n := by
  induction n with
  | zero => show 0 + (if p 0 = true then 1 else 0) = (if p 0 = true then 1 else 0) + 0; omega
  | succ n ih =>
    have h1 : cntB p (n + 2) = cntB p (n + 1) + if p (n + 1) then 1 else 0 := rfl
    have h2 : cntB (fun i => p (i + 1)) (n + 1) = cntB (fun i => p (i + 1)) n + if p (n + 1) then 1 else 0 := rfl
    rw [h1, h2, ih]
    omega
theorem cntB_rev (p : Nat → Bool) (n : Nat) : cntB (fun i => p (n - 1 - i)) n = cntB p n := by
  induction n with
  | zero => rfl
  | succ n ih =>
    rw [cntB_head]
    have h1 : cntB (fun i => p (n + 1 - 1 - (i + 1))) n = cntB (fun i => p (n - 1 - i)) n := cntB_congr fun i hi => by
      rw [show n + 1 - 1 - (i + 1) = n - 1 - i by omega]
    rw [h1, ih]
    have h2 : cntB p (n + 1) = cntB p n + if p n then 1 else 0 := rfl
    rw [h2]
    simp only [Nat.add_sub_cancel, Nat.sub_zero]
    omega
theorem isMost_rev {A B : Nat → Nat} {n m : Nat} (h : isMost A B n m) : isMost (fun i => A (n - 1 - i)) (fun i => B (n - 1 - i)) n m := by
  have hr : ∀ S, cntB (fun i => S (n - 1 - i)) n = cntB S n := fun S => cntB_rev S n
  refine ⟨fun S hS => ?_, ?_⟩
  · rw [← hr S]
    refine h.1 _ fun i k hi hk hs hs' => ?_
    have := hS (n - 1 - i) (n - 1 - k) (by omega) (by omega) hs hs'
    simp only at this
    rw [show n - 1 - (n - 1 - i) = i by omega, show n - 1 - (n - 1 - k) = k by omega] at this
    exact this
  · obtain ⟨S, hS, e⟩ := h.2
    exact ⟨fun i => S (n - 1 - i), fun i k hi hk hs hs' => hS (n - 1 - i) (n - 1 - k) (by omega) (by omega) hs hs', by rw [hr, e]⟩

theorem isMost_le {A B : Nat → Nat} {n m : Nat} (h : isMost A B n m) : m ≤ n := by
  obtain ⟨S, _, e⟩ := h.2
  rw [← e]
  exact cntB_le S n
theorem isMost_pos {A B : Nat → Nat} {n m : Nat} (hn : 1 ≤ n) (h : isMost A B n m) : 1 ≤ m := by
  refine Nat.le_trans ?_ (h.1 (fun i => decide (i = 0)) fun i k _ _ hi hk => ?_)
  · obtain ⟨n', rfl⟩ : ∃ n', n = n' + 1 := ⟨n - 1, by omega⟩
    rw [cntB_head]
    simp
  · have hi := of_decide_eq_true hi
    have hk := of_decide_eq_true hk
    subst hi
    subst hk
    simp
theorem isMost_all {A B : Nat → Nat} {n m : Nat} (h : isMost A B n m) : m = n ↔ ∀ i k, i < n → k < n → (A i = A k ↔ B i = B k) := by
  constructor
  · rintro rfl
    obtain ⟨S, hS, e⟩ := h.2
    have hf := cntB_full e
    exact fun i k hi hk => hS i k hi hk (hf i hi) (hf k hk)
  · intro hp
    have h1 := h.1 (fun _ => true) fun i k hi hk _ _ => hp i k hi hk
    have h2 : cntB (fun _ => true) n = n := by
      have : ∀ n, cntB (fun _ => true) n = n := by
        intro n
        induction n with
        | zero => rfl
        | succ n ih => unfold cntB; rw [ih]; rfl
      exact this n
    have h3 := isMost_le h
    omega

end Go.Proofs.YthkkolnohgibeaaDoor
