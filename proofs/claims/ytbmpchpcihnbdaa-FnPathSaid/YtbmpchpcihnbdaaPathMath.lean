/-
  Plain lists: the path of two partitions by their join is at most their quarrel. No program is named here.
-/
import Derived.Test.YtbmpchpcihnbdaaRankMath
import Derived.Test.YtbmpchpcihnbdaaViewMath
namespace Go.Proofs.Ytbmpchpcihnbdaa
set_option linter.unusedSimpArgs false
set_option linter.unusedVariables false
set_option linter.unnecessarySimpa false

/-- Thing i told as one with each of the first k things with which b has it together; then all things. -/
def stepR (b : List Int) (i : Nat) : Nat → List Int → List Int
  | 0, r => r
  | k + 1, r => if b.getD i 0 = b.getD k 0 then (stepR b i k r).map (told ((stepR b i k r).getD k 0) ((stepR b i k r).getD i 0)) else stepR b i k r
def allR (b : List Int) : Nat → List Int → List Int
  | 0, r => r
  | i + 1, r => stepR b i i (allR b i r)

theorem getD_told (u v : Int) (r : List Int) (x : Nat) (hx : x < r.length) : (r.map (told u v)).getD x 0 = told u v (r.getD x 0) := by simp [List.getD, hx]

theorem stepR_len (b : List Int) (i k : Nat) (r : List Int) : (stepR b i k r).length = r.length := by
  induction k with
  | zero => rfl
  | succ k ih => unfold stepR; split <;> simp [ih]
theorem stepR_keep (b : List Int) (i k : Nat) (r : List Int) {x y : Nat} (hx : x < r.length) (hy : y < r.length) (h : r.getD x 0 = r.getD y 0) : (stepR b i k r).getD x 0 = (stepR b i k r).getD y 0 := by
  induction k with
  | zero => exact h
  | succ k ih =>
    unfold stepR
    split
    · rw [getD_told _ _ _ _ (by rw [stepR_len]; exact hx), getD_told _ _ _ _ (by rw [stepR_len]; exact hy), ih]
    · exact ih
theorem stepR_tog (b : List Int) (i : Nat) (r : List Int) (hi : i < r.length) : ∀ k, k ≤ i → ∀ j, j < k → b.getD i 0 = b.getD j 0 → (stepR b i k r).getD i 0 = (stepR b i k r).getD j 0 := by
  intro k
  induction k with
  | zero => intro _ j hj; omega
  | succ k ih =>
    intro hk j hj hb
    have hl := stepR_len b i k r
    unfold stepR
    by_cases e : b.getD i 0 = b.getD k 0
    · rw [if_pos e, getD_told _ _ _ _ (by omega), getD_told _ _ _ _ (by omega)]
      by_cases ej : j = k
      · subst ej
        unfold told
        rw [if_pos rfl]
        split <;> rfl
      · rw [ih (by omega) j (by omega) hb]
    · rw [if_neg e]
      have : j ≠ k := fun h => e (h ▸ hb)
      exact ih (by omega) j (by omega) hb

/-- Is a pair together in b alone? How many are. -/
def bad (a b : List Int) (i k : Nat) : Nat := if b.getD i 0 = b.getD k 0 ∧ a.getD i 0 ≠ a.getD k 0 then 1 else 0
def badRow (a b : List Int) (i : Nat) : Nat → Nat
  | 0 => 0
  | k + 1 => badRow a b i k + bad a b i k
def badTo (a b : List Int) : Nat → Nat
  | 0 => 0
  | i + 1 => badTo a b i + badRow a b i i

theorem bad_dif (a b : List Int) (i k : Nat) : bad a b i k + bad b a i k = dif a b i k := by
  unfold bad
  rcases Nat.eq_zero_or_pos (dif a b i k) with h | h
  · rw [h]
    have := dif_zero.1 h
    rw [if_neg (fun q => q.2 (this.2 q.1)), if_neg (fun q => q.2 (this.1 q.1))]
  · have h1 : dif a b i k = 1 := by have := dif_le a b i k; omega
    have h2 : ¬ (a.getD i 0 = a.getD k 0 ↔ b.getD i 0 = b.getD k 0) := fun q => by have := dif_zero.2 q; omega
    rw [h1]
    by_cases ea : a.getD i 0 = a.getD k 0
    · have eb : ¬ b.getD i 0 = b.getD k 0 := fun eb => h2 ⟨fun _ => eb, fun _ => ea⟩
      rw [if_neg (fun q => eb q.1), if_pos ⟨ea, eb⟩]
    · have eb : b.getD i 0 = b.getD k 0 := Classical.byContradiction fun eb => h2 ⟨fun q => absurd q ea, fun q => absurd q eb⟩
      rw [if_pos ⟨eb, ea⟩, if_neg (fun q => ea q.1)]
theorem badRow_dif (a b : List Int) (i k : Nat) : badRow a b i k + badRow b a i k = qRow a b i k := by
  induction k with
  | zero => rfl
  | succ k ih => have := bad_dif a b i k; unfold badRow qRow; omega
theorem badTo_dif (a b : List Int) (n : Nat) : badTo a b n + badTo b a n = quarTo a b n := by
  induction n with
  | zero => rfl
  | succ n ih => have := badRow_dif a b n n; unfold badTo quarTo; omega

theorem stepR_cnt (a b : List Int) (i : Nat) (r : List Int) (hi : i < r.length) (h : ∀ x y, x < r.length → y < r.length → a.getD x 0 = a.getD y 0 → r.getD x 0 = r.getD y 0) : ∀ k, k ≤ i → kNext r ≤ kNext (stepR b i k r) + (badRow a b i k : Nat) := by
  intro k
  induction k with
  | zero => intro _; show kNext r ≤ kNext r + (0 : Nat); omega
  | succ k ih =>
    intro hk
    have ih := ih (by omega)
    have hl := stepR_len b i k r
    have hb : badRow a b i (k + 1) = badRow a b i k + bad a b i k := rfl
    unfold stepR
    by_cases e : b.getD i 0 = b.getD k 0
    · rw [if_pos e]
      by_cases eq : (stepR b i k r).getD k 0 = (stepR b i k r).getD i 0
      · have : (stepR b i k r).map (told ((stepR b i k r).getD k 0) ((stepR b i k r).getD i 0)) = stepR b i k r := by
          rw [eq]
          have : told ((stepR b i k r).getD i 0) ((stepR b i k r).getD i 0) = id := by
            funext t
            unfold told
            split
            · rename_i h; exact h.symm
            · rfl
          rw [this, List.map_id]
        rw [this, hb]
        omega
      · have hna : a.getD i 0 ≠ a.getD k 0 := fun ea => eq (stepR_keep b i k r hi (by omega) (h i k hi (by omega) ea)).symm
        have hbad : bad a b i k = 1 := by unfold bad; rw [if_pos ⟨e, hna⟩]
        have ht := kNext_told eq (stepR b i k r)
        have : (if (stepR b i k r).getD i 0 ∈ stepR b i k r ∧ (stepR b i k r).getD k 0 ∈ stepR b i k r then (1 : Int) else 0) ≤ 1 := by split <;> omega
        rw [hb, hbad]
        omega
    · rw [if_neg e, hb]
      omega

theorem allR_len (b : List Int) (n : Nat) (r : List Int) : (allR b n r).length = r.length := by
  induction n with
  | zero => rfl
  | succ n ih => unfold allR; rw [stepR_len, ih]
theorem allR_keep (b : List Int) (n : Nat) (r : List Int) {x y : Nat} (hx : x < r.length) (hy : y < r.length) (h : r.getD x 0 = r.getD y 0) : (allR b n r).getD x 0 = (allR b n r).getD y 0 := by
  induction n with
  | zero => exact h
  | succ n ih => unfold allR; exact stepR_keep b n n _ (by rw [allR_len]; exact hx) (by rw [allR_len]; exact hy) ih
theorem allR_tog (b : List Int) (r : List Int) : ∀ n, n ≤ r.length → ∀ i k, i < n → k < i → b.getD i 0 = b.getD k 0 → (allR b n r).getD i 0 = (allR b n r).getD k 0 := by
  intro n
  induction n with
  | zero => intro _ i k hi; omega
  | succ n ih =>
    intro hn i k hi hk hb
    unfold allR
    have hl := allR_len b n r
    by_cases e : i = n
    · subst e
      exact stepR_tog b i _ (by omega) i (Nat.le_refl _) k hk hb
    · exact stepR_keep b n n _ (by omega) (by omega) (ih (by omega) i k (by omega) hk hb)
theorem allR_cnt (a b : List Int) : ∀ n, n ≤ a.length → kNext a ≤ kNext (allR b n a) + (badTo a b n : Nat) := by
  intro n
  induction n with
  | zero => intro _; show kNext a ≤ kNext a + (0 : Nat); omega
  | succ n ih =>
    intro hn
    have ih := ih (by omega)
    have hl := allR_len b n a
    have hs := stepR_cnt a b n (allR b n a) (by omega) (fun x y hx hy e => allR_keep b n a (by omega) (by omega) e) n (Nat.le_refl _)
    have hb : badTo a b (n + 1) = badTo a b n + badRow a b n n := rfl
    have : allR b (n + 1) a = stepR b n n (allR b n a) := rfl
    rw [this, hb]
    omega

/-- The way from both to whatever is no coarser than it must is at most their quarrel. -/
theorem path_quar {a b J : List Int} (hb : b.length = a.length) (hJ : J.length = a.length)
    (hc : ∀ r : List Int, r.length = a.length → (∀ i k, i < a.length → k < a.length → (a.getD i 0 = a.getD k 0 ∨ b.getD i 0 = b.getD k 0) → r.getD i 0 = r.getD k 0) → ∀ i j, i < a.length → j < a.length → J.getD i 0 = J.getD j 0 → r.getD i 0 = r.getD j 0) :
    kNext a + kNext b - 2 * kNext J ≤ (quar a b : Nat) := by
  have one : ∀ p q : List Int, p.length = a.length → q.length = a.length → (∀ r : List Int, r.length = a.length → (∀ i k, i < a.length → k < a.length → (p.getD i 0 = p.getD k 0 ∨ q.getD i 0 = q.getD k 0) → r.getD i 0 = r.getD k 0) → ∀ i j, i < a.length → j < a.length → J.getD i 0 = J.getD j 0 → r.getD i 0 = r.getD j 0) → kNext p ≤ kNext J + (badTo p q a.length : Nat) := by
    intro p q hp hq hpq
    have h1 := allR_cnt p q p.length (Nat.le_refl _)
    have hl := allR_len q p.length p
    have h2 : kNext (allR q p.length p) ≤ kNext J := kNext_coarse (by omega) fun i j hi hj e => hpq _ (by omega) (fun i k hi hk ht => by
      rcases ht with ht | ht
      · exact allR_keep q _ p (by omega) (by omega) ht
      · rcases Nat.lt_trichotomy i k with h | h | h
        · exact (allR_tog q p p.length (Nat.le_refl _) k i (by omega) h ht.symm).symm
        · rw [h]
        · exact allR_tog q p p.length (Nat.le_refl _) i k (by omega) h ht) i j (by omega) (by omega) e
    rw [hp] at h1 h2
    omega
  have a1 := one a b rfl hb hc
  have a2 := one b a hb rfl fun r hr hg => hc r hr fun i k hi hk ht => hg i k hi hk ht.symm
  have a3 := badTo_dif a b a.length
  unfold quar
  omega

end Go.Proofs.Ytbmpchpcihnbdaa
